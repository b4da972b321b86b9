import Derived.Test.YtiamefgoeibhhaaGreatDoorY2
import Derived.Test.YtiamefgoeibhhaaGreatDoorJ10
set_option linter.unusedVariables false
set_option maxRecDepth 100000
set_option maxHeartbeats 8000000
namespace Go.Proofs.YtiamefgoeibhhaaGreatDoor
namespace Rx3
open Go.ChangeShapes Go.WideShapes Go.ChangeAt Go.RowKit Za Di Rz1 Rx1 Rx2
open Ic (blk_cell blk_free)
open Ie (set_heap)
theorem num_D (l:Tx):numD 4 l=(num l).map fun (u:Nat)=>(u:Int):=by
 by_cases h:l.length≤4
 ·rw[numD_low (by omega) h,Dm.numO_ref];unfold num;rw[if_neg (by omega)]
 ·unfold numD num;rw[if_pos (by omega),if_pos (by omega)];rfl
theorem cut_bl (s:ByteArray) (w:World) (hs:s.size<4294967281) (hL:Lib3 w):
  Calls Tryz.prog 29 #[.string s,.string ⟨#[32]⟩] w fun e w'=>∃B b,e=.returned (.tuple #[.string ⟨(head s.toList).toArray⟩,.string B,.bool b])∧Below w.heap.size w w':=by
 obtain⟨m,hm⟩:=hL.2.1
 refine(Tryz.strings_Cut s sp m w hs hm).mono ?_
 rintro e w' ⟨rfl,n,rfl⟩
 refine⟨⟨(Lib.cut s.data.toList sp.data.toList).2.1.toArray⟩,(Lib.cut s.data.toList sp.data.toList).2.2, ?_,La.bel_drew (Below.refl _ _) n⟩
 rw[sp_list,show s.data.toList=s.toList by rw[ByteArray.toList_eq],cut_head]
def CmdM (w:World) (B:Nat) (x:ByteArray) (a b:Int) (y:ByteArray):Prop:=w.heap[B]? =some (.cells #[.string x,.int .i64 a,.int .i64 b,.string y] 85)
abbrev cmdV (x:ByteArray) (a b:Int) (y:ByteArray):Value:=.agg #[.string x,.int .i64 a,.int .i64 b,.string y]
abbrev unV (k:Int):Value:=.iface 119 (.agg #[.iface 76 (.int .i64 k)])
theorem CmdM.below {w w':World} {B:Nat} {x y:ByteArray} {a b:Int} (h:CmdM w B x a b y) (hb:Below w.heap.size w w'):CmdM w' B x a b y:=(hb.block B (Array.getElem?_eq_some_iff.1 h).1).trans h
theorem CmdM.lt {w:World} {B:Nat} {x y:ByteArray} {a b:Int} (h:CmdM w B x a b y):B<w.heap.size:=(Array.getElem?_eq_some_iff.1 h).1
theorem CmdM.new (w:World) (x y:ByteArray) (a b:Int):CmdM (w.alloc (.cells #[.string x,.int .i64 a,.int .i64 b,.string y] 85)) w.heap.size x a b y:=heap_alloc_new w _
theorem CmdM.oth {w:World} {B:Nat} {x y:ByteArray} {a b:Int} (h:CmdM w B x a b y) {g i:Nat} (hne:B≠g) (v:Value):CmdM (w.setCell ⟨g,i,none⟩ v) B x a b y:=(Oi.set_block w ⟨g,i,none⟩ v B hne).trans h
theorem CmdM.cells {w:World} {B:Nat} {x y:ByteArray} {a b:Int} (h:CmdM w B x a b y):w.cell? ⟨B,0,none⟩=some (.string x)∧w.cell? ⟨B,1,none⟩=some (.int .i64 a)∧w.cell? ⟨B,2,none⟩=some (.int .i64 b)∧w.cell? ⟨B,3,none⟩=some (.string y)∧(∀i,w.frozen? ⟨B,i,none⟩=false):=
 ⟨blk_cell h rfl,blk_cell h rfl,blk_cell h rfl,blk_cell h rfl,fun i=>blk_free h⟩
theorem CmdM.set0 {w:World} {B:Nat} {x y:ByteArray} {a b:Int} (h:CmdM w B x a b y) (n:Int):CmdM (w.setCell ⟨B,1,none⟩ (.int .i64 n)) B x n b y:=set_heap h
theorem CmdM.set1 {w:World} {B:Nat} {x y:ByteArray} {a b:Int} (h:CmdM w B x a b y) (n:Int):CmdM (w.setCell ⟨B,2,none⟩ (.int .i64 n)) B x a n y:=set_heap h
theorem CmdM.setT {w:World} {B:Nat} {x y:ByteArray} {a b:Int} (h:CmdM w B x a b y) (z:ByteArray):CmdM (w.setCell ⟨B,3,none⟩ (.string z)) B x a b z:=set_heap h
theorem CmdM.all {w:World} {B:Nat} {x y:ByteArray} {a b:Int} (h:CmdM w B x a b y) (x' y':ByteArray) (a' b':Int):CmdM ((((w.setCell ⟨B,0,none⟩ (.string x')).setCell ⟨B,1,none⟩ (.int .i64 a')).setCell ⟨B,2,none⟩ (.int .i64 b')).setCell ⟨B,3,none⟩ (.string y')) B x' a' b' y':=by
 have h0:(w.setCell ⟨B,0,none⟩ (.string x')).heap[B]? =some (.cells #[.string x',.int .i64 a,.int .i64 b,.string y] 85):=set_heap h
 exact CmdM.setT (CmdM.set1 (CmdM.set0 h0 a') b') y'
theorem set4_below {B0 g:Nat} {w w':World} (h:Below B0 w w') (hg:B0≤g) (x y z u:Value):Below B0 w ((((w'.setCell ⟨g,0,none⟩ x).setCell ⟨g,1,none⟩ y).setCell ⟨g,2,none⟩ z).setCell ⟨g,3,none⟩ u):=
 (((h.setCell (p:=⟨g,0,none⟩) hg _).setCell (p:=⟨g,1,none⟩) hg _).setCell (p:=⟨g,2,none⟩) hg _).setCell (p:=⟨g,3,none⟩) hg _
abbrev e0:ByteArray:=⟨#[]⟩
abbrev mk (l:Tx):ByteArray:=⟨l.toArray⟩
def ReadPost (w:World) (r:Rd) (e:Ending) (w':World):Prop:=Below w.heap.size w w'∧(r=none→∃k,e=.returned (.tuple #[cmdV e0 0 0 e0,unV k]))∧∀x a b t,r=some (x,a,b,t)→e=.returned (.tuple #[cmdV (mk x) a b (mk t),.nilIface])
theorem ReadPost.no {w w':World} {r:Rd} (hr:r=none) (hb:Below w.heap.size w w') (k:Int):ReadPost w r (.returned (.tuple #[cmdV e0 0 0 e0,unV k])) w':=⟨hb,(fun _=>⟨k,rfl⟩),(fun x a b t h=>by rw[hr] at h;cases h)⟩
theorem ReadPost.yes {w w':World} {r:Rd} {x t:Tx} {a b:Nat} (hr:r=some (x,a,b,t)) (hb:Below w.heap.size w w'):ReadPost w r (.returned (.tuple #[cmdV (mk x) a b (mk t),.nilIface])) w':=⟨hb,(fun h=>by rw[hr] at h;cases h),(fun x' a' b' t' h=>by rw[hr] at h;cases h;rfl)⟩
theorem read_none (s:ByteArray) (w:World) (hs:s.size<4294967281) (hL:Lib3 w) (hf:form (head s.toList)=none):
  Calls Tryz.prog 31 #[.string s] w (ReadPost w (rd s.toList)):=by
 have HB0:Hid (Below w.heap.size w (w.alloc (.cells #[.string e0,.int .i64 0,.int .i64 0,.string e0] 85))):=(Below.refl _ w).alloc (Nat.le_refl _) _
 have HC0:Hid (CmdM (w.alloc (.cells #[.string e0,.int .i64 0,.int .i64 0,.string e0] 85)) w.heap.size e0 0 0 e0):=CmdM.new w _ _ _ _
 have C1:=cut_bl s (w.alloc (.cells #[.string e0,.int .i64 0,.int .i64 0,.string e0] 85)) hs (hL.below HB0.out)
 obtain⟨H,hH⟩:∃H:ByteArray,H=mk (head s.toList):=⟨_,rfl⟩
 have hHl:H.toList=head s.toList:=by rw[hH];exact Om.toList_mk _
 have HC2:Hid (∀W,Calls Tryz.prog 43 #[.string H] W fun e w'=>e=.returned (.tuple #[.agg #[.int .i64 0,.bool false],.bool false])∧Below W.heap.size W w'):=fun W=>by
  have h9:=form_any H W
  rw[hHl,hf] at h9;exact h9
 have HR:Hid (rd s.toList=none):=by unfold Hid rd;rw[hf]
 rw[show(⟨(head s.toList).toArray⟩:ByteArray)=H from hH.symm] at C1
 clear hf hL hs hH hHl
 go_enter Tryz.func31,Tryz.ntmps31
 go_wp2_with fail
 refine C1.mono ?_
 rintro e w1 ⟨B,b,rfl,hb1⟩
 have HB1:=z9 (La.bel HB0.out hb1)
 have HC1:=z9 (HC0.out.below hb1)
 have C2:=HC2.out w1
 clear C1 hb1 HC2
 go_wp2_with fail
 refine C2.mono ?_
 rintro e w2 ⟨rfl,hb2⟩
 have HB2:Hid (Below w.heap.size w (w2.alloc (.cells #[.int .i64 0,.bool false] 115))):=(La.bel HB1.out hb2).alloc (La.bel HB1.out hb2).size _
 have HC3:Hid (CmdM (w2.alloc (.cells #[.int .i64 0,.bool false] 115)) w.heap.size e0 0 0 e0):=(HC1.out.below hb2).below ((Below.refl _ w2).alloc (Nat.le_refl _) _)
 obtain⟨c0,c1,c2,c3,hfz⟩:=HC3.out.cells
 have f0:=hfz 0
 have f1:=hfz 1
 have f2:=hfz 2
 have f3:=hfz 3
 clear C2 hb2 hfz
 go_wp2_with fail
 obtain⟨d0,d1,d2,d3,_⟩:=(HC3.out.all e0 e0 0 0).cells
 refine bodyPost_ret (v:=.tuple #[cmdV e0 0 0 e0,unV 5]) ?_ rfl (ReadPost.no HR.out (set4_below HB2.out (Nat.le_refl _) _ _ _ _) 5)
 simp[results,Tryz.results31,go_sem,asAddr,Result.andThen,d0,d1,d2,d3]
def vI (P:List Tx) (j i:Nat):Nat:=if i<j then(num (P.getD (1+i) [])).getD 0 else 0
def FrmM (w:World) (B:Nat) (k:Int) (b:Bool):Prop:=w.heap[B]? =some (.cells #[.int .i64 k,.bool b] 115)
theorem FrmM.below {w w':World} {B:Nat} {k:Int} {b:Bool} (h:FrmM w B k b) (hb:Below w.heap.size w w'):FrmM w' B k b:=(hb.block B (Array.getElem?_eq_some_iff.1 h).1).trans h
theorem FrmM.oth {w:World} {B:Nat} {k:Int} {b:Bool} (h:FrmM w B k b) {g i:Nat} (hne:B≠g) (v:Value):FrmM (w.setCell ⟨g,i,none⟩ v) B k b:=(Oi.set_block w ⟨g,i,none⟩ v B hne).trans h
theorem pcs_oth {w:World} {B:Nat} {P:List Tx} (h:PcsAt w B P) {g i:Nat} (hne:B≠g) (v:Value):PcsAt (w.setCell ⟨g,i,none⟩ v) B P:=fun j hj=>by
 rw[World.cell?_setCell_other _ _ _ _ (by intro e;injection e with e _;exact hne e.symm)];exact h j hj
structure Rg (w wr:World) (R7 R10 g:Nat) (H:ByteArray) (P:List Tx) (k:Int) (b:Bool) (j:Nat):Prop where
 res:CmdM wr w.heap.size e0 0 0 e0
 frm:FrmM wr R7 k b
 cmd:CmdM wr R10 H (vI P j 0) (vI P j 1) e0
 pcs:PcsAt wr g P
 bel:Below w.heap.size w wr
 h7:w.heap.size<R7
 h10:R7<R10
 hg:w.heap.size<g∧g≠R10
theorem Rg.below {w wr w':World} {R7 R10 g:Nat} {H:ByteArray} {P:List Tx} {k:Int} {b:Bool} {j:Nat} (h:Rg w wr R7 R10 g H P k b j) (hb:Below wr.heap.size wr w'):Rg w w' R7 R10 g H P k b j:=
 ⟨h.res.below hb,h.frm.below hb,h.cmd.below hb,h.pcs.below hb,La.bel h.bel hb,h.h7,h.h10,h.hg⟩
theorem Rg.one {w wr:World} {R7 R10 g:Nat} {H:ByteArray} {P:List Tx} {k:Int} {b:Bool} (h:Rg w wr R7 R10 g H P k b 0) {n:Nat} (hn:num (P.getD 1 [])=some n):Rg w (wr.setCell ⟨R10,1,none⟩ (.int .i64 n)) R7 R10 g H P k b 1:=
 ⟨h.res.oth (by have:=h.h7;have:=h.h10;omega) _,h.frm.oth (by have:=h.h10;omega) _,by
  have h9:=h.cmd.set0 (n:Int)
  have e1:vI P 1 0=n:=by unfold vI;rw[if_pos (by omega),hn];rfl
  rw[e1];exact h9,pcs_oth h.pcs h.hg.2 _,h.bel.setCell (p:=⟨R10,1,none⟩) (by have:=h.h7;have:=h.h10;show w.heap.size≤R10;omega) _,h.h7,h.h10,h.hg⟩
theorem Rg.two {w wr:World} {R7 R10 g:Nat} {H:ByteArray} {P:List Tx} {k:Int} {b:Bool} (h:Rg w wr R7 R10 g H P k b 1) {n:Nat} (hn:num (P.getD 2 [])=some n):Rg w (wr.setCell ⟨R10,2,none⟩ (.int .i64 n)) R7 R10 g H P k b 2:=
 ⟨h.res.oth (by have:=h.h7;have:=h.h10;omega) _,h.frm.oth (by have:=h.h10;omega) _,by
  have h9:=h.cmd.set1 (n:Int)
  have e1:vI P 2 0=vI P 1 0:=rfl
  have e2:vI P 2 1=n:=by unfold vI;rw[if_pos (by omega),hn];rfl
  rw[e1,e2];exact h9,pcs_oth h.pcs h.hg.2 _,h.bel.setCell (p:=⟨R10,2,none⟩) (by have:=h.h7;have:=h.h10;show w.heap.size≤R10;omega) _,h.h7,h.h10,h.hg⟩
theorem Rg.setB {w wr:World} {R7 R10 g:Nat} {H:ByteArray} {P:List Tx} {k:Int} {b:Bool} {j:Nat} (h:Rg w wr R7 R10 g H P k b j) (i:Nat) (v:Value):CmdM (wr.setCell ⟨R10,i,none⟩ v) w.heap.size e0 0 0 e0∧Below w.heap.size w (wr.setCell ⟨R10,i,none⟩ v):=
 ⟨h.res.oth (by have:=h.h7;have:=h.h10;omega) _,h.bel.setCell (p:=⟨R10,i,none⟩) (by have:=h.h7;have:=h.h10;show w.heap.size≤R10;omega) _⟩
theorem num_yes {x:ByteArray} {l:Tx} {n:Nat} (hx:x=mk l) (h:num l=some n):numD 4 x.data.toList=some (n:Int):=by rw[hx,show(mk l).data.toList=l from rfl,num_D,h];rfl
theorem num_not {x:ByteArray} {l:Tx} (hx:x=mk l) (h:num l=none):numD 4 x.data.toList=none:=by rw[hx,show(mk l).data.toList=l from rfl,num_D,h];rfl
theorem read_go (k:Nat) (kz:Int) (hkz:kz=k) (hk:k≤2) (b:Bool) (hbk:b=true→k=2) (P:List Tx) (want:Nat) (hw1:1+k≤want) (hw2:b=true→want=4) (s:ByteArray) (w:World) (hs:s.size<4294967281) (hL:Lib3 w)
  (hform:∀H:ByteArray,H.toList=head s.toList→∀W,Calls Tryz.prog 43 #[.string H] W fun e w'=>e=.returned (.tuple #[.agg #[.int .i64 kz,.bool b],.bool true])∧Below W.heap.size W w')
  (hcut:∀W,Lib3 W→Calls Tryz.prog 44 #[.agg #[.int .i64 kz,.bool b],.string s] W fun e w'=>∃(g c n:Nat),e=.returned (.tuple #[.slice (some ⟨g,0,none⟩) n c,.bool (decide (n=want))])∧Hid (n=P.length)∧Hid (PcsAt w' g P)∧Below W.heap.size W w'∧W.heap.size≤g)
  (hr0:P.length≠want→rd s.toList=none) (hr1:P.length=want→(∃i,i<k∧num (P.getD (1+i) [])=none)→rd s.toList=none)
  (hr2:P.length=want→(∀i,i<k→num (P.getD (1+i) [])≠none)→rd s.toList=some (head s.toList,vI P k 0,vI P k 1,if b then P.getD 3 [] else[])):
  Calls Tryz.prog 31 #[.string s] w (ReadPost w (rd s.toList)):=by
 have HB0:Hid (Below w.heap.size w (w.alloc (.cells #[.string e0,.int .i64 0,.int .i64 0,.string e0] 85))):=(Below.refl _ w).alloc (Nat.le_refl _) _
 have HC0:Hid (CmdM (w.alloc (.cells #[.string e0,.int .i64 0,.int .i64 0,.string e0] 85)) w.heap.size e0 0 0 e0):=CmdM.new w _ _ _ _
 have C1:=cut_bl s (w.alloc (.cells #[.string e0,.int .i64 0,.int .i64 0,.string e0] 85)) hs (hL.below HB0.out)
 obtain⟨H,hH⟩:∃H:ByteArray,H=mk (head s.toList):=⟨_,rfl⟩
 have HH:=z9 hH
 have HC2:Hid (∀W,Calls Tryz.prog 43 #[.string H] W fun e w'=>e=.returned (.tuple #[.agg #[.int .i64 kz,.bool b],.bool true])∧Below W.heap.size W w'):=hform H (by rw[hH];exact Om.toList_mk _)
 have HCU:Hid _:=hcut
 have HR0:Hid _:=hr0
 have HR1:Hid _:=hr1
 have HR2:Hid _:=hr2
 have HL:=z9 hL
 have HK:Hid (kz=k∧k≤2∧(b=true→k=2)∧1+k≤want∧(b=true→want=4)):=⟨hkz,hk,hbk,hw1,hw2⟩
 have hz0:0≤kz:=by omega
 have hz2:kz≤2:=by omega
 rw[show(⟨(head s.toList).toArray⟩:ByteArray)=H from hH.symm] at C1
 clear hL hs hH hform hcut hr0 hr1 hr2 hkz hk hbk hw1 hw2
 go_enter Tryz.func31,Tryz.ntmps31
 go_wp2_with fail
 refine C1.mono ?_
 rintro e w1 ⟨B,b1,rfl,hb1⟩
 have HB1:=z9 (La.bel HB0.out hb1)
 have HC1:=z9 (HC0.out.below hb1)
 have C2:=HC2.out w1
 clear C1 hb1 HC2 HC0 HB0
 go_wp2_with fail
 refine C2.mono ?_
 rintro e w2 ⟨rfl,hb2⟩
 have HB2:Hid (Below w.heap.size w (w2.alloc (.cells #[.int .i64 kz,.bool b] 115))):=(La.bel HB1.out hb2).alloc (La.bel HB1.out hb2).size _
 have HC3:Hid (CmdM (w2.alloc (.cells #[.int .i64 kz,.bool b] 115)) w.heap.size e0 0 0 e0):=(HC1.out.below hb2).below ((Below.refl _ w2).alloc (Nat.le_refl _) _)
 have HF3:Hid (FrmM (w2.alloc (.cells #[.int .i64 kz,.bool b] 115)) w2.heap.size kz b):=heap_alloc_new w2 _
 have H7:Hid (w.heap.size<w2.heap.size):=by have:=HC1.out.lt;have:=hb2.size;unfold Hid;omega
 have C3:=HCU.out (w2.alloc (.cells #[.int .i64 kz,.bool b] 115)) (HL.out.below HB2.out)
 clear C2 hb2 HC1 HB1 HCU
 go_wp2_with fail
 refine C3.mono ?_
 rintro e w3 ⟨g,c,n,rfl,hn,hp,hb3,hg⟩
 have HN:=z9 hn
 have HG:Hid (w2.heap.size<g):=by rw[World.size_alloc] at hg;exact hg
 have HB3:=z9 (La.bel HB2.out hb3)
 have HC4:=z9 (HC3.out.below hb3)
 have HF4:=z9 (HF3.out.below hb3)
 have HP:=z9 hp
 clear C3 hn hp hb3 hg HC3 HB2 HF3
 by_cases hnw:n=want
 ·have hdw:decide (n=want)=true:=decide_eq_true hnw
  rw[hdw]
  have HNW:=z9 hnw
  have HFREE:Hid (g≠w3.heap.size):=by
   have h9:=HP.out 0 (by rw[←HN.out,hnw];have:=HK.out.2.2.2.1;omega)
   have h8:=World.block_lt_of_cell? _ _ h9
   exact Nat.ne_of_lt h8
  have HRG:Hid (Rg w (w3.alloc (.cells #[.string H,.int .i64 0,.int .i64 0,.string e0] 85)) w2.heap.size w3.heap.size g H P kz b 0):=
   ⟨HC4.out.below ((Below.refl _ w3).alloc (Nat.le_refl _) _),HF4.out.below ((Below.refl _ w3).alloc (Nat.le_refl _) _),CmdM.new w3 _ _ _ _,HP.out.below ((Below.refl _ w3).alloc (Nat.le_refl _) _),HB3.out.alloc HB3.out.size _,H7.out,(Array.getElem?_eq_some_iff.1 HF4.out).1,⟨Nat.lt_trans H7.out HG.out,HFREE.out⟩⟩
  have k0:=blk_cell (i:=0) (u:=.int .i64 kz) HRG.out.frm rfl
  have hnz:want≤n:=by omega
  clear hnw hdw HC4 HF4 HP HB3 HG H7
  go_wp2_with fail
  clear k0
  obtain⟨R10,hR10⟩:∃R,R=w3.heap.size:=⟨_,rfl⟩
  obtain⟨R7,hR7⟩:∃R,R=w2.heap.size:=⟨_,rfl⟩
  rw[←hR10,←hR7] at HRG
  rw[←hR10,←hR7]
  generalize w3.alloc _=wa at HRG ⊢
  clear hR10 hR7
  go_loopw [8,11,45] (fun v8 _ v45 wr=>∃(j:Nat) (x:Int),Hid (x=j∧j≤k)∧v45=.int .i64 x∧v8=.bool true∧Hid (∀i,i<j→num (P.getD (1+i) [])≠none)∧Hid (Rg w wr R7 R10 g H P kz b j)) (fun _ _ v45 _=>k-(intOf v45).toNat)
  case atStart=>exact⟨0,0,⟨rfl,Nat.zero_le _⟩,rfl,rfl,fun i hi=>absurd hi (by omega),HRG⟩
  case round=>
   clear HRG
   obtain⟨j,x,HX,rfl,rfl,HNO,HRG⟩:=hrel
   by_cases hlt:j<k
   ·have hkk:=HK.out.2.1
    have hPl:1+j<P.length:=by have:=HK.out.2.2.2.1;rw[←HN.out];omega
    have HP1:=HRG.out.pcs (1+j) hPl
    have HLr:=z9 (HL.out.below HRG.out.bel)
    obtain⟨p,hp⟩:∃p:ByteArray,p=mk (P.getD (1+j) []):=⟨_,rfl⟩
    rw[show(⟨(P.getD (1+j) []).toArray⟩:ByteArray)=p from hp.symm] at HP1
    obtain⟨y0,y1,y2,y3,yfz⟩:=HRG.out.cmd.cells
    have yf1:=yfz 1
    have yf2:=yfz 2
    have hxk:x<kz:=by rw[HX.out.1,HK.out.1];omega
    have hn1:(1:Int)+x<n:=by rw[HX.out.1];have:=HK.out.2.2.2.1;omega
    obtain h01 | h01:j=0∨j=1:=by omega
    ·subst h01
     obtain rfl:x=0:=HX.out.1
     cases hno:num (P.getD 1 []) with
     | none=>
      have CN:=number_no 4 4 (by omega) (by omega) p wr HLr.out (num_not hp hno)
      have HR:=z9 (HR1.out (by rw[←HN.out];exact HNW.out) ⟨0,hlt,hno⟩)
      clear hno hp HNO
      go_wp2_with fail
      refine CN.mono ?_
      rintro e w5 ⟨rfl,hb5⟩
      have HRG5:=z9 (HRG.out.below hb5)
      obtain⟨z0,z1,z2,z3,zfz⟩:=HRG5.out.cmd.cells
      have zf1:=zfz 1
      have HST:Hid (CmdM (w5.setCell ⟨R10,1,none⟩ (.int .i64 0)) w.heap.size e0 0 0 e0∧Below w.heap.size w (w5.setCell ⟨R10,1,none⟩ (.int .i64 0))):=HRG5.out.setB 1 _
      obtain⟨c0,c1,c2,c3,cfz⟩:=HST.out.1.cells
      have f0:=cfz 0
      have f1:=cfz 1
      have f2:=cfz 2
      have f3:=cfz 3
      clear CN hb5 zfz yfz y0 y1 y2 y3 yf1 yf2 HP1 HRG cfz
      go_wp2_with fail
      obtain⟨d0,d1,d2,d3,_⟩:=(HST.out.1.all e0 e0 0 0).cells
      refine bodyPost_ret (v:=.tuple #[cmdV e0 0 0 e0,unV 2]) ?_ rfl (ReadPost.no HR.out (set4_below HST.out.2 (Nat.le_refl _) _ _ _ _) 2)
      simp[results,Tryz.results31,go_sem,asAddr,Result.andThen,d0,d1,d2,d3]
     | some m=>
      have CN:=number_yes 4 4 (by omega) (by omega) p m wr HLr.out (num_yes hp hno)
      have HN2:Hid (∀i,i<1→num (P.getD (1+i) [])≠none):=fun i hi=>by
       obtain rfl:i=0:=by omega
       rw[hno];simp
      have HM:=z9 hno
      clear hno hp HNO
      go_wp2_with fail
      refine CN.mono ?_
      rintro e w5 ⟨rfl,hb5⟩
      have HRG5:=z9 (HRG.out.below hb5)
      obtain⟨z0,z1,z2,z3,zfz⟩:=HRG5.out.cmd.cells
      have zf1:=zfz 1
      have HRN:=z9 (HRG5.out.one HM.out)
      clear CN hb5 zfz yfz y0 y1 y2 y3 yf1 yf2 HP1 HRG
      go_wp2_with fail
      go_roundw
      case rel=>exact⟨1,1,⟨rfl,by omega⟩,by go_num,rfl,HN2,HRN⟩
      case measure=>simp[intOf];omega
    ·subst h01
     obtain rfl:x=1:=HX.out.1
     cases hno:num (P.getD 2 []) with
     | none=>
      have CN:=number_no 4 4 (by omega) (by omega) p wr HLr.out (num_not hp hno)
      have HR:=z9 (HR1.out (by rw[←HN.out];exact HNW.out) ⟨1,hlt,hno⟩)
      clear hno hp HNO
      go_wp2_with fail
      refine CN.mono ?_
      rintro e w5 ⟨rfl,hb5⟩
      have HRG5:=z9 (HRG.out.below hb5)
      obtain⟨z0,z1,z2,z3,zfz⟩:=HRG5.out.cmd.cells
      have zf1:=zfz 2
      have HST:Hid (CmdM (w5.setCell ⟨R10,2,none⟩ (.int .i64 0)) w.heap.size e0 0 0 e0∧Below w.heap.size w (w5.setCell ⟨R10,2,none⟩ (.int .i64 0))):=HRG5.out.setB 2 _
      obtain⟨c0,c1,c2,c3,cfz⟩:=HST.out.1.cells
      have f0:=cfz 0
      have f1:=cfz 1
      have f2:=cfz 2
      have f3:=cfz 3
      clear CN hb5 zfz yfz y0 y1 y2 y3 yf1 yf2 HP1 HRG cfz
      go_wp2_with fail
      obtain⟨d0,d1,d2,d3,_⟩:=(HST.out.1.all e0 e0 0 0).cells
      refine bodyPost_ret (v:=.tuple #[cmdV e0 0 0 e0,unV 2]) ?_ rfl (ReadPost.no HR.out (set4_below HST.out.2 (Nat.le_refl _) _ _ _ _) 2)
      simp[results,Tryz.results31,go_sem,asAddr,Result.andThen,d0,d1,d2,d3]
     | some m=>
      have CN:=number_yes 4 4 (by omega) (by omega) p m wr HLr.out (num_yes hp hno)
      have HN2:Hid (∀i,i<2→num (P.getD (1+i) [])≠none):=fun i hi=>by
       obtain rfl | rfl:i=0∨i=1:=by omega
       ·exact HNO.out 0 (by omega)
       ·rw[hno];simp
      have HM:=z9 hno
      clear hno hp HNO
      go_wp2_with fail
      refine CN.mono ?_
      rintro e w5 ⟨rfl,hb5⟩
      have HRG5:=z9 (HRG.out.below hb5)
      obtain⟨z0,z1,z2,z3,zfz⟩:=HRG5.out.cmd.cells
      have zf2:=zfz 2
      have HRN:=z9 (HRG5.out.two HM.out)
      clear CN hb5 zfz yfz y0 y1 y2 y3 yf1 yf2 HP1 HRG
      go_wp2_with fail
      go_roundw
      case rel=>exact⟨2,2,⟨rfl,by omega⟩,by go_num,rfl,HN2,HRN⟩
      case measure=>simp[intOf];omega
   ·have hjk:j=k:=by have:=HX.out.2;omega
    have hxk:¬x<kz:=by rw[HX.out.1,HK.out.1,hjk];omega
    have HRS:=z9 (HR2.out (by rw[←HN.out];exact HNW.out) (by rw[←hjk];exact HNO.out))
    rw[hjk] at HRG
    have q0:=blk_cell (i:=0) (u:=.int .i64 kz) HRG.out.frm rfl
    have q1:=blk_cell (i:=1) (u:=.bool b) HRG.out.frm rfl
    obtain⟨A0,hA0⟩:∃A:Nat,A=vI P k 0:=⟨_,rfl⟩
    obtain⟨A1,hA1⟩:∃A:Nat,A=vI P k 1:=⟨_,rfl⟩
    have HCM:Hid (CmdM wr R10 H A0 A1 e0):=by rw[hA0,hA1];exact HRG.out.cmd
    rw[←hA0,←hA1] at HRS
    clear hA0 hA1 hlt HNO HX
    obtain⟨y0,y1,y2,y3,yfz⟩:=HCM.out.cells
    have yf3:=yfz 3
    cases b
    ·obtain⟨c0,c1,c2,c3,cfz⟩:=HRG.out.res.cells
     have f0:=cfz 0
     have f1:=cfz 1
     have f2:=cfz 2
     have f3:=cfz 3
     have HRT:=z9 HRS.out
     clear cfz yfz hjk
     go_wp2_with fail
     obtain⟨d0,d1,d2,d3,_⟩:=(HRG.out.res.all H e0 A0 A1).cells
     have HPP:=ReadPost.yes HRT.out (set4_below HRG.out.bel (Nat.le_refl _) (.string H) (.int .i64 A0) (.int .i64 A1) (.string e0))
     rw[←HH.out] at HPP
     refine bodyPost_ret (v:=.tuple #[cmdV H A0 A1 e0,.nilIface]) ?_ rfl HPP
     simp[results,Tryz.results31,go_sem,asAddr,Result.andThen,d0,d1,d2,d3]
    ·have hk2:k=2:=HK.out.2.2.1 rfl
     obtain rfl:kz=2:=by rw[HK.out.1,hk2];rfl
     have hn3:(3:Int)<n:=by have:=HK.out.2.2.2.2 rfl;omega
     have hn3b:(1:Int)+2<n:=by omega
     have HP3:=HRG.out.pcs 3 (by rw[←HN.out];omega)
     obtain⟨t,ht⟩:∃t:Tx,t=P.getD 3 []:=⟨_,rfl⟩
     have HRT:Hid (rd s.toList=some (head s.toList,A0,A1,t)):=by rw[ht];exact HRS.out
     rw[←ht] at HP3
     obtain⟨tb,htb⟩:∃tb:ByteArray,tb=mk t:=⟨_,rfl⟩
     rw[show(⟨t.toArray⟩:ByteArray)=tb from htb.symm] at HP3
     have HTB:=z9 htb
     have HST:Hid (CmdM (wr.setCell ⟨R10,3,none⟩ (.string tb)) w.heap.size e0 0 0 e0∧Below w.heap.size w (wr.setCell ⟨R10,3,none⟩ (.string tb))):=HRG.out.setB 3 _
     have HCT:=z9 (HCM.out.setT tb)
     obtain⟨u0,u1,u2,u3,_⟩:=HCT.out.cells
     obtain⟨c0,c1,c2,c3,cfz⟩:=HST.out.1.cells
     have f0:=cfz 0
     have f1:=cfz 1
     have f2:=cfz 2
     have f3:=cfz 3
     clear cfz yfz hjk hk2 ht htb
     go_wp2_with fail
     obtain⟨d0,d1,d2,d3,_⟩:=(HST.out.1.all H tb A0 A1).cells
     have HPP:=ReadPost.yes HRT.out (set4_below HST.out.2 (Nat.le_refl _) (.string H) (.int .i64 A0) (.int .i64 A1) (.string tb))
     rw[←HH.out,←HTB.out] at HPP
     refine bodyPost_ret (v:=.tuple #[cmdV H A0 A1 tb,.nilIface]) ?_ rfl HPP
     simp[results,Tryz.results31,go_sem,asAddr,Result.andThen,d0,d1,d2,d3]
 ·have hdw:decide (n=want)=false:=decide_eq_false hnw
  rw[hdw]
  have HR:=z9 (HR0.out (by rw[←HN.out];exact hnw))
  obtain⟨c0,c1,c2,c3,hfz⟩:=HC4.out.cells
  have f0:=hfz 0
  have f1:=hfz 1
  have f2:=hfz 2
  have f3:=hfz 3
  clear hfz hnw hdw
  go_wp2_with fail
  obtain⟨d0,d1,d2,d3,_⟩:=(HC4.out.all e0 e0 0 0).cells
  refine bodyPost_ret (v:=.tuple #[cmdV e0 0 0 e0,unV 3]) ?_ rfl (ReadPost.no HR.out (set4_below HB3.out (Nat.le_refl _) _ _ _ _) 3)
  simp[results,Tryz.results31,go_sem,asAddr,Result.andThen,d0,d1,d2,d3]
theorem beq_dec (n w:Nat) (z:Int) (hz:z=w):((n:Int)==z)=decide (n=w):=by
 rw[Bool.eq_iff_iff,beq_iff_eq,decide_eq_true_eq,hz];omega
theorem nums_1 {P:List Tx} {x:Tx} (h:∀i,i<1→num (P.getD (1+i) [])≠none):((num (P.getD 1 [])).map fun i=>(x,i,0,[]))=some (x,vI P 1 0,vI P 1 1,([]:Tx)):=by
 obtain⟨n,hn⟩:=Option.ne_none_iff_exists'.1 (h 0 (by omega))
 have hn':num (P.getD 1 [])=some n:=hn
 unfold vI
 rw[if_pos (by omega),if_neg (by omega)]
 rw[show num (P.getD (1+0) [])=some n from hn];rfl
theorem nums_2 {P:List Tx} {x t:Tx} (h:∀i,i<2→num (P.getD (1+i) [])≠none):((num (P.getD 1 [])).bind fun i=>(num (P.getD 2 [])).map fun k=>(x,i,k,t))=some (x,vI P 2 0,vI P 2 1,t):=by
 obtain⟨n,hn⟩:=Option.ne_none_iff_exists'.1 (h 0 (by omega))
 obtain⟨m,hm⟩:=Option.ne_none_iff_exists'.1 (h 1 (by omega))
 have hn':num (P.getD 1 [])=some n:=hn
 have hm':num (P.getD 2 [])=some m:=hm
 unfold vI
 rw[if_pos (by omega),if_pos (by omega),show num (P.getD (1+0) [])=some n from hn,show num (P.getD (1+1) [])=some m from hm];rfl
theorem none_2 {P:List Tx} {x t:Tx} (h:∃i,i<2∧num (P.getD (1+i) [])=none):((num (P.getD 1 [])).bind fun i=>(num (P.getD 2 [])).map fun k=>(x,i,k,t))=none:=by
 obtain⟨i,hi,h⟩:=h
 obtain rfl | rfl:i=0∨i=1:=by omega
 ·rw[show num (P.getD 1 [])=none from h];rfl
 ·rw[show num (P.getD 2 [])=none from h];cases num (P.getD 1 [])<;>rfl
theorem read_any (s:ByteArray) (w:World) (hs:s.size<4294967281) (hL:Lib3 w):
  Calls Tryz.prog 31 #[.string s] w (ReadPost w (rd s.toList)):=by
 have hF:∀(f:Fm),form (head s.toList)=some f→∀H:ByteArray,H.toList=head s.toList→∀W,Calls Tryz.prog 43 #[.string H] W fun e w'=>e=.returned (.tuple #[fmV (some f),.bool true])∧Below W.heap.size W w':=fun f hf H hH W=>by
  have h9:=form_any H W
  rw[hH,hf] at h9;exact h9
 have hA:∀(k:Int) (want:Nat),0≤k→k≤2→1+k=want→∀W,Lib3 W→Calls Tryz.prog 44 #[.agg #[.int .i64 k,.bool false],.string s] W fun e w'=>∃(g c n:Nat),e=.returned (.tuple #[.slice (some ⟨g,0,none⟩) n c,.bool (decide (n=want))])∧Hid (n=(alls s.toList).length)∧Hid (PcsAt w' g (alls s.toList))∧Below W.heap.size W w'∧W.heap.size≤g:=fun k want h0 h2 hw W hLW=>by
  refine(cut_all k h0 h2 s W hs hLW).mono ?_
  rintro e w' ⟨g,c,n,rfl,h1,h3,h4,h5⟩
  exact⟨g,c,n,by rw[beq_dec n want _ hw],h1,h3,h4,h5⟩
 cases hf:form (head s.toList) with
 | none=>exact read_none s w hs hL hf
 | some f=>
  rcases f with⟨_ | _,_ | _⟩
  ·have hR:rd s.toList=read0 (head s.toList) (alls s.toList):=by unfold rd;rw[hf]
   refine read_go 0 0 rfl (by omega) false (by simp) (alls s.toList) 1 (by omega) (by simp) s w hs hL (hF (false,false) hf) (hA 0 1 (by omega) (by omega) rfl) (fun h=> ?_) (fun _ h=> ?_) (fun h _=> ?_)
   ·rw[hR];show read0 _ _=none;unfold read0;rw[if_neg h]
   ·obtain⟨i,hi,_⟩:=h;omega
   ·rw[hR];show read0 _ _=_;unfold read0;rw[if_pos h];rfl
  ·have hR:rd s.toList=read1 (head s.toList) (alls s.toList):=by unfold rd;rw[hf]
   refine read_go 1 1 rfl (by omega) false (by simp) (alls s.toList) 2 (by omega) (by simp) s w hs hL (hF (false,true) hf) (hA 1 2 (by omega) (by omega) rfl) (fun h=> ?_) (fun h h2=> ?_) (fun h h2=> ?_)
   ·rw[hR];show read1 _ _=none;unfold read1;rw[if_neg h]
   ·rw[hR];show read1 _ _=none;unfold read1;rw[if_pos h]
    obtain⟨i,hi,h2⟩:=h2
    obtain rfl:i=0:=by omega
    rw[show num ((alls s.toList).getD 1 [])=none from h2];rfl
   ·rw[hR];show read1 _ _=_;unfold read1;rw[if_pos h];exact nums_1 h2
  ·have hR:rd s.toList=read2 (head s.toList) (alls s.toList):=by unfold rd;rw[hf]
   refine read_go 2 2 rfl (by omega) false (by simp) (alls s.toList) 3 (by omega) (by simp) s w hs hL (hF (true,false) hf) (hA 2 3 (by omega) (by omega) rfl) (fun h=> ?_) (fun h h2=> ?_) (fun h h2=> ?_)
   ·rw[hR];show read2 _ _=none;unfold read2;rw[if_neg h]
   ·rw[hR];show read2 _ _=none;unfold read2;rw[if_pos h];exact none_2 h2
   ·rw[hR];show read2 _ _=_;unfold read2;rw[if_pos h];exact nums_2 h2
  ·have hR:rd s.toList=read3 (head s.toList) (pcs 3 s.toList):=by unfold rd;rw[hf]
   refine read_go 2 2 rfl (by omega) true (by simp) (pcs 3 s.toList) 4 (by omega) (by simp) s w hs hL (hF (true,true) hf) (fun W hLW=> ?_) (fun h=> ?_) (fun h h2=> ?_) (fun h h2=> ?_)
   ·refine(cut_txt s W hs hLW).mono ?_
    rintro e w' ⟨g,c,n,rfl,h1,h3,h4,h5⟩
    exact⟨g,c,n,by rw[beq_dec n 4 4 rfl],h1,h3,h4,h5⟩
   ·rw[hR];show read3 _ _=none;unfold read3;rw[if_neg h]
   ·rw[hR];show read3 _ _=none;unfold read3;rw[if_pos h];exact none_2 h2
   ·rw[hR];show read3 _ _=_;unfold read3;rw[if_pos h];exact nums_2 h2
end Rx3
end Go.Proofs.YtiamefgoeibhhaaGreatDoor
