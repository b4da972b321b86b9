import Derived.Test.YtlmdchpbpgcfmaaGreatDoorJ1
import Derived.Test.YtlmdchpbpgcfmaaGreatDoorJ2
import Derived.Lib.Bytealg
import Derived.Laws.Externs
import Derived.Deep.RegionHeld3
import Derived.Deep.QuietTactic
import Derived.BigQuiet
set_option linter.unusedVariables false
set_option maxRecDepth 100000
set_option maxHeartbeats 8000000
/- Marks and dots that lie in memory: three cells a mark, two a dot. -/
namespace Go.Proofs.YtlmdchpbpgcfmaaGreatDoor
namespace Na
open Go.ChangeShapes Go.WideShapes Go.ChangeAt Go.RowKit Cm Ka Kb
open La (bel bel_drew errV_zero errV_ne own_ge own_grow own_below)
def none1:Mk:=(ByteArray.empty,(0,0))
def cells3 (x:Mk):List Value:=[.string x.1,.int .i64 x.2.1,.int .i64 x.2.2]
def flat (l:List Mk):List Value:=l.flatMap cells3
theorem flat_append (a b:List Mk):flat (a++b)=flat a++flat b:=by unfold flat;rw[List.flatMap_append]
theorem flat_length:∀l:List Mk,(flat l).length=l.length*3
 | []=>rfl
 | x::l=>by
  have:=flat_length l
  unfold flat at this ⊢
  rw[List.flatMap_cons,List.length_append,this]
  simp[cells3];omega
theorem flat_at:∀{l:List Mk} {j:Nat} (hj:j<l.length),(flat l)[j*3]? =some (.string (l.getD j none1).1)∧(flat l)[j*3+1]? =some (.int .i64 (l.getD j none1).2.1)∧(flat l)[j*3+2]? =some (.int .i64 (l.getD j none1).2.2)
 | [],j,hj=>absurd hj (by simp)
 | x::l,0,_=>⟨rfl,rfl,rfl⟩
 | x::l,j+1,hj=>by
  have h:=flat_at (l:=l) (j:=j) (by simpa using hj)
  have e:∀i,(flat (x::l))[i+3]? =(flat l)[i]? :=fun i=>by
   unfold flat
   rw[List.flatMap_cons,List.getElem?_append_right (by simp[cells3])]
   simp[cells3]
  rw[show(j+1)*3=j*3+3 by omega,show j*3+3+1=j*3+1+3 by omega,show j*3+3+2=j*3+2+3 by omega,e,e,e]
  exact h
/- mark j of a row at b, o -/
def MAt (w:World) (b o j:Nat) (x:Mk):Prop:=w.cell? ⟨b,o+j*3,none⟩=some (.string x.1)∧w.cell? ⟨b,o+j*3+1,none⟩=some (.int .i64 x.2.1)∧w.cell? ⟨b,o+j*3+2,none⟩=some (.int .i64 x.2.2)
def MarksIn (w:World) (p:Option Addr) (l:List Mk):Prop:=
 l=[]∨∃b o,p=some ⟨b,o,none⟩∧∀j,j<l.length→MAt w b o j (l.getD j none1)
theorem MAt.below {w w':World} {b o j:Nat} {x:Mk} {B:Nat} (h:MAt w b o j x) (hb:Below B w w') (hB:b<B):MAt w' b o j x:=
 ⟨(hb.cell (p:=⟨b,o+j*3,none⟩) hB).trans h.1,(hb.cell (p:=⟨b,o+j*3+1,none⟩) hB).trans h.2.1,(hb.cell (p:=⟨b,o+j*3+2,none⟩) hB).trans h.2.2⟩
theorem MAt.lt {w:World} {b o j:Nat} {x:Mk} (h:MAt w b o j x):b<w.heap.size:=World.block_lt_of_cell? _ ⟨b,o+j*3,none⟩ h.1
theorem MarksIn.below {w w':World} {p:Option Addr} {l:List Mk} (h:MarksIn w p l) (hb:Below w.heap.size w w'):MarksIn w' p l:=by
 rcases h with h | ⟨b,o,hp,hc⟩
 ·exact Or.inl h
 ·exact Or.inr ⟨b,o,hp,fun j hj=>(hc j hj).below hb (hc j hj).lt⟩
theorem MarksIn.nil (w:World) (p:Option Addr):MarksIn w p []:=Or.inl rfl
theorem MarksIn.some {w:World} {p:Option Addr} {l:List Mk} (h:MarksIn w p l) (hl:l≠[]):∃b o,p=some ⟨b,o,none⟩∧∀j,j<l.length→MAt w b o j (l.getD j none1):=by
 rcases h with h | h
 ·exact absurd h hl
 ·exact h
theorem at_flat {w:World} {b o:Nat} {l:List Mk} (h:∀j,j<l.length→MAt w b o j (l.getD j none1)):∀j u,(flat l)[j]? =some u→w.cell? ⟨b,o+j,none⟩=some u:=by
 intro j u hu
 have hj:j<l.length*3:=by rw[←flat_length];exact(List.getElem?_eq_some_iff.1 hu).1
 have hq:j/3<l.length:=by omega
 have hc:=h (j/3) hq
 have hf:=flat_at hq
 have hm:j=j/3*3+j%3:=by omega
 have h3:j%3=0∨j%3=1∨j%3=2:=by omega
 rcases h3 with e | e | e
 ·rw[e,Nat.add_zero] at hm
  rw[←hm] at hf
  rw[hf.1] at hu
  injection hu with hu
  rw[←hu]
  have:=hc.1
  rwa [←hm] at this
 ·rw[e] at hm
  rw[←hm] at hf
  rw[hf.2.1] at hu
  injection hu with hu
  rw[←hu]
  have:=hc.2.1
  rwa [show o+j/3*3+1=o+(j/3*3+1) by omega,←hm] at this
 ·rw[e] at hm
  rw[←hm] at hf
  rw[hf.2.2] at hu
  injection hu with hu
  rw[←hu]
  have:=hc.2.2
  rwa [show o+j/3*3+2=o+(j/3*3+2) by omega,←hm] at this
theorem flat_one (l:List Mk):∀u ∈ flat l,u.oneCell'=true:=by
 intro u hu
 unfold flat at hu
 obtain⟨x,_,hx⟩:=List.mem_flatMap.1 hu
 simp only[cells3,List.mem_cons,List.not_mem_nil,or_false] at hx
 rcases hx with rfl | rfl | rfl<;>rfl
/- a row of the call's own, as marks -/
theorem own_marks {w:World} {base:Nat} {t:TypeId} {v:Value} {n:Nat} {l:List Mk} (h:w.ownsRow base t 3 v n (flat l)):l.length=n∧∃p c,v=.slice p n c∧MarksIn w p l:=by
 have hn:l.length=n:=by have:=h.1;rw[flat_length] at this;omega
 refine⟨hn, ?_⟩
 rcases h.2 with⟨rfl,h0⟩ | ⟨g,cap,cur,rfl,_,h2,h3,h4,h5,h6⟩
 ·subst h0
  exact⟨none,0,rfl,Or.inl (List.eq_nil_of_length_eq_zero hn)⟩
 ·refine⟨some ⟨g,0,none⟩,cap,rfl,Or.inr ⟨g,0,rfl,fun j hj=> ?_⟩⟩
  have hf:=flat_at hj
  have key:∀i u,(flat l)[i]? =some u→w.cell? ⟨g,0+i,none⟩=some u:=by
   intro i u hu
   have hi:i<n*3:=by rw[←hn,←flat_length];exact(List.getElem?_eq_some_iff.1 hu).1
   rw[←h6,List.getElem?_take_of_lt hi] at hu
   rw[Nat.zero_add]
   simp only[World.cell?,h2]
   simpa using hu
  refine⟨key _ _ hf.1, ?_, ?_⟩
  ·have:=key _ _ hf.2.1;rwa [show 0+(j*3+1)=0+j*3+1 by omega] at this
  ·have:=key _ _ hf.2.2;rwa [show 0+(j*3+2)=0+j*3+2 by omega] at this
/- dots: two cells each -/
def noneD:Dt:=(0,0)
def aggD (x:Dt):Value:=.agg #[.int .i64 x.1,.int .i64 x.2]
def cells2 (x:Dt):List Value:=[.int .i64 x.1,.int .i64 x.2]
def flatD (l:List Dt):List Value:=l.flatMap cells2
theorem flatD_length:∀l:List Dt,(flatD l).length=l.length*2
 | []=>rfl
 | x::l=>by
  have:=flatD_length l
  unfold flatD at this ⊢
  rw[List.flatMap_cons,List.length_append,this]
  simp[cells2];omega
theorem flatD_at:∀{l:List Dt} {j:Nat} (hj:j<l.length),(flatD l)[j*2]? =some (.int .i64 (l.getD j noneD).1)∧(flatD l)[j*2+1]? =some (.int .i64 (l.getD j noneD).2)
 | [],j,hj=>absurd hj (by simp)
 | x::l,0,_=>⟨rfl,rfl⟩
 | x::l,j+1,hj=>by
  have h:=flatD_at (l:=l) (j:=j) (by simpa using hj)
  have e:∀i,(flatD (x::l))[i+2]? =(flatD l)[i]? :=fun i=>by
   unfold flatD
   rw[List.flatMap_cons,List.getElem?_append_right (by simp[cells2])]
   simp[cells2]
  rw[show(j+1)*2=j*2+2 by omega,show j*2+2+1=j*2+1+2 by omega,e,e]
  exact h
def DAt (w:World) (b o j:Nat) (x:Dt):Prop:=w.cell? ⟨b,o+j*2,none⟩=some (.int .i64 x.1)∧w.cell? ⟨b,o+j*2+1,none⟩=some (.int .i64 x.2)
def DotsIn (w:World) (p:Option Addr) (l:List Dt):Prop:=
 l=[]∨∃b o,p=some ⟨b,o,none⟩∧∀j,j<l.length→DAt w b o j (l.getD j noneD)
theorem DAt.below {w w':World} {b o j:Nat} {x:Dt} {B:Nat} (h:DAt w b o j x) (hb:Below B w w') (hB:b<B):DAt w' b o j x:=
 ⟨(hb.cell (p:=⟨b,o+j*2,none⟩) hB).trans h.1,(hb.cell (p:=⟨b,o+j*2+1,none⟩) hB).trans h.2⟩
theorem DAt.lt {w:World} {b o j:Nat} {x:Dt} (h:DAt w b o j x):b<w.heap.size:=World.block_lt_of_cell? _ ⟨b,o+j*2,none⟩ h.1
theorem DotsIn.below {w w':World} {p:Option Addr} {l:List Dt} (h:DotsIn w p l) (hb:Below w.heap.size w w'):DotsIn w' p l:=by
 rcases h with h | ⟨b,o,hp,hc⟩
 ·exact Or.inl h
 ·exact Or.inr ⟨b,o,hp,fun j hj=>(hc j hj).below hb (hc j hj).lt⟩
theorem DotsIn.some {w:World} {p:Option Addr} {l:List Dt} (h:DotsIn w p l) (hl:l≠[]):∃b o,p=some ⟨b,o,none⟩∧∀j,j<l.length→DAt w b o j (l.getD j noneD):=by
 rcases h with h | h
 ·exact absurd h hl
 ·exact h
theorem flatD_one (l:List Dt):∀u ∈ flatD l,u.oneCell'=true:=by
 intro u hu
 unfold flatD at hu
 obtain⟨x,_,hx⟩:=List.mem_flatMap.1 hu
 simp only[cells2,List.mem_cons,List.not_mem_nil,or_false] at hx
 rcases hx with rfl | rfl<;>rfl
theorem own_dots {w:World} {base:Nat} {t:TypeId} {v:Value} {n:Nat} {l:List Dt} (h:w.ownsRow base t 2 v n (flatD l)):l.length=n∧∃p c,v=.slice p n c∧DotsIn w p l:=by
 have hn:l.length=n:=by have:=h.1;rw[flatD_length] at this;omega
 refine⟨hn, ?_⟩
 rcases h.2 with⟨rfl,h0⟩ | ⟨g,cap,cur,rfl,_,h2,h3,h4,h5,h6⟩
 ·subst h0
  exact⟨none,0,rfl,Or.inl (List.eq_nil_of_length_eq_zero hn)⟩
 ·refine⟨some ⟨g,0,none⟩,cap,rfl,Or.inr ⟨g,0,rfl,fun j hj=> ?_⟩⟩
  have hf:=flatD_at hj
  have key:∀i u,(flatD l)[i]? =some u→w.cell? ⟨g,0+i,none⟩=some u:=by
   intro i u hu
   have hi:i<n*2:=by rw[←hn,←flatD_length];exact(List.getElem?_eq_some_iff.1 hu).1
   rw[←h6,List.getElem?_take_of_lt hi] at hu
   rw[Nat.zero_add]
   simp only[World.cell?,h2]
   simpa using hu
  refine⟨key _ _ hf.1, ?_⟩
  have:=key _ _ hf.2;rwa [show 0+(j*2+1)=0+j*2+1 by omega] at this
theorem getM_mem {l:List Mk} {j:Nat} (hj:j<l.length):l.getD j none1 ∈ l:=by
 rw[List.getD_eq_getElem?_getD,List.getElem?_eq_getElem hj];exact List.getElem_mem hj
theorem dropM_at {l:List Mk} {k:Nat} (hk:k<l.length):l.drop k=l.getD k none1::l.drop (k+1):=by
 rw[List.drop_eq_getElem_cons hk,List.getD_eq_getElem?_getD,List.getElem?_eq_getElem hk];rfl
theorem getD_mem {l:List Dt} {j:Nat} (hj:j<l.length):l.getD j noneD ∈ l:=by
 rw[List.getD_eq_getElem?_getD,List.getElem?_eq_getElem hj];exact List.getElem_mem hj
/- marks and dots as values -/
def MksAt (w:World) (v:Value) (l:List Mk):Prop:=∃p c,v=.slice p l.length c∧MarksIn w p l∧l.length≤c∧c≤maxLen∧(p=none→c=0)
theorem MksAt.below {w w':World} {v:Value} {l:List Mk} (h:MksAt w v l) (hb:Below w.heap.size w w'):MksAt w' v l:=by
 obtain⟨p,c,h1,h2,h3⟩:=h
 exact⟨p,c,h1,h2.below hb,h3⟩
theorem MksAt.nil (w:World):MksAt w (.slice none 0 0) []:=⟨none,0,rfl,Or.inl rfl,Nat.le_refl _,by unfold maxLen;omega,fun _=>rfl⟩
def DtsAt (w:World) (v:Value) (l:List Dt):Prop:=∃p c,v=.slice p l.length c∧DotsIn w p l∧l.length≤c∧c≤maxLen∧(p=none→c=0)
theorem DtsAt.below {w w':World} {v:Value} {l:List Dt} (h:DtsAt w v l) (hb:Below w.heap.size w w'):DtsAt w' v l:=by
 obtain⟨p,c,h1,h2,h3⟩:=h
 exact⟨p,c,h1,h2.below hb,h3⟩
theorem DtsAt.nil (w:World):DtsAt w (.slice none 0 0) []:=⟨none,0,rfl,Or.inl rfl,Nat.le_refl _,by unfold maxLen;omega,fun _=>rfl⟩
theorem own_mks {w:World} {base:Nat} {t:TypeId} {v:Value} {n:Nat} {l:List Mk} (h:w.ownsRow base t 3 v n (flat l)):MksAt w v l:=by
 obtain⟨hn,p,c,hv,hl⟩:=own_marks h
 refine⟨p,c,by rw[hn];exact hv,hl, ?_⟩
 rcases h.2 with⟨e,e0⟩ | ⟨g,cap,cur,e,_,_,h3,h4,_⟩
 ·rw[hv] at e
  injection e with e1 e2 e3
  exact⟨by omega,by rw[e3];unfold maxLen;omega,fun _=>e3⟩
 ·rw[hv] at e
  injection e with e1 e2 e3
  exact⟨by omega,by omega,fun h9=>by rw[h9] at e1;cases e1⟩
theorem own_dts {w:World} {base:Nat} {t:TypeId} {v:Value} {n:Nat} {l:List Dt} (h:w.ownsRow base t 2 v n (flatD l)):DtsAt w v l:=by
 obtain⟨hn,p,c,hv,hl⟩:=own_dots h
 refine⟨p,c,by rw[hn];exact hv,hl, ?_⟩
 rcases h.2 with⟨e,e0⟩ | ⟨g,cap,cur,e,_,_,h3,h4,_⟩
 ·rw[hv] at e
  injection e with e1 e2 e3
  exact⟨by omega,by rw[e3];unfold maxLen;omega,fun _=>e3⟩
 ·rw[hv] at e
  injection e with e1 e2 e3
  exact⟨by omega,by omega,fun h9=>by rw[h9] at e1;cases e1⟩
/- marks that lie from block B on -/
def MksNew (B:Nat) (w:World) (v:Value) (l:List Mk):Prop:=MksAt w v l∧La.Lies B v
theorem MksNew.mono {B C:Nat} {w:World} {v:Value} {l:List Mk} (h:MksNew B w v l) (hC:C≤B):MksNew C w v l:=⟨h.1,h.2.mono hC⟩
theorem MksNew.nil (B:Nat) (w:World):MksNew B w (.slice none 0 0) []:=⟨MksAt.nil w,La.Lies.nil B⟩
end Na
end Go.Proofs.YtlmdchpbpgcfmaaGreatDoor
/- What the orders of ints, of texts, of dots and of marks answer: cmp.Compare, cmp.Or, strings.Compare, compareDots, compareMarks. -/
namespace Go.Proofs.YtlmdchpbpgcfmaaGreatDoor
namespace Nb
open Go.ChangeShapes Go.WideShapes Go.ChangeAt Go.RowKit Cm Ka Kb Na
open La (bel bel_drew errV_zero errV_ne own_ge own_grow own_below)
/- below: -1; the same: 0; above: 1 -/
def icmp (a b:Int):Int:=if a<b then -1 else if b<a then 1 else 0
def or2 (a b:Int):Int:=if a=0 then b else a
theorem icmp_lt {a b:Int}:icmp a b<0↔a<b:=by
 unfold icmp
 split
 ·constructor<;>intro h<;>omega
 ·split
  ·constructor<;>intro h<;>omega
  ·constructor<;>intro h<;>omega
theorem icmp_eq {a b:Int}:icmp a b=0↔a=b:=by
 unfold icmp
 split
 ·constructor<;>intro h<;>omega
 ·split
  ·constructor<;>intro h<;>omega
  ·constructor<;>intro h<;>omega
theorem or2_lt {a b:Int}:or2 a b<0↔a<0∨(a=0∧b<0):=by
 unfold or2
 split<;>omega
theorem or2_eq {a b:Int}:or2 a b=0↔a=0∧b=0:=by
 unfold or2
 split<;>omega
def dcmp (a b:Dt):Int:=or2 (icmp a.1 b.1) (icmp a.2 b.2)
theorem dcmp_lt {a b:Dt}:dcmp a b<0↔dlt a b=true:=by
 unfold dcmp dlt
 rw[or2_lt,icmp_lt,icmp_eq,icmp_lt]
 simp
theorem dcmp_eq {a b:Dt}:dcmp a b=0↔a=b:=by
 unfold dcmp
 rw[or2_eq,icmp_eq,icmp_eq]
 obtain⟨a1,a2⟩:=a
 obtain⟨b1,b2⟩:=b
 simp
def cmp (a b:ByteArray):Int:=Lib.compareBytes a.data.toList b.data.toList
theorem cmpL_less:∀a b:List UInt8,(Lib.compareBytes a b<0↔Op.bytesLess a b=true)∧(Lib.compareBytes a b=0↔a=b)
 | [],[]=>by simp[Lib.compareBytes,Op.bytesLess]
 | [],_::_=>by simp[Lib.compareBytes,Op.bytesLess]
 | _::_,[]=>by simp[Lib.compareBytes,Op.bytesLess]
 | x::a,y::b=>by
  obtain⟨h1,h2⟩:=cmpL_less a b
  unfold Lib.compareBytes
  by_cases hlt:x<y
  ·rw[if_pos hlt]
   have hne:x≠y:=by rintro rfl;exact absurd hlt (UInt8.lt_irrefl x)
   simp[Op.bytesLess,hlt,hne]
  ·rw[if_neg hlt]
   by_cases hgt:y<x
   ·rw[if_pos hgt]
    have hne:x≠y:=by rintro rfl;exact absurd hgt (UInt8.lt_irrefl x)
    simp[Op.bytesLess,hlt,hne]
   ·rw[if_neg hgt]
    have e:x=y:=UInt8.le_antisymm (UInt8.not_lt.1 hgt) (UInt8.not_lt.1 hlt)
    subst e
    constructor
    ·rw[h1];simp[Op.bytesLess,hlt]
    ·rw[h2];simp
theorem cmp_lt (a b:ByteArray):cmp a b<0↔Op.bytesLess a.toList b.toList=true:=by
 unfold cmp;rw[ByteArray.toList_eq,ByteArray.toList_eq];exact(cmpL_less _ _).1
theorem cmp_eq (a b:ByteArray):cmp a b=0↔a=b:=by
 have h:cmp a b=0↔a.toList=b.toList:=by
  unfold cmp;rw[ByteArray.toList_eq,ByteArray.toList_eq];exact(cmpL_less _ _).2
 rw[h]
 exact⟨fun e=>Bm.bytes_inj e,fun e=>by rw[e]⟩
def mcmp (a b:Mk):Int:=or2 (cmp a.1 b.1) (dcmp a.2 b.2)
theorem mcmp_lt {a b:Mk}:mcmp a b<0↔mlt a b=true:=by
 unfold mcmp mlt
 rw[or2_lt,cmp_lt,cmp_eq,dcmp_lt]
 simp
theorem mcmp_eq {a b:Mk}:mcmp a b=0↔a=b:=by
 unfold mcmp
 rw[or2_eq,cmp_eq,dcmp_eq]
 obtain⟨a1,a2⟩:=a
 obtain⟨b1,b2⟩:=b
 simp
theorem entry (args:Array Value) (w:World):(callFunc 140 args).run Tryz.prog w=((Extern.BytealgCompare.compare args).run Tryz.prog w).andThen fun v w'=> .ok (.value v) w':=
 run_callFunc_extern Tryz.func140 (by kernel_rfl) (by kernel_rfl) (by kernel_rfl) (by kernel_rfl) args w
theorem entry2 (a b:ByteArray) (w:World):(callFunc 140 #[.string a,.string b]).run Tryz.prog w=.ok (.value (.int .i64 (cmp a b))) w:=by
 rw[entry,Lib.run_compareString];rfl
theorem compare_any (a b:ByteArray) (w:World):
  Calls Tryz.prog 54 #[.string a,.string b] w fun e w'=>e=.returned (.int .i64 (cmp a b))∧w'=w:=by
 have he:=entry2
 go_enter Tryz.func54,Tryz.ntmps54
 go_wp2
 go_ret
 exact⟨rfl,rfl⟩
theorem isNaN_any (a:Int) (w:World):
  Calls Tryz.prog 220 #[.int .i64 a] w fun e w'=>e=.returned (.bool false)∧w'=w:=by
 go_enter Tryz.func220,Tryz.ntmps220
 go_wp2
 go_ret
 exact⟨by first | rfl | simp,rfl⟩
theorem icompare_any (a b:Int) (w:World):
  Calls Tryz.prog 213 #[.int .i64 a,.int .i64 b] w fun e w'=>e=.returned (.int .i64 (icmp a b))∧w'=w:=by
 have H:Hid (icmp a b=if a<b then -1 else if b<a then 1 else 0):=rfl
 go_enter Tryz.func213,Tryz.ntmps213
 go_wp2_with (go_at_call 220;refine(isNaN_any _ _).mono ?_;rintro e w' ⟨rfl,hw⟩;have hw2:=hw.symm;subst hw2;clear hw)
 all_goals
  go_ret
  refine⟨?_,rfl⟩
  rw[H.out]
  first
   | (rw[if_pos (by omega)];rfl)
   | (rw[if_neg (by omega),if_pos (by omega)];rfl)
   | (rw[if_neg (by omega),if_neg (by omega)];rfl)
theorem or_any (g:Nat) (a b:Int) (w:World) (h0:w.cell? ⟨g,0,none⟩=some (.int .i64 a)) (h1:w.cell? ⟨g,1,none⟩=some (.int .i64 b)):
  Calls Tryz.prog 212 #[.slice (some ⟨g,0,none⟩) 2 2] w fun e w'=>e=.returned (.int .i64 (or2 a b))∧w'=w:=by
 have H:Hid (or2 a b=if a=0 then b else a):=rfl
 go_enter Tryz.func212,Tryz.ntmps212
 go_wp2
 go_loop [5,8] (fun _ i=>∃(k:Nat),k≤2∧i=.int .i64 k∧Hid ((1≤k→a=0)∧(2≤k→b=0))) (fun _ i=>2-(intOf i).toNat)
 case atStart=>exact⟨0,by omega,rfl,⟨fun h=>by omega,fun h=>by omega⟩⟩
 case round=>
  obtain⟨k,hk,rfl,HK⟩:=hrel
  have hk3:k=0∨k=1∨k=2:=by omega
  rcases hk3 with rfl | rfl | rfl
  ·by_cases ha:a=0
   ·subst ha
    go_wp2_with fail
    go_round
    case rel=>exact⟨1,by omega,by go_num,⟨fun _=>by first | rfl | trivial,fun h=>by omega⟩⟩
    case measure=>simp[intOf]
   ·have hab:(a !=0)=true:=by simpa using ha
    have HR:Hid (or2 a b=a):=by unfold Hid;rw[H.out,if_neg ha]
    clear ha
    go_wp2_with fail
    go_ret
    exact⟨by rw[HR.out];rfl,rfl⟩
  ·obtain rfl:=HK.out.1 (by omega)
   by_cases hb:b=0
   ·subst hb
    go_wp2_with fail
    go_round
    case rel=>exact⟨2,by omega,by go_num,⟨fun _=>by first | rfl | trivial,fun _=>by first | rfl | trivial⟩⟩
    case measure=>simp[intOf]
   ·have hbb:(b !=0)=true:=by simpa using hb
    have HR:Hid (or2 0 b=b):=by unfold Hid;rw[H.out,if_pos rfl]
    clear hb
    go_wp2_with fail
    go_ret
    exact⟨by rw[HR.out];rfl,rfl⟩
  ·obtain rfl:=HK.out.1 (by omega)
   obtain rfl:=HK.out.2 (by omega)
   go_wp2_with fail
   go_ret
   exact⟨by rw[H.out];rfl,rfl⟩
end Nb
end Go.Proofs.YtlmdchpbpgcfmaaGreatDoor
/- What compareDots and compareMarks answer. -/
namespace Go.Proofs.YtlmdchpbpgcfmaaGreatDoor
namespace Nc
open Go.ChangeShapes Go.WideShapes Go.ChangeAt Go.RowKit Cm Ka Kb Na Nb
open La (bel bel_drew errV_zero errV_ne own_ge own_grow own_below)
/- what a list of two ints holds that has just been laid -/
theorem or_laid (a b:Int) (W:World) (n:Nat) (t:TypeId) (hn:n=W.heap.size):
  Calls Tryz.prog 212 #[.slice (some ⟨n,0,none⟩) 2 2] (W.alloc (.cells #[.int .i64 a,.int .i64 b] t)).drew fun e w'=>e=.returned (.int .i64 (or2 a b))∧w'=(W.alloc (.cells #[.int .i64 a,.int .i64 b] t)).drew:=by
 subst hn
 have hg:(W.alloc (.cells #[.int .i64 a,.int .i64 b] t)).drew.heap[W.heap.size]? =some (.cells #[.int .i64 a,.int .i64 b] t):=heap_alloc_new W (.cells #[.int .i64 a,.int .i64 b] t)
 exact or_any W.heap.size a b _ (by simp only[World.cell?,hg];rfl) (by simp only[World.cell?,hg];rfl)
theorem compareDots_any (a1 a2 b1 b2:Int) (w:World):
  Calls Tryz.prog 196 #[.agg #[.int .i64 a1,.int .i64 a2],.agg #[.int .i64 b1,.int .i64 b2]] w fun e w'=>e=.returned (.int .i64 (dcmp (a1,a2) (b1,b2)))∧Below w.heap.size w w':=by
 have HD:Hid (dcmp (a1,a2) (b1,b2)=or2 (icmp a1 b1) (icmp a2 b2)):=rfl
 have HB:Hid (∀O1 O2 O3,Below w.heap.size w (((w.alloc O1).alloc O2).alloc O3).drew):=fun O1 O2 O3=>((((Below.refl _ w).alloc (Nat.le_refl _) O1).alloc (by simp) O2).alloc (by simp;omega) O3).drew
 rw[HD.out]
 clear HD
 go_enter Tryz.func196,Tryz.ntmps196
 go_wp2_with fail
 go_region_held3 (fun W=>W.cell? ⟨w.heap.size,0,none⟩=some (.int .i64 a1)∧W.cell? ⟨w.heap.size,1,none⟩=some (.int .i64 a2)∧W.cell? ⟨w.heap.size+1,0,none⟩=some (.int .i64 b1)∧W.cell? ⟨w.heap.size+1,1,none⟩=some (.int .i64 b2)) (go_keep) (first
  | (go_at_call 213;refine(icompare_any _ _ _).mono ?_;rintro e w7 ⟨rfl,hw⟩;have hw2:=hw.symm;subst hw2;clear hw)
  | (go_at_call 212;refine(or_laid (icmp a1 b1) (icmp a2 b2) _ _ _ ?_).mono ?_;(simp);rintro e w7 ⟨rfl,hw⟩;have hw2:=hw.symm;subst hw2;clear hw))
 all_goals
  go_wp2_with fail
  go_ret
  exact⟨rfl,HB.out _ _ _⟩
theorem keep_cell {W W':World} {p:Addr} {v:Value} (hb:Below W.heap.size W W') (h:W.cell? p=some v):W'.cell? p=some v:=(hb.cell (World.block_lt_of_cell? _ _ h)).trans h
theorem or_laid0 (a b:Int) (W:World) (n:Nat) (t:TypeId) (hn:n=W.heap.size):
  Calls Tryz.prog 212 #[.slice (some ⟨n,0,none⟩) 2 2] (W.alloc (.cells #[.int .i64 a,.int .i64 b] t)) fun e w'=>e=.returned (.int .i64 (or2 a b))∧w'=(W.alloc (.cells #[.int .i64 a,.int .i64 b] t)):=by
 subst hn
 have hg:(W.alloc (.cells #[.int .i64 a,.int .i64 b] t)).heap[W.heap.size]? =some (.cells #[.int .i64 a,.int .i64 b] t):=heap_alloc_new W (.cells #[.int .i64 a,.int .i64 b] t)
 exact or_any W.heap.size a b _ (by simp only[World.cell?,hg];rfl) (by simp only[World.cell?,hg];rfl)
theorem compareMarks_any (pa:ByteArray) (a1 a2:Int) (pb:ByteArray) (b1 b2:Int) (w:World):
  Calls Tryz.prog 201 #[.agg #[.string pa,.int .i64 a1,.int .i64 a2],.agg #[.string pb,.int .i64 b1,.int .i64 b2]] w fun e w'=>e=.returned (.int .i64 (mcmp (pa,(a1,a2)) (pb,(b1,b2))))∧Below w.heap.size w w':=by
 have HD:Hid (mcmp (pa,(a1,a2)) (pb,(b1,b2))=or2 (cmp pa pb) (dcmp (a1,a2) (b1,b2))):=rfl
 have HB:Hid (∀O1 O2,Below w.heap.size w ((w.alloc O1).alloc O2).drew):=fun O1 O2=>(((Below.refl _ w).alloc (Nat.le_refl _) O1).alloc (by simp) O2).drew
 rw[HD.out]
 clear HD
 go_enter Tryz.func201,Tryz.ntmps201
 go_wp2_with fail
 go_region_held3 (fun W=>W.cell? ⟨w.heap.size,0,none⟩=some (.string pa)∧W.cell? ⟨w.heap.size,1,none⟩=some (.int .i64 a1)∧W.cell? ⟨w.heap.size,2,none⟩=some (.int .i64 a2)∧W.cell? ⟨w.heap.size+1,0,none⟩=some (.string pb)∧W.cell? ⟨w.heap.size+1,1,none⟩=some (.int .i64 b1)∧W.cell? ⟨w.heap.size+1,2,none⟩=some (.int .i64 b2)) (first | (go_keep;done) | (refine⟨keep_cell hb7 ?_,keep_cell hb7 ?_,keep_cell hb7 ?_,keep_cell hb7 ?_,keep_cell hb7 ?_,keep_cell hb7 ?_⟩<;>(go_split_ands;assumption))) (first
  | (go_at_call 54;refine(compare_any _ _ _).mono ?_;rintro e w6 ⟨rfl,hw⟩;have hw2:=hw.symm;subst hw2;clear hw)
  | (go_at_call 196;refine(compareDots_any _ _ _ _ _).mono ?_;rintro e w7 ⟨rfl,hb7⟩;have HB7:Hid (Below w.heap.size w w7):=bel (HB.out _ _) hb7)
  | (go_at_call 212;refine(or_laid0 (cmp pa pb) (dcmp (a1,a2) (b1,b2)) _ _ _ ?_).mono ?_;(simp);rintro e w8 ⟨rfl,hw⟩;have hw2:=hw.symm;subst hw2;clear hw))
 all_goals
  go_wp2_with fail
  go_ret
  exact⟨rfl,HB7.out.alloc HB7.out.size _⟩
end Nc
end Go.Proofs.YtlmdchpbpgcfmaaGreatDoor
/- What dot.Check, checkMark, Check and checkWith of package marks answer. -/
namespace Go.Proofs.YtlmdchpbpgcfmaaGreatDoor
namespace Nd
open Go.ChangeShapes Go.WideShapes Go.ChangeAt Go.RowKit Cm Ka Kb Na Nb Nc
open La (bel bel_drew errV_zero errV_ne own_ge own_grow own_below)
theorem dotCheck_any (who m:Int) (w:World):
  Calls Tryz.prog 146 #[.agg #[.int .i64 who,.int .i64 m]] w fun e w'=>e=.returned (errV (dotE who m))∧Below w.heap.size w w':=by
 go_enter Tryz.func146,Tryz.ntmps146
 go_wp2
 all_goals
  go_ret
  refine⟨?_,(Below.refl _ w).alloc (Nat.le_refl _) _⟩
  unfold dotE
  first
   | (rw[if_pos (by omega)];rfl)
   | (rw[if_neg (by omega)];rfl)
theorem checkMark_any (s:ByteArray) (a b:Int) (w:World) (hs:s.size≤maxLen):
  Calls Tryz.prog 199 #[.agg #[.string s,.int .i64 a,.int .i64 b]] w fun e w'=>e=.returned (errV (markE (s,(a,b))))∧Below w.heap.size w w':=by
 have C:=fun W=>check_any s W hs
 have HB:Hid (∀O1,Below w.heap.size w (w.alloc O1)):=fun O1=>(Below.refl _ w).alloc (Nat.le_refl _) _
 by_cases h:Pm.chk s.toList=0
 ·rw[h,errV_zero] at C
  have HM:Hid (markE (s,(a,b))=dotE a b):=by unfold Hid markE;rw[if_neg (by simpa using h)]
  rw[HM.out]
  obtain⟨z,hz⟩:∃z,z=errV (dotE a b):=⟨_,rfl⟩
  have C2:=fun W=>dotCheck_any a b W
  rw[←hz] at C2 ⊢
  clear HM hz h
  go_enter Tryz.func199,Tryz.ntmps199
  go_wp2_with fail
  refine(C _).mono ?_
  rintro e w2 ⟨rfl,hw⟩
  have hw2:=hw.symm;subst hw2;clear hw C
  go_wp2_with fail
  refine(C2 _).mono ?_
  rintro e w3 ⟨rfl,hb3⟩
  have HB3:Hid (Below w.heap.size w w3):=bel (HB.out _) hb3
  clear hb3 C2
  go_wp2_with fail
  go_ret
  exact⟨rfl,HB3.out⟩
 ·have HM:Hid (markE (s,(a,b))=Pm.chk s.toList):=by unfold Hid markE;rw[if_pos h]
  rw[HM.out]
  obtain⟨k,hk⟩:∃k,k=Pm.chk s.toList:=⟨_,rfl⟩
  have HV:Hid (errV (Pm.chk s.toList)=.iface 84 (.int .i64 k)):=by rw[hk];exact errV_ne h
  rw[HV.out] at C ⊢
  clear HM hk h HV
  go_enter Tryz.func199,Tryz.ntmps199
  go_wp2_with fail
  refine(C _).mono ?_
  rintro e w2 ⟨rfl,hw⟩
  have hw2:=hw.symm;subst hw2;clear hw C
  go_wp2_with fail
  go_ret
  exact⟨rfl,HB.out _⟩
/- the cells of a mark of the call's own -/
theorem new_cell {w w2:World} {x:Mk} {t:TypeId} (hb:Below (w.alloc (.cells #[.string x.1,.int .i64 x.2.1,.int .i64 x.2.2] t)).heap.size (w.alloc (.cells #[.string x.1,.int .i64 x.2.1,.int .i64 x.2.2] t)) w2):
  w2.cell? ⟨w.heap.size,0,none⟩=some (.string x.1)∧w2.cell? ⟨w.heap.size,1,none⟩=some (.int .i64 x.2.1)∧w2.cell? ⟨w.heap.size,2,none⟩=some (.int .i64 x.2.2):=by
 have hlt:w.heap.size<(w.alloc (.cells #[.string x.1,.int .i64 x.2.1,.int .i64 x.2.2] t)).heap.size:=by simp
 have h2:(w.alloc (.cells #[.string x.1,.int .i64 x.2.1,.int .i64 x.2.2] t)).heap[w.heap.size]? =some (.cells #[.string x.1,.int .i64 x.2.1,.int .i64 x.2.2] t):=heap_alloc_new w _
 refine⟨(hb.cell (p:=⟨w.heap.size,0,none⟩) hlt).trans ?_,(hb.cell (p:=⟨w.heap.size,1,none⟩) hlt).trans ?_,(hb.cell (p:=⟨w.heap.size,2,none⟩) hlt).trans ?_⟩<;>(simp only[World.cell?,h2];rfl)
theorem bel_new {w wr w2:World} {o:Obj} (h:Below w.heap.size w wr) (hb:Below (wr.alloc o).heap.size (wr.alloc o) w2):Below w.heap.size w w2:=bel (h.alloc h.size o) hb
def prvM (l:List Mk) (k:Nat):Option Mk:=if k=0 then none else some (l.getD (k-1) none1)
def okM (a:Option Mk) (x:Mk):Bool:=match a with | none=>true | some y=>mlt y x
theorem wrap_in {x:Int} (h1: -1000000≤x) (h2:x≤1000000):IntKind.i64.wrap x=x:=by
 rw[IntKind.wrap_i64];omega
theorem goes_step {l:List Mk} {k:Nat} {x:Mk} (hk:k<l.length) (hx:x=l.getD k none1):
  goesM (prvM l k) (l.drop k)=if markE x≠0 then markE x else if okM (prvM l k) x=false then 7 else goesM (prvM l (k+1)) (l.drop (k+1)):=by
 rw[dropM_at hk,←hx]
 have e:prvM l (k+1)=some x:=by unfold prvM;rw[if_neg (by omega),Nat.add_sub_cancel,←hx]
 rw[e];rfl
theorem rising_any (p : Option Addr) (n c : Nat) (l : List Mk) (w : World) (hl : l.length = n) (h : MarksIn w p l) (hs : ∀ x ∈ l, x.1.size ≤ maxLen) (hn : n ≤ maxLen) :
  Calls Tryz.prog 198 #[.slice p n c] w fun e w' => e = .returned (errV (marksE l)) ∧ Below w.heap.size w w' := by
 unfold maxLen at hn
 by_cases h40 : 40 < n
 ·have HE : Hid (marksE l = 4) := by unfold Hid marksE; rw [hl, if_pos h40]
  have hz : (40 : Int) < n := by omega
  clear hl h hs
  go_enter Tryz.func198, Tryz.ntmps198
  go_wp2
  go_ret
  exact ⟨by rw [HE.out]; rfl, Below.refl _ _⟩
 ·have HE : Hid (marksE l = goesM none l) := by unfold Hid marksE; rw [hl, if_neg h40]
  have hz : ¬ (40 : Int) < n := by omega
  have HL := z9 hl
  have HI := z9 h
  have HS := z9 hs
  clear hl h hs
  go_enter Tryz.func198, Tryz.ntmps198
  go_wp2
  go_loopw [12] (fun i wr => ∃ (k : Nat), k ≤ n ∧ i = .int .i64 k ∧ Hid (goesM (prvM l k) (l.drop k) = goesM none l) ∧ Hid (Below w.heap.size w wr)) (fun i _ => n - (intOf i).toNat)
  case atStart => exact ⟨0, by omega, rfl, rfl, Below.refl _ _⟩
  case round =>
   obtain ⟨k, hk, rfl, HG, HB⟩ := hrel
   by_cases hlt : k < n
   ·have hltz : (k : Int) < n := by omega
    obtain ⟨b, o, rfl, hc⟩ := HI.out.some (by intro e; have := HL.out; rw [e] at this; simp at this; omega)
    have hkl : k < l.length := by rw [HL.out]; exact hlt
    have ha := (hc k hkl).below HB.out (hc k hkl).lt
    have HP : Hid (∀ j, j + 1 = k → MAt wr b o j (l.getD j none1)) := fun j hj => (hc j (by omega)).below HB.out (hc j (by omega)).lt
    obtain ⟨x, hx⟩ : ∃ x, x = l.getD k none1 := ⟨_, rfl⟩
    have hss : x.1.size ≤ maxLen := by rw [hx]; exact HS.out _ (getM_mem hkl)
    rw [← hx] at ha
    have HD := goes_step hkl hx
    obtain ⟨sx, x1, x2⟩ := x
    obtain ⟨a1, a2, a3⟩ := ha
    simp only at a1 a2 a3 hss
    clear hc hx
    have C := checkMark_any sx x1 x2 (wr.alloc (.cells #[.string sx, .int .i64 x1, .int .i64 x2] 96)) hss
    by_cases h0 : markE (sx, (x1, x2)) = 0
    ·rw [h0, errV_zero] at C
     rw [if_neg (by simpa using h0)] at HD
     clear h0 hss
     by_cases hk0 : k = 0
     ·subst hk0
      have HG2 : Hid (goesM (prvM l (0 + 1)) (l.drop (0 + 1)) = goesM none l) := by
       unfold Hid; rw [← HG.out, HD]; rfl
      clear HD HP
      simp only [Nat.zero_mul, Nat.add_zero] at a1 a2 a3
      go_wp2_with fail
      refine C.mono ?_
      rintro e w2 ⟨rfl, hb2⟩
      have HB2 := z9 (bel_new HB.out hb2)
      clear hb2 C a1 a2 a3
      go_wp2_with fail
      go_quiet (fail)
      go_wp2_with fail
      go_roundw
      case rel => exact ⟨0 + 1, by omega, by go_num, HG2, bel_drew HB2.out _⟩
      case measure => simp [intOf]; omega
     ·obtain ⟨m, hm⟩ : ∃ m, m + 1 = k := ⟨k - 1, by omega⟩
      have hpm := HP.out m hm
      have HPV : Hid (prvM l k = some (l.getD m none1)) := by unfold Hid prvM; rw [if_neg hk0, show k - 1 = m by omega]
      rw [HG.out, HPV.out] at HD
      obtain ⟨y, hy⟩ : ∃ y, y = l.getD m none1 := ⟨_, rfl⟩
      rw [← hy] at HD hpm
      obtain ⟨sy, y1, y2⟩ := y
      obtain ⟨c1, c2, c3⟩ := hpm
      simp only at c1 c2 c3 HD
      have HQL : Hid (mcmp (sy, (y1, y2)) (sx, (x1, x2)) < 0 ↔ mlt (sy, (y1, y2)) (sx, (x1, x2)) = true) := mcmp_lt
      obtain ⟨q, hq⟩ : ∃ q, q = mcmp (sy, (y1, y2)) (sx, (x1, x2)) := ⟨_, rfl⟩
      have C2 := fun W => compareMarks_any sy y1 y2 sx x1 x2 W
      rw [← hq] at C2 HQL
      have hk0z : (0 : Int) < k := by omega
      have hk0n : 0 < k := by omega
      have hkm : IntKind.i64.wrap ((k : Int) - 1) = (m : Int) := by rw [show (k : Int) - 1 = (m : Int) by omega]; exact wrap_in (by omega) (by omega)
      have hmz : (m : Int) < n := by omega
      have HLT : Hid (b < wr.heap.size) := World.block_lt_of_cell? _ ⟨b, o + k * 3, none⟩ a1
      clear hq hy HPV HP hk0
      by_cases hq0 : 0 ≤ q
      ·have HQ : Hid (errV (marksE l) = .iface 84 (.int .i64 7)) := by
        have h9 : mlt (sy, (y1, y2)) (sx, (x1, x2)) = false := by
         cases h8 : mlt (sy, (y1, y2)) (sx, (x1, x2))
         ·rfl
         ·exact absurd (HQL.out.2 h8) (by omega)
        unfold Hid; rw [HE.out, HD, show okM (some (sy, (y1, y2))) (sx, (x1, x2)) = false from h9, if_pos rfl]; rfl
       clear HQL HD
       go_wp2_with fail
       refine C.mono ?_
       rintro e w2 ⟨rfl, hb2⟩
       have HB2 := z9 (bel_new HB.out hb2)
       obtain ⟨d0, d1, d2⟩ := new_cell (x := (sx, (x1, x2))) hb2
       simp only at d0 d1 d2
       have HW : Hid (Below wr.heap.size wr w2) := bel_new (Below.refl _ _) hb2
       have f1 := (HW.out.cell (p := ⟨b, o + m * 3, none⟩) HLT.out).trans c1
       have f2 := (HW.out.cell (p := ⟨b, o + m * 3 + 1, none⟩) HLT.out).trans c2
       have f3 := (HW.out.cell (p := ⟨b, o + m * 3 + 2, none⟩) HLT.out).trans c3
       clear hb2 C a1 a2 a3 c1 c2 c3
       go_wp2_with fail
       go_region_held3 (fun W => W.cell? ⟨b, o + m * 3, none⟩ = some (.string sy) ∧ W.cell? ⟨b, o + m * 3 + 1, none⟩ = some (.int .i64 y1) ∧ W.cell? ⟨b, o + m * 3 + 2, none⟩ = some (.int .i64 y2) ∧ W.cell? ⟨wr.heap.size, 0, none⟩ = some (.string sx) ∧ W.cell? ⟨wr.heap.size, 1, none⟩ = some (.int .i64 x1) ∧ W.cell? ⟨wr.heap.size, 2, none⟩ = some (.int .i64 x2)) (first | (go_keep; done) | (refine ⟨keep_cell hb7 ?_, keep_cell hb7 ?_, keep_cell hb7 ?_, keep_cell hb7 ?_, keep_cell hb7 ?_, keep_cell hb7 ?_⟩ <;> (go_split_ands; assumption))) (first
        | (go_at_call 201; refine (C2 _).mono ?_; rintro e w7 ⟨rfl, hb7⟩; have HB7 := z9 (bel HB2.out.drew hb7)))
       all_goals
        go_wp2_with fail
        go_ret
        exact ⟨by rw [HQ.out]; rfl, HB7.out⟩
      ·have HG2 : Hid (goesM (prvM l (k + 1)) (l.drop (k + 1)) = goesM none l) := by
        have h9 : mlt (sy, (y1, y2)) (sx, (x1, x2)) = true := HQL.out.1 (by omega)
        unfold Hid; rw [HD, show okM (some (sy, (y1, y2))) (sx, (x1, x2)) = true from h9, if_neg (by decide)]
       clear HQL HD
       go_wp2_with fail
       refine C.mono ?_
       rintro e w2 ⟨rfl, hb2⟩
       have HB2 := z9 (bel_new HB.out hb2)
       obtain ⟨d0, d1, d2⟩ := new_cell (x := (sx, (x1, x2))) hb2
       simp only at d0 d1 d2
       have HW : Hid (Below wr.heap.size wr w2) := bel_new (Below.refl _ _) hb2
       have f1 := (HW.out.cell (p := ⟨b, o + m * 3, none⟩) HLT.out).trans c1
       have f2 := (HW.out.cell (p := ⟨b, o + m * 3 + 1, none⟩) HLT.out).trans c2
       have f3 := (HW.out.cell (p := ⟨b, o + m * 3 + 2, none⟩) HLT.out).trans c3
       clear hb2 C a1 a2 a3 c1 c2 c3
       go_wp2_with fail
       go_region_held3 (fun W => W.cell? ⟨b, o + m * 3, none⟩ = some (.string sy) ∧ W.cell? ⟨b, o + m * 3 + 1, none⟩ = some (.int .i64 y1) ∧ W.cell? ⟨b, o + m * 3 + 2, none⟩ = some (.int .i64 y2) ∧ W.cell? ⟨wr.heap.size, 0, none⟩ = some (.string sx) ∧ W.cell? ⟨wr.heap.size, 1, none⟩ = some (.int .i64 x1) ∧ W.cell? ⟨wr.heap.size, 2, none⟩ = some (.int .i64 x2)) (first | (go_keep; done) | (refine ⟨keep_cell hb7 ?_, keep_cell hb7 ?_, keep_cell hb7 ?_, keep_cell hb7 ?_, keep_cell hb7 ?_, keep_cell hb7 ?_⟩ <;> (go_split_ands; assumption))) (first
        | (go_at_call 201; refine (C2 _).mono ?_; rintro e w7 ⟨rfl, hb7⟩; have HB7 := z9 (bel HB2.out.drew hb7)))
       all_goals
        go_wp2_with fail
        go_roundw
        case rel => exact ⟨k + 1, by omega, by go_num, HG2, HB7⟩
        case measure => simp [intOf]; omega
    ·obtain ⟨q, hq⟩ : ∃ q, q = markE (sx, (x1, x2)) := ⟨_, rfl⟩
     have HQ : Hid (errV (marksE l) = .iface 84 (.int .i64 q)) := by
      unfold Hid; rw [HE.out, ← HG.out, HD, if_pos h0, hq, errV_ne h0]
     rw [errV_ne h0, ← hq] at C
     clear HD h0 hss hq HP
     go_wp2_with fail
     refine C.mono ?_
     rintro e w2 ⟨rfl, hb2⟩
     have HB2 := z9 (bel_new HB.out hb2)
     clear hb2 C
     go_wp2_with fail
     go_ret
     exact ⟨by rw [HQ.out]; rfl, HB2.out⟩
   ·obtain rfl : k = n := by omega
    have HZ : Hid (goesM none l = 0) := by
     unfold Hid; rw [← HG.out, List.drop_of_length_le (by rw [HL.out]; exact Nat.le_refl _)]; rfl
    go_wp2_with fail
    go_ret
    exact ⟨by rw [HE.out, HZ.out]; rfl, HB.out⟩
end Nd
end Go.Proofs.YtlmdchpbpgcfmaaGreatDoor
/- What marks.Check and marks.checkWith answer, at all marks. -/
namespace Go.Proofs.YtlmdchpbpgcfmaaGreatDoor
namespace Nse
open Go.ChangeShapes Go.WideShapes Go.ChangeAt Go.RowKit Cm Ka Kb Na Nb Nc Nd
open La (bel bel_drew errV_zero errV_ne own_ge own_grow own_below)
theorem checkM_any (v:Value) (l:List Mk) (w:World) (h:MksAt w v l) (hs:∀x ∈ l,x.1.size≤maxLen):
  Calls Tryz.prog 198 #[v] w fun e w'=>e=.returned (errV (marksE l))∧Below w.heap.size w w':=by
 obtain⟨p,c,rfl,hlf,hc,hcm,_⟩:=h
 exact rising_any p l.length c l w rfl hlf hs (Nat.le_trans hc hcm)
theorem checkMWith_any (v:Value) (l:List Mk) (s:ByteArray) (w:World) (h:MksAt w v l) (hs:∀x ∈ l,x.1.size≤maxLen) (hp:s.size≤maxLen):
  Calls Tryz.prog 181 #[v,.string s] w fun e w'=>e=.returned (errV (seenE l s))∧Below w.heap.size w w':=by
 have C:=checkM_any v l w h hs
 have C2:=fun w=>check_any s w hp
 clear h hs hp
 by_cases h0:marksE l=0
 ·rw[h0,errV_zero] at C
  have HE:Hid (seenE l s=Pm.chk s.toList):=by unfold Hid seenE;rw[if_neg (by simpa using h0)]
  rw[HE.out]
  clear h0 HE
  go_enter Tryz.func181,Tryz.ntmps181
  go_wp2_with fail
  refine C.mono ?_
  rintro e w2 ⟨rfl,hb2⟩
  have HB2:=z9 hb2
  clear hb2 C
  go_wp2_with fail
  refine(C2 _).mono ?_
  rintro e w3 ⟨rfl,hw⟩
  have hw2:=hw.symm;subst hw2;clear hw C2
  go_wp2_with fail
  go_ret
  exact⟨rfl,HB2.out⟩
 ·obtain⟨q,hq⟩:∃q,q=marksE l:=⟨_,rfl⟩
  have HE:Hid (errV (seenE l s)=.iface 84 (.int .i64 q)):=by unfold Hid seenE;rw[if_pos h0,hq,errV_ne h0]
  rw[errV_ne h0,←hq] at C
  rw[HE.out]
  clear h0 hq C2 HE
  go_enter Tryz.func181,Tryz.ntmps181
  go_wp2_with fail
  refine C.mono ?_
  rintro e w2 ⟨rfl,hb2⟩
  have HB2:=z9 hb2
  clear hb2 C
  go_wp2_with fail
  go_ret
  exact⟨rfl,HB2.out⟩
/- the search: how many stand below a mark, and whether it is there -/
theorem pos_eq {l:List Mk} {m:Mk} {i:Nat} (hr:Rise mlt l) (hi:i≤l.length) (h1:∀k,k<i→mlt (l.getD k none1) m=true) (h2:∀k,i≤k→k<l.length→mlt (l.getD k none1) m=false):pos mlt l m=i:=by
 induction l generalizing i with
 | nil=>simp at hi;subst hi;rfl
 | cons y l ih=>
  cases i with
  | zero=>
   have e:=h2 0 (Nat.le_refl _) (by simp)
   have e2:mlt y m=false:=e
   simp[pos,e2]
  | succ i=>
   have e2:mlt y m=true:=h1 0 (by omega)
   have:=ih (i:=i) (List.pairwise_cons.1 hr).2 (by simpa using hi) (fun k hk=>h1 (k+1) (by omega)) (fun k hk hk2=>h2 (k+1) (by omega) (by simpa using hk2))
   unfold pos at this ⊢
   rw[List.takeWhile_cons,if_pos e2,List.length_cons,this]
theorem rise_get {l:List Mk} (hr:Rise mlt l) {i j:Nat} (hij:i<j) (hj:j<l.length):mlt (l.getD i none1) (l.getD j none1)=true:=by
 have h:=List.pairwise_iff_getElem.1 hr i j (by omega) hj hij
 rw[List.getD_eq_getElem?_getD,List.getD_eq_getElem?_getD,List.getElem?_eq_getElem (by omega),List.getElem?_eq_getElem hj]
 exact h
/- it is there just if it stands where it would stand -/
theorem there_pos {l:List Mk} {m:Mk} (hr:Rise mlt l):there l m=(decide (pos mlt l m<l.length)&&decide (l.getD (pos mlt l m) none1=m)):=by
 rw[Bool.eq_iff_iff,there_iff,Bool.and_eq_true,decide_eq_true_eq,decide_eq_true_eq]
 obtain⟨c1,c2⟩:=cut mlt_strict m hr
 constructor
 ·intro hm
  have hd:m ∈ l.drop (pos mlt l m):=by
   have:m ∈ l.take (pos mlt l m)++l.drop (pos mlt l m):=by rw[List.take_append_drop];exact hm
   rcases List.mem_append.1 this with h | h
   ·have:=c1 m h;rw[mlt_strict.1] at this;cases this
   ·exact h
  obtain⟨j,hj,e⟩:=List.mem_iff_getElem.1 hd
  rw[List.getElem_drop] at e
  rw[List.length_drop] at hj
  have hlt:pos mlt l m<l.length:=by omega
  refine⟨hlt, ?_⟩
  cases j with
  | zero=>rw[List.getD_eq_getElem?_getD,List.getElem?_eq_getElem hlt];simpa using e
  | succ j=>
   exfalso
   have h1:=rise_get hr (i:=pos mlt l m) (j:=pos mlt l m+(j+1)) (by omega) (by omega)
   have e3:l.getD (pos mlt l m+(j+1)) none1=m:=by rw[List.getD_eq_getElem?_getD,List.getElem?_eq_getElem (by omega)];simpa using e
   rw[e3] at h1
   have h2:=c2 (l.getD (pos mlt l m) none1) (by
    rw[List.getD_eq_getElem?_getD,List.getElem?_eq_getElem hlt]
    rw[List.drop_eq_getElem_cons hlt];exact List.mem_cons_self ..)
   rw[h1] at h2;cases h2
 ·rintro⟨h1,h2⟩
  rw[←h2];exact getM_mem h1
theorem search_any (q:Option Addr) (n c:Nat) (l:List Mk) (sp:ByteArray) (p1 p2:Int) (w:World) (hl:l.length=n) (h:MarksIn w q l) (hr:Rise mlt l) (hn:n≤1048576):
  Calls Tryz.prog 200 #[.slice q n c,.agg #[.string sp,.int .i64 p1,.int .i64 p2],.func (.func 201) #[] #[]] w fun e w'=>e=.returned (.tuple #[.int .i64 (pos mlt l (sp,(p1,p2))),.bool (there l (sp,(p1,p2)))])∧Below w.heap.size w w':=by
 have HL:=z9 hl
 have HI:=z9 h
 have HR:=z9 hr
 have HNC:Hid (∀wr,Below (w.alloc (.cells #[.string sp,.int .i64 p1,.int .i64 p2] 96)).heap.size (w.alloc (.cells #[.string sp,.int .i64 p1,.int .i64 p2] 96)) wr→wr.cell? ⟨w.heap.size,0,none⟩=some (.string sp)∧wr.cell? ⟨w.heap.size,1,none⟩=some (.int .i64 p1)∧wr.cell? ⟨w.heap.size,2,none⟩=some (.int .i64 p2)):=fun wr hb=>new_cell (x:=(sp,(p1,p2))) hb
 have HB0:Hid (Below w.heap.size w (w.alloc (.cells #[.string sp,.int .i64 p1,.int .i64 p2] 96))):=(Below.refl _ w).alloc (Nat.le_refl _) _
 obtain⟨p,hp⟩:∃p:Mk,p=(sp,(p1,p2)):=⟨_,rfl⟩
 rw[←hp]
 have HPP:=z9 hp
 clear hl h hr hp
 go_enter Tryz.func200,Tryz.ntmps200
 go_wp2
 go_loopw [9,10,11] (fun vi vj _ wr=>∃(i j:Nat),i≤j∧j≤n∧vi=.int .i64 i∧vj=.int .i64 j∧Hid (∀k,k<i→mlt (l.getD k none1) p=true)∧Hid (∀k,j≤k→k<n→mlt (l.getD k none1) p=false)∧Hid (Below w.heap.size w wr)∧Hid (wr.cell? ⟨w.heap.size,0,none⟩=some (.string sp)∧wr.cell? ⟨w.heap.size,1,none⟩=some (.int .i64 p1)∧wr.cell? ⟨w.heap.size,2,none⟩=some (.int .i64 p2))) (fun vi vj _ _=>(intOf vj).toNat-(intOf vi).toNat)
 case atStart=>exact⟨0,n,by omega,by omega,rfl,rfl,fun k hk=>absurd hk (by omega),fun k h1 h2=>absurd h1 (by omega),HB0,HNC.out _ (Below.refl _ _)⟩
 case round=>
  obtain⟨i,j,hij,hjn,rfl,rfl,H1,H2,HB,HX0⟩:=hrel
  by_cases hlt:i<j
  ·have hltz:(i:Int)<j:=by omega
   obtain⟨m,hm⟩:∃m:Nat,((i:Int)+j)/2=m:=⟨(i+j)/2,by omega⟩
   have him:i≤m:=by omega
   have hmj:m<j:=by omega
   obtain⟨b,o,rfl,hc⟩:=HI.out.some (by intro e;have:=HL.out;rw[e] at this;simp at this;omega)
   have hml:m<l.length:=by rw[HL.out];omega
   have ha:=(hc m hml).below HB.out (hc m hml).lt
   obtain⟨x,hx⟩:∃x,x=l.getD m none1:=⟨_,rfl⟩
   rw[←hx] at ha
   have HX:=z9 hx
   obtain⟨sx,x1,x2⟩:=x
   obtain⟨a1,a2,a3⟩:=ha
   have hmn:(m:Int)<n:=by omega
   clear hc hx
   simp only at a1 a2 a3
   have C:=fun W=>compareMarks_any sx x1 x2 sp p1 p2 W
   have HCL:Hid (mcmp (sx,(x1,x2)) (sp,(p1,p2))<0↔mlt (sx,(x1,x2)) p=true):=by rw[HPP.out];exact mcmp_lt
   obtain⟨z,hzz⟩:∃z,z=mcmp (sx,(x1,x2)) (sp,(p1,p2)):=⟨_,rfl⟩
   rw[←hzz] at C HCL
   clear hzz
   obtain⟨d0,d1,d2⟩:=HX0.out
   by_cases hz:z<0
   ·have H3:Hid (∀k,k<m+1→mlt (l.getD k none1) p=true):=by
     have h9:=HCL.out.1 hz
     rw[HX.out] at h9
     intro k hk
     rcases Nat.lt_succ_iff_lt_or_eq.1 hk with h | rfl
     ·exact mlt_strict.2.1 _ _ _ (rise_get HR.out h hml) h9
     ·exact h9
    go_wp2_with fail
    go_region_held3 (fun W=>W.cell? ⟨b,o+m*3,none⟩=some (.string sx)∧W.cell? ⟨b,o+m*3+1,none⟩=some (.int .i64 x1)∧W.cell? ⟨b,o+m*3+2,none⟩=some (.int .i64 x2)∧W.cell? ⟨w.heap.size,0,none⟩=some (.string sp)∧W.cell? ⟨w.heap.size,1,none⟩=some (.int .i64 p1)∧W.cell? ⟨w.heap.size,2,none⟩=some (.int .i64 p2)) (first | (go_keep;done) | (refine⟨keep_cell hb7 ?_,keep_cell hb7 ?_,keep_cell hb7 ?_,keep_cell hb7 ?_,keep_cell hb7 ?_,keep_cell hb7 ?_⟩<;>(go_split_ands;assumption))) (first
     | (go_at_call 201;refine(C _).mono ?_;rintro e w7 ⟨rfl,hb7⟩;have HB7:=z9 (bel HB.out.drew hb7);have HC7:Hid (Below wr.heap.size wr w7):=bel (Below.refl _ wr).drew hb7))
    all_goals
     go_wp2_with fail
     go_roundw
     case rel=>exact⟨m+1,j,by omega,by omega,by go_num,rfl,H3,H2,HB7,⟨keep_cell HC7.out d0,keep_cell HC7.out d1,keep_cell HC7.out d2⟩⟩
     case measure=>simp[intOf];omega
   ·have H3:Hid (∀k,m≤k→k<n→mlt (l.getD k none1) p=false):=by
     have h9:mlt (sx,(x1,x2)) p=false:=by
      cases h8:mlt (sx,(x1,x2)) p
      ·rfl
      ·exact absurd (HCL.out.2 h8) hz
     rw[HX.out] at h9
     intro k hk hk2
     rcases Nat.lt_or_eq_of_le hk with h | rfl
     ·cases h8:mlt (l.getD k none1) p
      ·rfl
      ·rw[mlt_strict.2.1 _ _ _ (rise_get HR.out h (by rw[HL.out];exact hk2)) h8] at h9;cases h9
     ·exact h9
    go_wp2_with fail
    go_region_held3 (fun W=>W.cell? ⟨b,o+m*3,none⟩=some (.string sx)∧W.cell? ⟨b,o+m*3+1,none⟩=some (.int .i64 x1)∧W.cell? ⟨b,o+m*3+2,none⟩=some (.int .i64 x2)∧W.cell? ⟨w.heap.size,0,none⟩=some (.string sp)∧W.cell? ⟨w.heap.size,1,none⟩=some (.int .i64 p1)∧W.cell? ⟨w.heap.size,2,none⟩=some (.int .i64 p2)) (first | (go_keep;done) | (refine⟨keep_cell hb7 ?_,keep_cell hb7 ?_,keep_cell hb7 ?_,keep_cell hb7 ?_,keep_cell hb7 ?_,keep_cell hb7 ?_⟩<;>(go_split_ands;assumption))) (first
     | (go_at_call 201;refine(C _).mono ?_;rintro e w7 ⟨rfl,hb7⟩;have HB7:=z9 (bel HB.out.drew hb7);have HC7:Hid (Below wr.heap.size wr w7):=bel (Below.refl _ wr).drew hb7))
    all_goals
     go_wp2_with fail
     go_roundw
     case rel=>exact⟨i,m,by omega,by omega,rfl,by go_num,H1,H3,HB7,⟨keep_cell HC7.out d0,keep_cell HC7.out d1,keep_cell HC7.out d2⟩⟩
     case measure=>simp[intOf];omega
  ·obtain rfl:i=j:=by omega
   have HA:=z9 (pos_eq HR.out (by rw[HL.out];exact hjn) H1.out (fun k h1 h2=>H2.out k h1 (by rw[←HL.out];exact h2)))
   have HTP:Hid (there l p=(decide (i<n)&&decide (l.getD i none1=p))):=by
    unfold Hid;rw[there_pos HR.out,HA.out,HL.out]
   by_cases hin:i<n
   ·have hinz:(i:Int)<n:=by omega
    obtain⟨b,o,rfl,hc⟩:=HI.out.some (by intro e;have:=HL.out;rw[e] at this;simp at this;omega)
    have hil:i<l.length:=by rw[HL.out];omega
    have ha:=(hc i hil).below HB.out (hc i hil).lt
    obtain⟨x,hx⟩:∃x,x=l.getD i none1:=⟨_,rfl⟩
    rw[←hx] at ha
    have HX:=z9 hx
    obtain⟨sx,x1,x2⟩:=x
    obtain⟨a1,a2,a3⟩:=ha
    clear hc hx
    simp only at a1 a2 a3
    have C:=fun W=>compareMarks_any sx x1 x2 sp p1 p2 W
    have HH:Hid (there l p=(mcmp (sx,(x1,x2)) (sp,(p1,p2))==0)):=by
     unfold Hid
     rw[HTP.out,decide_eq_true hin,Bool.true_and,←HX.out,Bool.eq_iff_iff,decide_eq_true_eq,beq_iff_eq,mcmp_eq,HPP.out]
    obtain⟨z,hzz⟩:∃z,z=mcmp (sx,(x1,x2)) (sp,(p1,p2)):=⟨_,rfl⟩
    rw[←hzz] at C HH
    clear hzz HTP
    obtain⟨d0,d1,d2⟩:=HX0.out
    go_wp2_with fail
    go_region_held3 (fun W=>W.cell? ⟨b,o+i*3,none⟩=some (.string sx)∧W.cell? ⟨b,o+i*3+1,none⟩=some (.int .i64 x1)∧W.cell? ⟨b,o+i*3+2,none⟩=some (.int .i64 x2)∧W.cell? ⟨w.heap.size,0,none⟩=some (.string sp)∧W.cell? ⟨w.heap.size,1,none⟩=some (.int .i64 p1)∧W.cell? ⟨w.heap.size,2,none⟩=some (.int .i64 p2)) (first | (go_keep;done) | (refine⟨keep_cell hb7 ?_,keep_cell hb7 ?_,keep_cell hb7 ?_,keep_cell hb7 ?_,keep_cell hb7 ?_,keep_cell hb7 ?_⟩<;>(go_split_ands;assumption))) (first
     | (go_at_call 201;refine(C _).mono ?_;rintro e w7 ⟨rfl,hb7⟩;have HB7:=z9 (bel HB.out.drew hb7);have HC7:Hid (Below wr.heap.size wr w7):=bel (Below.refl _ wr).drew hb7))
    all_goals
     go_wp2_with fail
     go_ret2
     exact⟨by rw[HA.out,HH.out];rfl,HB7.out⟩
   ·have hinz:¬(i:Int)<n:=by omega
    have hind:decide (i<n)=false:=by simpa using hin
    have HH:Hid (there l p=false):=by
     unfold Hid;rw[HTP.out,hind];rfl
    go_wp2_with fail
    go_quiet (fail)
    go_wp2_with fail
    go_ret2
    exact⟨by rw[HA.out,HH.out];rfl,bel_drew HB.out _⟩
end Nse
end Go.Proofs.YtlmdchpbpgcfmaaGreatDoor
