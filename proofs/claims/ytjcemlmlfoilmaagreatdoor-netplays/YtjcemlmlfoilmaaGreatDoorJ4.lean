import Derived.Test.YtjcemlmlfoilmaaGreatDoorJ2
import Derived.Deep.RegionHeld3
set_option linter.unusedVariables false
set_option maxRecDepth 100000
set_option maxHeartbeats 8000000
namespace Go.Proofs.YtjcemlmlfoilmaaGreatDoor
open Go.RowKit Cm Ka Kb
open Go.Proofs.Tryz (prog)
namespace Na
def none1:Mk:=(ByteArray.empty,(0,0))
def fR (x:Mk):List Value:=[.string x.1,.int .i64 x.2.1,.int .i64 x.2.2]
def flat (l:List Mk):List Value:=l.flatMap fR
theorem fE(a b:List Mk):flat (a++b)=flat a++flat b:=by unfold flat;rw[vA]
theorem aX:∀l:List Mk,(flat l).length=l.length*3
 | []=>rfl
 | x::l=>by
  have:=aX l
  unfold flat at this |-
  rw[vR,qE,this]
  simp[fR];omega
theorem iP:∀{l:List Mk} {j:Nat} (hj:j<l.length),(flat l)[j*3]? =some (.string (l.getD j none1).1)/\(flat l)[j*3+1]? =some (.int .i64 (l.getD j none1).2.1)/\(flat l)[j*3+2]? =some (.int .i64 (l.getD j none1).2.2)
 | [],j,hj=>absurd hj (by simp)
 | x::l,0,_=>⟨rfl,rfl,rfl⟩
 | x::l,j+1,hj=>by
  have h:=iP (l:=l) (j:=j) (by simpa using hj)
  have e:∀i,(flat (x::l))[i+3]? =(flat l)[i]? :=fun i=>by
   unfold flat
   rw[vR,jG (by simp[fR])]
   simp[fR]
  rw[show(j+1)*3=j*3+3 by omega,show j*3+3+1=j*3+1+3 by omega,show j*3+3+2=j*3+2+3 by omega,e,e,e]
  exact h
def MAt (w:World) (b o j:Nat) (x:Mk):Prop:=w.cell? ⟨b,o+j*3,none⟩=some (.string x.1)∧w.cell? ⟨b,o+j*3+1,none⟩=some (.int .i64 x.2.1)∧w.cell? ⟨b,o+j*3+2,none⟩=some (.int .i64 x.2.2)
def MarksIn (w:World) (p:Option Addr) (l:List Mk):Prop:=
 l=[]∨∃b o,p=some ⟨b,o,none⟩∧∀j,j<l.length→MAt w b o j (l.getD j none1)
variable {w w':World}{b o j B base n:Nat}{x:Mk}{l:List Mk}{t:TypeId}{v:Value}
theorem MAt.below(h:MAt w b o j x)(hb:Below B w w')(hB:b<B):MAt w' b o j x:=
 ⟨(hb.cell (p:=⟨b,o+j*3,none⟩) hB).trans h.1,(hb.cell (p:=⟨b,o+j*3+1,none⟩) hB).trans h.2.1,(hb.cell (p:=⟨b,o+j*3+2,none⟩) hB).trans h.2.2⟩
theorem MAt.lt(h:MAt w b o j x):b<w.heap.size:=qJ _ ⟨b,o+j*3,none⟩ h.1
theorem MarksIn.below{w w':World}{p:Option Addr}{l:List Mk}(h:MarksIn w p l)(hb:zB w w'):MarksIn w' p l:=by
 rcases h with h | ⟨b,o,hp,hc⟩
 ·exact qH h
 ·exact qF ⟨b,o,hp,fun j hj=>(hc j hj).below hb (hc j hj).lt⟩
theorem MarksIn.some{w:World}{p:Option Addr}{l:List Mk}(h:MarksIn w p l)(hl:l≠[]):∃b o,p=some ⟨b,o,none⟩∧∀j,j<l.length→MAt w b o j (l.getD j none1):=by
 rcases h with h | h
 ·exact absurd h hl
 ·exact h
theorem gM(h:∀j,j<l.length->MAt w b o j (l.getD j none1)):∀j u,(flat l)[j]? =some u->w.cell? ⟨b,o+j,none⟩=some u:=by
 intro j u hu;have i:j<l.length*3:=by rw[<-aX];exact(jK.1 hu).1
 have f:j/3<l.length:=by omega
 have d:=h (j/3) f;have c:=iP f;have a:j=j/3*3+j%3:=by omega
 have g:j%3=0\/j%3=1\/j%3=2:=by omega
 rcases g with e | e | e
 ·rw[e,vL] at a;rw[<-a] at c;rw[c.1] at hu;injection hu with hu
  rw[<-hu];have:=d.1;rwa [<-a] at this
 ·rw[e] at a;rw[<-a] at c;rw[c.2.1] at hu;injection hu with hu
  rw[<-hu];have:=d.2.1;rwa [show o+j/3*3+1=o+(j/3*3+1) by omega,<-a] at this
 ·rw[e] at a;rw[<-a] at c;rw[c.2.2] at hu;injection hu with hu
  rw[<-hu];have:=d.2.2;rwa [show o+j/3*3+2=o+(j/3*3+2) by omega,<-a] at this
theorem bF(l:List Mk):∀u ∈ flat l,u.oneCell'=true:=by
 intro u hu;unfold flat at hu;obtain⟨x,_,a⟩:=kN.1 hu;simp only[fR,jD,vO,or_false] at a;rcases a with rfl | rfl | rfl<;>rfl
theorem wI(h:w.ownsRow base t 3 v n (flat l)):l.length=n/\∃p c,v=.slice p n c/\MarksIn w p l:=by
 have b:l.length=n:=by have:=h.1;rw[aX] at this;omega
 refine⟨b, ?_⟩;rcases h.2 with⟨rfl,h0⟩ | ⟨g,cap,cur,rfl,_,h2,h3,h4,h5,h6⟩
 ·subst h0;exact⟨none,0,rfl,qH (qK b)⟩
 ·refine⟨some (zA g),cap,rfl,qF ⟨g,0,rfl,fun j hj=> ?_⟩⟩;have d:=iP hj
  have a:∀i u,(flat l)[i]? =some u->w.cell? ⟨g,0+i,none⟩=some u:=by
   intro i u hu;have e:i<n*3:=by rw[<-b,<-aX];exact(jK.1 hu).1
   rw[<-h6,jC e] at hu;rw[qY];simp only[World.cell?,h2];simpa using hu
  refine⟨a _ _ d.1, ?_, ?_⟩
  ·have:=a _ _ d.2.1;rwa [show 0+(j*3+1)=0+j*3+1 by omega] at this
  ·have:=a _ _ d.2.2;rwa [show 0+(j*3+2)=0+j*3+2 by omega] at this
def noneD:Dt:=(0,0)
def aggD (x:Dt):Value:=.agg #[.int .i64 x.1,.int .i64 x.2]
def uJ (x:Dt):List Value:=[.int .i64 x.1,.int .i64 x.2]
def flatD (l:List Dt):List Value:=l.flatMap uJ
theorem nF(a b:List Dt):flatD (a++b)=flatD a++flatD b:=by unfold flatD;rw[vA]
theorem eE:∀l:List Dt,(flatD l).length=l.length*2
 | []=>rfl
 | x::l=>by
  have:=eE l
  unfold flatD at this |-
  rw[vR,qE,this]
  simp[uJ];omega
theorem sL:∀{l:List Dt} {j:Nat} (hj:j<l.length),(flatD l)[j*2]? =some (.int .i64 (l.getD j noneD).1)/\(flatD l)[j*2+1]? =some (.int .i64 (l.getD j noneD).2)
 | [],j,hj=>absurd hj (by simp)
 | x::l,0,_=>⟨rfl,rfl⟩
 | x::l,j+1,hj=>by
  have h:=sL (l:=l) (j:=j) (by simpa using hj)
  have e:∀i,(flatD (x::l))[i+2]? =(flatD l)[i]? :=fun i=>by
   unfold flatD
   rw[vR,jG (by simp[uJ])]
   simp[uJ]
  rw[show(j+1)*2=j*2+2 by omega,show j*2+2+1=j*2+1+2 by omega,e,e]
  exact h
def DAt (w:World) (b o j:Nat) (x:Dt):Prop:=w.cell? ⟨b,o+j*2,none⟩=some (.int .i64 x.1)∧w.cell? ⟨b,o+j*2+1,none⟩=some (.int .i64 x.2)
def kU (w:World) (p:Option Addr) (l:List Dt):Prop:=
 l=[]∨∃b o,p=some ⟨b,o,none⟩∧∀j,j<l.length→DAt w b o j (l.getD j noneD)
theorem DAt.below{x:Dt}(h:DAt w b o j x)(hb:Below B w w')(hB:b<B):DAt w' b o j x:=
 ⟨(hb.cell (p:=⟨b,o+j*2,none⟩) hB).trans h.1,(hb.cell (p:=⟨b,o+j*2+1,none⟩) hB).trans h.2⟩
theorem DAt.lt{x:Dt}(h:DAt w b o j x):b<w.heap.size:=qJ _ ⟨b,o+j*2,none⟩ h.1
theorem kU.below{w w':World}{p:Option Addr}{l:List Dt}(h:kU w p l)(hb:zB w w'):kU w' p l:=by
 rcases h with h | ⟨b,o,hp,hc⟩
 ·exact qH h
 ·exact qF ⟨b,o,hp,fun j hj=>(hc j hj).below hb (hc j hj).lt⟩
theorem kU.some{w:World}{p:Option Addr}{l:List Dt}(h:kU w p l)(hl:l≠[]):∃b o,p=some ⟨b,o,none⟩∧∀j,j<l.length→DAt w b o j (l.getD j noneD):=by
 rcases h with h | h
 ·exact absurd h hl
 ·exact h
theorem lM(l:List Dt):∀u ∈ flatD l,u.oneCell'=true:=by
 intro u hu;unfold flatD at hu;obtain⟨x,_,a⟩:=kN.1 hu;simp only[uJ,jD,vO,or_false] at a;rcases a with rfl | rfl<;>rfl
theorem aGN{l:List Dt}(h:w.ownsRow base t 2 v n (flatD l)):l.length=n/\∃p c,v=.slice p n c/\kU w p l:=by
 have b:l.length=n:=by have:=h.1;rw[eE] at this;omega
 refine⟨b, ?_⟩;rcases h.2 with⟨rfl,h0⟩ | ⟨g,cap,cur,rfl,_,h2,h3,h4,h5,h6⟩
 ·subst h0;exact⟨none,0,rfl,qH (qK b)⟩
 ·refine⟨some (zA g),cap,rfl,qF ⟨g,0,rfl,fun j hj=> ?_⟩⟩;have d:=sL hj
  have a:∀i u,(flatD l)[i]? =some u->w.cell? ⟨g,0+i,none⟩=some u:=by
   intro i u hu;have e:i<n*2:=by rw[<-b,<-eE];exact(jK.1 hu).1
   rw[<-h6,jC e] at hu;rw[qY];simp only[World.cell?,h2];simpa using hu
  refine⟨a _ _ d.1, ?_⟩;have:=a _ _ d.2;rwa [show 0+(j*2+1)=0+j*2+1 by omega] at this
theorem aA7(hj:j<l.length):l.getD j none1 ∈ l:=by
 rw[qA,qB hj];exact jF hj
theorem aFG{k:Nat}(hk:k<l.length):l.drop k=l.getD k none1::l.drop (k+1):=by
 rw[xB hk,qA,qB hk];rfl
theorem cC{l:List Dt}(hj:j<l.length):l.getD j noneD ∈ l:=by
 rw[qA,qB hj];exact jF hj
def MksAt (w:World) (v:Value) (l:List Mk):Prop:=∃p c,v=.slice p l.length c∧MarksIn w p l∧l.length≤c∧c≤maxLen∧(p=none→c=0)
theorem MksAt.below{w w':World}{v:Value}{l:List Mk}(h:MksAt w v l)(hb:zB w w'):MksAt w' v l:=by
 obtain⟨p,c,a,b,d⟩:=h;exact⟨p,c,a,b.below hb,d⟩
theorem MksAt.nil(w:World):MksAt w (.slice none 0 0) []:=⟨none,0,rfl,qH rfl,qC _,by unfold maxLen;omega,fun _=>rfl⟩
def DtsAt (w:World) (v:Value) (l:List Dt):Prop:=∃p c,v=.slice p l.length c∧kU w p l∧l.length≤c∧c≤maxLen∧(p=none→c=0)
theorem DtsAt.below{w w':World}{v:Value}{l:List Dt}(h:DtsAt w v l)(hb:zB w w'):DtsAt w' v l:=by
 obtain⟨p,c,a,b,d⟩:=h;exact⟨p,c,a,b.below hb,d⟩
theorem DtsAt.nil(w:World):DtsAt w (.slice none 0 0) []:=⟨none,0,rfl,qH rfl,qC _,by unfold maxLen;omega,fun _=>rfl⟩
theorem gR(h:w.ownsRow base t 3 v n (flat l)):MksAt w v l:=by
 obtain⟨b,p,c,a,d⟩:=wI h;refine⟨p,c,by rw[b];exact a,d, ?_⟩;rcases h.2 with⟨e,e0⟩ | ⟨g,cap,cur,e,_,_,h3,h4,_⟩
 ·rw[a] at e;injection e with e1 e2 e3
  exact⟨by omega,by rw[e3];unfold maxLen;omega,fun _=>e3⟩
 ·rw[a] at e;injection e with e1 e2 e3
  exact⟨by omega,by omega,fun h9=>by rw[h9] at e1;cases e1⟩
theorem gO{l:List Dt}(h:w.ownsRow base t 2 v n (flatD l)):DtsAt w v l:=by
 obtain⟨b,p,c,a,d⟩:=aGN h;refine⟨p,c,by rw[b];exact a,d, ?_⟩;rcases h.2 with⟨e,e0⟩ | ⟨g,cap,cur,e,_,_,h3,h4,_⟩
 ·rw[a] at e;injection e with e1 e2 e3
  exact⟨by omega,by rw[e3];unfold maxLen;omega,fun _=>e3⟩
 ·rw[a] at e;injection e with e1 e2 e3
  exact⟨by omega,by omega,fun h9=>by rw[h9] at e1;cases e1⟩
def MksNew (B:Nat) (w:World) (v:Value) (l:List Mk):Prop:=MksAt w v l∧La.Lies B v
theorem MksNew.mono{B C:Nat}{w:World}{v:Value}{l:List Mk}(h:MksNew B w v l)(hC:C<=B):MksNew C w v l:=⟨h.1,h.2.mono hC⟩
theorem MksNew.nil(B:Nat)(w:World):MksNew B w (.slice none 0 0) []:=⟨MksAt.nil w,La.Lies.nil B⟩
end Na
namespace Nb
open Go.WideShapes
def icmp (a b:Int):Int:=if a<b then -1 else if b<a then 1 else 0
def or2 (a b:Int):Int:=if a=0 then b else a
theorem nL{a b:Int}:icmp a b<0↔a<b:=by
 unfold icmp;split
 ·constructor<;>intro h<;>omega
 ·split
  ·constructor<;>intro h<;>omega
  ·constructor<;>intro h<;>omega
theorem oB{a b:Int}:icmp a b=0↔a=b:=by
 unfold icmp;split
 ·constructor<;>intro h<;>omega
 ·split
  ·constructor<;>intro h<;>omega
  ·constructor<;>intro h<;>omega
theorem zO{a b:Int}:or2 a b<0↔a<0\/(a=0/\b<0):=by
 unfold or2;split<;>omega
theorem aG6{a b:Int}:or2 a b=0↔a=0/\b=0:=by
 unfold or2;split<;>omega
def dcmp (a b:Dt):Int:=or2 (icmp a.1 b.1) (icmp a.2 b.2)
theorem rP{a b:Dt}:dcmp a b<0↔dlt a b=true:=by
 unfold dcmp dlt;rw[zO,nL,oB,nL];simp
theorem aHS{a b:Dt}:dcmp a b=0↔a=b:=by
 unfold dcmp;rw[aG6,oB,oB];obtain⟨c,d⟩:=a;obtain⟨e,f⟩:=b;simp
def cmp (a b:ByteArray):Int:=Lib.compareBytes a.data.toList b.data.toList
theorem eW:∀a b:List UInt8,(Lib.compareBytes a b<0↔Op.bytesLess a b=true)/\(Lib.compareBytes a b=0↔a=b)
 | [],[]=>by simp[Lib.compareBytes,Op.bytesLess]
 | [],_::_=>by simp[Lib.compareBytes,Op.bytesLess]
 | _::_,[]=>by simp[Lib.compareBytes,Op.bytesLess]
 | x::a,y::b=>by
  obtain⟨h1,h2⟩:=eW a b
  unfold Lib.compareBytes
  by_cases hlt:x<y
  ·rw[if_pos hlt]
   have hne:x≠y:=by rintro rfl;exact absurd hlt (UInt8.lt_irrefl x)
   simp[Op.bytesLess,hlt,hne]
  ·rw[if_neg hlt]
   by_cases hgt:y<x
   ·rw[if_pos hgt]
    have hne:x≠y:=by rintro rfl;exact absurd hgt (UInt8.lt_irrefl x)
    simp[Op.bytesLess,hlt,hne]
   ·rw[if_neg hgt]
    have e:=UInt8.le_antisymm (UInt8.not_lt.1 hgt) (UInt8.not_lt.1 hlt)
    subst e
    constructor
    ·rw[h1];simp[Op.bytesLess,hlt]
    ·rw[h2];simp
variable (a b:ByteArray)(w:World)
theorem aCm:cmp a b<0↔Op.bytesLess a.toList b.toList=true:=by
 unfold cmp;rw[ByteArray.toList_eq,ByteArray.toList_eq];exact(eW _ _).1
theorem cmp_eq:cmp a b=0↔a=b:=by
 have h:cmp a b=0↔a.toList=b.toList:=by
  unfold cmp;rw[ByteArray.toList_eq,ByteArray.toList_eq];exact(eW _ _).2
 rw[h];exact⟨fun e=>Bm.bytes_inj e,fun e=>by rw[e]⟩
def mcmp (a b:Mk):Int:=or2 (cmp a.1 b.1) (dcmp a.2 b.2)
theorem aDo{a b:Mk}:mcmp a b<0↔mlt a b=true:=by
 unfold mcmp mlt;rw[zO,aCm,cmp_eq,rP];simp
theorem aIf{a b:Mk}:mcmp a b=0↔a=b:=by
 unfold mcmp;rw[aG6,cmp_eq,aHS];obtain⟨c,d⟩:=a;obtain⟨e,f⟩:=b;simp
theorem entry(args:Array Value)(w:World):(callFunc 187 args).run prog w=((Extern.BytealgCompare.compare args).run prog w).andThen fun v w'=> .ok (.value v) w':=
 run_callFunc_extern Tryz.func187 (by kernel_rfl) (by kernel_rfl) (by kernel_rfl) (by kernel_rfl) args w
theorem aB1:(callFunc 187 #[.string a,.string b]).run prog w=.ok (.value (.int .i64 (cmp a b))) w:=by
 rw[entry,Lib.run_compareString];rfl
theorem kZ:
  Calls prog 154 #[.string a,.string b] w fun e w'=>e=.returned (.int .i64 (cmp a b))/\w'=w:=by
 have c:=aB1;go_in;go_wp2;go_ret;exact⟨rfl,rfl⟩
theorem pO(a:Int)(w:World):
  Calls prog 200 #[.int .i64 a] w fun e w'=>e=.returned (.bool false)/\w'=w:=by
 go_in;go_wp2;go_ret;exact⟨by first | rfl | simp,rfl⟩
theorem iT(a b:Int)(w:World):
  Calls prog 196 #[.int .i64 a,.int .i64 b] w fun e w'=>e=.returned (.int .i64 (icmp a b))/\w'=w:=by
 have H:Hid (icmp a b=if a<b then -1 else if b<a then 1 else 0):=rfl
 go_in
 go_wp2_with (go_at_call 200;refine(pO _ _).mono ?_;rintro e w' ⟨rfl,d⟩;subst w')
 all_goals
  go_ret
  refine⟨?_,rfl⟩
  rw[H.out]
  first
   | (rw[if_pos (by omega)];rfl)
   | (rw[if_neg (by omega),if_pos (by omega)];rfl)
   | (rw[if_neg (by omega),if_neg (by omega)];rfl)
theorem zL(g:Nat)(a b:Int)(w:World)(h0:w.cell? ⟨g,0,none⟩=some (.int .i64 a))(h1:w.cell? ⟨g,1,none⟩=some (.int .i64 b)):
  Calls prog 190 #[.slice (some ⟨g,0,none⟩) 2 2] w fun e w'=>e=.returned (.int .i64 (or2 a b))/\w'=w:=by
 have H:Hid (or2 a b=if a=0 then b else a):=rfl;go_in;go_wp2;go_loop [5,8] (fun _ i=>∃(k:Nat),k<=2/\i=zI k/\Hid ((1<=k->a=0)/\(2<=k->b=0))) (fun _ i=>2-(intOf i).toNat)
 case atStart=>exact⟨0,by omega,rfl,⟨fun h=>by omega,fun h=>by omega⟩⟩
 case round=>
  obtain⟨k,q,rfl,f⟩:=hrel;have m:k=0\/k=1\/k=2:=by omega
  rcases m with rfl | rfl | rfl
  ·by_cases c:a=0
   ·subst c;go_wp2_with fail;go_round
    case rel=>exact⟨1,by omega,by go_num,⟨fun _=>by first | rfl | trivial,fun h=>by omega⟩⟩
    case measure=>simp[intOf]
   ·have o:(a !=0)=true:=by simpa using c
    have j:Hid (or2 a b=a):=by unfold Hid;rw[H.out,if_neg c]
    clear c;go_wp2_with fail;go_ret;exact⟨by rw[j.out];rfl,rfl⟩
  ·obtain rfl:=f.out.1 (by omega);by_cases l:b=0
   ·subst l;go_wp2_with fail;go_round
    case rel=>exact⟨2,by omega,by go_num,⟨fun _=>by first | rfl | trivial,fun _=>by first | rfl | trivial⟩⟩
    case measure=>simp[intOf]
   ·have p:(b !=0)=true:=by simpa using l
    have j:Hid (or2 0 b=b):=by unfold Hid;rw[H.out,if_pos rfl]
    clear l;go_wp2_with fail;go_ret;exact⟨by rw[j.out];rfl,rfl⟩
  ·obtain rfl:=f.out.1 (by omega);obtain rfl:=f.out.2 (by omega);go_wp2_with fail;go_ret;exact⟨by rw[H.out];rfl,rfl⟩
end Nb
namespace Nc
open Nb
open La (bel)
theorem aAm(a b:Int)(W:World)(n:Nat)(t:TypeId)(hn:n=W.heap.size):
  Calls prog 190 #[.slice (some ⟨n,0,none⟩) 2 2] (W.alloc (.cells #[.int .i64 a,.int .i64 b] t)).drew fun e w'=>e=.returned (.int .i64 (or2 a b))/\w'=(W.alloc (.cells #[.int .i64 a,.int .i64 b] t)).drew:=by
 subst hn;have c:(W.alloc (.cells #[zI a,zI b] t)).drew.heap[W.heap.size]? =some (.cells #[zI a,zI b] t):=heap_alloc_new W (.cells #[zI a,zI b] t);exact zL W.heap.size a b _ (by simp only[World.cell?,c];rfl) (by simp only[World.cell?,c];rfl)
theorem dN(a1 a2 b1 b2:Int)(w:World):
  Calls prog 185 #[.agg #[.int .i64 a1,.int .i64 a2],.agg #[.int .i64 b1,.int .i64 b2]] w fun e w'=>e=.returned (.int .i64 (dcmp (a1,a2) (b1,b2)))/\zB w w':=by
 have a:Hid (dcmp (a1,a2) (b1,b2)=or2 (icmp a1 b1) (icmp a2 b2)):=rfl
 have b:Hid (∀O1 O2 O3,zB w (((w.alloc O1).alloc O2).alloc O3).drew):=fun O1 O2 O3=>(((zb w O1).alloc (by simp) O2).alloc (by simp;omega) O3).drew
 rw[a.out]
 clear a
 go_in
 go_wp2_with fail
 go_region_held3 (fun W=>W.cell? (zW w)=some (zI a1)/\W.cell? ⟨w.heap.size,1,none⟩=some (zI a2)/\W.cell? (zV w)=some (zI b1)/\W.cell? ⟨w.heap.size+1,1,none⟩=some (zI b2)) (go_keep) (first
  | (go_at_call 196;refine(iT _ _ _).mono ?_;rintro e w7 ⟨rfl,c⟩;subst w7)
  | (go_at_call 190;refine(aAm (icmp a1 b1) (icmp a2 b2) _ _ _ ?_).mono ?_;(simp);rintro e w7 ⟨rfl,c⟩;subst w7))
 all_goals
  go_wp2_with fail
  go_ret
  exact⟨rfl,b.out _ _ _⟩
theorem aA{W W':World}{p:Addr}{v:Value}(hb:zB W W')(h:W.cell? p=some v):W'.cell? p=some v:=(hb.cell (qJ _ _ h)).trans h
theorem aGS(a b:Int)(W:World)(n:Nat)(t:TypeId)(hn:n=W.heap.size):
  Calls prog 190 #[.slice (some ⟨n,0,none⟩) 2 2] (W.alloc (.cells #[.int .i64 a,.int .i64 b] t)) fun e w'=>e=.returned (.int .i64 (or2 a b))/\w'=(W.alloc (.cells #[.int .i64 a,.int .i64 b] t)):=by
 subst hn;have c:=heap_alloc_new W (.cells #[zI a,zI b] t);exact zL W.heap.size a b _ (by simp only[World.cell?,c];rfl) (by simp only[World.cell?,c];rfl)
theorem eY(pa:ByteArray)(a1 a2:Int)(pb:ByteArray)(b1 b2:Int)(w:World):
  Calls prog 177 #[.agg #[.string pa,.int .i64 a1,.int .i64 a2],.agg #[.string pb,.int .i64 b1,.int .i64 b2]] w fun e w'=>e=.returned (.int .i64 (mcmp (pa,(a1,a2)) (pb,(b1,b2))))/\zB w w':=by
 have c:Hid (mcmp (pa,(a1,a2)) (pb,(b1,b2))=or2 (cmp pa pb) (dcmp (a1,a2) (b1,b2))):=rfl
 have d:Hid (∀O1 O2,zB w ((w.alloc O1).alloc O2).drew):=fun O1 O2=>((zb w O1).alloc (by simp) O2).drew
 rw[c.out]
 clear c
 go_in
 go_wp2_with fail
 go_region_held3 (fun W=>W.cell? (zW w)=some (.string pa)/\W.cell? ⟨w.heap.size,1,none⟩=some (zI a1)/\W.cell? ⟨w.heap.size,2,none⟩=some (zI a2)/\W.cell? (zV w)=some (.string pb)/\W.cell? ⟨w.heap.size+1,1,none⟩=some (zI b1)/\W.cell? ⟨w.heap.size+1,2,none⟩=some (zI b2)) (first | (go_keep;done) | (refine⟨aA a ?_,aA a ?_,aA a ?_,aA a ?_,aA a ?_,aA a ?_⟩<;>(go_split_ands;assumption))) (first
  | (go_at_call 154;refine(kZ _ _ _).mono ?_;rintro e w6 ⟨rfl,f⟩;subst w6)
  | (go_at_call 185;refine(dN _ _ _ _ _).mono ?_;rintro e w7 ⟨rfl,a⟩;have b:Hid (zB w w7):=bel (d.out _ _) a)
  | (go_at_call 190;refine(aGS (cmp pa pb) (dcmp (a1,a2) (b1,b2)) _ _ _ ?_).mono ?_;(simp);rintro e w8 ⟨rfl,f⟩;subst w8))
 all_goals
  go_wp2_with fail
  go_ret
  exact⟨rfl,b.out.alloc b.out.size _⟩
end Nc
namespace Nd
open Na Nb Nc
open La (bel aC aD aH)
theorem eF(who m:Int)(w:World):
  Calls prog 138 #[.agg #[.int .i64 who,.int .i64 m]] w fun e w'=>e=.returned (errV (dotE who m))/\zB w w':=by
 go_in
 go_wp2
 all_goals
  go_ret
  refine⟨?_,zb w _⟩
  unfold dotE
  first
   | (rw[if_pos (by omega)];rfl)
   | (rw[if_neg (by omega)];rfl)
theorem cF(s:ByteArray)(a b:Int)(w:World)(hs:s.size<=maxLen):
  Calls prog 176 #[.agg #[.string s,.int .i64 a,.int .i64 b]] w fun e w'=>e=.returned (errV (markE (s,(a,b))))/\zB w w':=by
 have C:=fun W=>cQ s W hs
 have m:Hid (∀O1,zB w (w.alloc O1)):=fun O1=>zb w _
 by_cases h:Pm.chk s.toList=0
 ·rw[h,aD] at C;have c:Hid (markE (s,(a,b))=dotE a b):=by unfold Hid markE;rw[if_neg (by simpa using h)]
  rw[c.out];obtain⟨z,n⟩:=zx (errV (dotE a b));have i:=fun W=>eF a b W
  rw[<-n] at i |-;clear c n h;go_in;go_wp2_with fail;refine(C _).mono ?_;rintro e w2 ⟨rfl,d⟩;have f:=d.symm;subst f;clear d C;go_wp2_with fail;refine(i _).mono ?_;rintro e w3 ⟨rfl,g⟩;have o:Hid (zB w w3):=bel (m.out _) g;clear g i;go_wp2_with fail;go_ret;exact⟨rfl,o.out⟩
 ·have c:Hid (markE (s,(a,b))=Pm.chk s.toList):=by unfold Hid markE;rw[if_pos h]
  rw[c.out];obtain⟨k,p⟩:=zx (Pm.chk s.toList);have q:Hid (errV (Pm.chk s.toList)=.iface 59 (zI k)):=by rw[p];exact aH h
  rw[q.out] at C |-;clear c p h q;go_in;go_wp2_with fail;refine(C _).mono ?_;rintro e w2 ⟨rfl,d⟩;have f:=d.symm;subst f;clear d C;go_wp2_with fail;go_ret;exact⟨rfl,m.out _⟩
theorem bC{w w2:World}{x:Mk}{t:TypeId}(hb:Below (w.alloc (.cells #[.string x.1,.int .i64 x.2.1,.int .i64 x.2.2] t)).heap.size (w.alloc (.cells #[.string x.1,.int .i64 x.2.1,.int .i64 x.2.2] t)) w2):
  w2.cell? ⟨w.heap.size,0,none⟩=some (.string x.1)/\w2.cell? ⟨w.heap.size,1,none⟩=some (.int .i64 x.2.1)/\w2.cell? ⟨w.heap.size,2,none⟩=some (.int .i64 x.2.2):=by
 have a:w.heap.size<(w.alloc (.cells #[.string x.1,zI x.2.1,zI x.2.2] t)).heap.size:=by simp
 have b:(w.alloc (.cells #[.string x.1,zI x.2.1,zI x.2.2] t)).heap[w.heap.size]? =some (.cells #[.string x.1,zI x.2.1,zI x.2.2] t):=heap_alloc_new w _;refine⟨(hb.cell (p:=(zW w)) a).trans ?_,(hb.cell (p:=⟨w.heap.size,1,none⟩) a).trans ?_,(hb.cell (p:=⟨w.heap.size,2,none⟩) a).trans ?_⟩<;>(simp only[World.cell?,b];rfl)
theorem bE{w wr w2:World}{o:Obj}(h:zB w wr)(hb:Below (wr.alloc o).heap.size (wr.alloc o) w2):zB w w2:=bel (h.alloc h.size o) hb
def prvM (l:List Mk) (k:Nat):Option Mk:=if k=0 then none else some (l.getD (k-1) none1)
def okM (a:Option Mk) (x:Mk):Bool:=match a with | none=>true | some y=>mlt y x
theorem bG{x:Int}(h1: -1000000<=x)(h2:x<=1000000):IntKind.i64.wrap x=x:=by
 rw[IntKind.wrap_i64];omega
theorem aED{l:List Mk}{k:Nat}{x:Mk}(hk:k<l.length)(hx:x=l.getD k none1):
  goesM (prvM l k) (l.drop k)=if markE x≠0 then markE x else if okM (prvM l k) x=false then 7 else goesM (prvM l (k+1)) (l.drop (k+1)):=by
 rw[aFG hk,<-hx];have e:prvM l (k+1)=some x:=by unfold prvM;rw[if_neg (by omega),vZ,<-hx]
 rw[e];rfl
theorem aBN(p:Option Addr)(n c:Nat)(l:List Mk)(w:World)(hl:l.length=n)(h:MarksIn w p l)(hs:∀x ∈ l,x.1.size <=maxLen)(hn:n <=maxLen):
  Calls prog 157 #[.slice p n c] w fun e w'=>e=.returned (errV (marksE l)) /\ zB w w':=by
 unfold maxLen at hn
 by_cases ae:40<n
 ·have P:Hid (marksE l=4):=by unfold Hid marksE;rw[hl,if_pos ae]
  have hz:(40:Int)<n:=by omega
  clear hl h hs
  go_in
  go_wp2
  go_ret
  exact⟨by rw[P.out];rfl,qD _ _⟩
 ·have P:Hid (marksE l=goesM none l):=by unfold Hid marksE;rw[hl,if_neg ae]
  have hz:¬(40:Int)<n:=by omega
  have HL:=z9 hl
  have HI:=z9 h
  have HS:=z9 hs
  clear hl h hs
  go_in
  go_wp2
  go_loopw [12] (fun i wr=>∃(k:Nat),k <=n /\ i=zI k /\ Hid (goesM (prvM l k) (l.drop k)=goesM none l) /\ Hid (zB w wr)) (fun i _=>n-(intOf i).toNat)
  case atStart=>exact⟨0,by omega,rfl,rfl,qD _ _⟩
  case round=>
   obtain⟨k,hk,rfl,HG,G⟩:=hrel
   by_cases ao:k<n
   ·have av:(k:Int)<n:=by omega
    obtain⟨b,o,rfl,Q⟩:=HI.out.some (by intro e;have:=HL.out;rw[e] at this;simp at this;omega)
    have L:k<l.length:=by rw[HL.out];exact ao
    have ha:=(Q k L).below G.out (Q k L).lt
    have HP:Hid (∀j,j+1=k -> MAt wr b o j (l.getD j none1)):=fun j hj=>(Q j (by omega)).below G.out (Q j (by omega)).lt
    obtain⟨x,hx⟩:=zx (l.getD k none1)
    have M:x.1.size <=maxLen:=by rw[hx];exact HS.out _ (aA7 L)
    rw[<- hx] at ha
    have t:=aED L hx
    obtain⟨f,g,r⟩:=x
    obtain⟨N,R,S⟩:=ha
    simp only at N R S M
    clear Q hx
    have C:=cF f g r (wr.alloc (.cells #[.string f,zI g,zI r] 82)) M
    by_cases I:markE (f,(g,r))=0
    ·rw[I,aD] at C
     rw[if_neg (by simpa using I)] at t
     clear I M
     by_cases T:k=0
     ·subst T
      have U:Hid (goesM (prvM l (0+1)) (l.drop (0+1))=goesM none l):=by
       unfold Hid;rw[<- HG.out,t];rfl
      clear t HP
      simp only[Nat.zero_mul,vL] at N R S
      go_wp2_with fail
      refine C.mono ?_
      rintro e w2 ⟨rfl,a⟩
      have v:=z9 (bE G.out a)
      clear a C N R S
      go_wp2_with fail
      go_quiet (fail)
      go_wp2_with fail
      go_roundw
      case rel=>exact⟨0+1,by omega,by go_num,U,aC v.out _⟩
      case measure=>simp[intOf];omega
     ·obtain⟨m,hm⟩:∃m,m+1=k:=⟨k-1,by omega⟩
      have af:=HP.out m hm
      have ag:Hid (prvM l k=some (l.getD m none1)):=by unfold Hid prvM;rw[if_neg T,show k-1=m by omega]
      rw[HG.out,ag.out] at t
      obtain⟨y,hy⟩:=zx (l.getD m none1)
      rw[<- hy] at t af
      obtain⟨z,A,B⟩:=y
      obtain⟨V,X,Y⟩:=af
      simp only at V X Y t
      have F:Hid (mcmp (z,(A,B)) (f,(g,r))<0↔mlt (z,(A,B)) (f,(g,r))=true):=aDo
      obtain⟨q,O⟩:=zx (mcmp (z,(A,B)) (f,(g,r)))
      have C2:=fun W=>eY z A B f g r W
      rw[<- O] at C2 F
      have ay:(0:Int)<k:=by omega
      have az:0<k:=by omega
      have a7:IntKind.i64.wrap ((k:Int)-1)=(m:Int):=by rw[show(k:Int)-1=(m:Int) by omega];exact bG (by omega) (by omega)
      have a8:(m:Int)<n:=by omega
      have E:Hid (b<wr.heap.size):=qJ _ ⟨b,o+k*3,none⟩ N
      clear O hy ag HP T
      by_cases a9:0 <=q
      ·have HQ:Hid (errV (marksE l)=.iface 59 (zI 7)):=by
        have h9:mlt (z,(A,B)) (f,(g,r))=false:=by
         cases h8:mlt (z,(A,B)) (f,(g,r))
         ·rfl
         ·exact absurd (F.out.2 h8) (by omega)
        unfold Hid;rw[P.out,t,show okM (some (z,(A,B))) (f,(g,r))=false from h9,if_pos rfl];rfl
       clear F t
       go_wp2_with fail
       refine C.mono ?_
       rintro e w2 ⟨rfl,a⟩
       have v:=z9 (bE G.out a)
       obtain⟨d0,d1,d2⟩:=bC (x:=(f,(g,r))) a
       simp only at d0 d1 d2
       have J:Hid (zB wr w2):=bE (qD _ _) a
       have f1:=(J.out.cell (p:=⟨b,o+m*3,none⟩) E.out).trans V
       have f2:=(J.out.cell (p:=⟨b,o+m*3+1,none⟩) E.out).trans X
       have f3:=(J.out.cell (p:=⟨b,o+m*3+2,none⟩) E.out).trans Y
       clear a C N R S V X Y
       go_wp2_with fail
       go_region_held3 (fun W=>W.cell? ⟨b,o+m*3,none⟩=some (.string z) /\ W.cell? ⟨b,o+m*3+1,none⟩=some (zI A) /\ W.cell? ⟨b,o+m*3+2,none⟩=some (zI B) /\ W.cell? (zW wr)=some (.string f) /\ W.cell? ⟨wr.heap.size,1,none⟩=some (zI g) /\ W.cell? ⟨wr.heap.size,2,none⟩=some (zI r)) (first | (go_keep;done) | (refine⟨aA d ?_,aA d ?_,aA d ?_,aA d ?_,aA d ?_,aA d ?_⟩<;>(go_split_ands;assumption))) (first
        | (go_at_call 177;refine(C2 _).mono ?_;rintro e w7 ⟨rfl,d⟩;have Z:=z9 (bel v.out.drew d)))
       all_goals
        go_wp2_with fail
        go_ret
        exact⟨by rw[HQ.out];rfl,Z.out⟩
      ·have U:Hid (goesM (prvM l (k+1)) (l.drop (k+1))=goesM none l):=by
        have h9:mlt (z,(A,B)) (f,(g,r))=true:=F.out.1 (by omega)
        unfold Hid;rw[t,show okM (some (z,(A,B))) (f,(g,r))=true from h9,if_neg (by decide)]
       clear F t
       go_wp2_with fail
       refine C.mono ?_
       rintro e w2 ⟨rfl,a⟩
       have v:=z9 (bE G.out a)
       obtain⟨d0,d1,d2⟩:=bC (x:=(f,(g,r))) a
       simp only at d0 d1 d2
       have J:Hid (zB wr w2):=bE (qD _ _) a
       have f1:=(J.out.cell (p:=⟨b,o+m*3,none⟩) E.out).trans V
       have f2:=(J.out.cell (p:=⟨b,o+m*3+1,none⟩) E.out).trans X
       have f3:=(J.out.cell (p:=⟨b,o+m*3+2,none⟩) E.out).trans Y
       clear a C N R S V X Y
       go_wp2_with fail
       go_region_held3 (fun W=>W.cell? ⟨b,o+m*3,none⟩=some (.string z) /\ W.cell? ⟨b,o+m*3+1,none⟩=some (zI A) /\ W.cell? ⟨b,o+m*3+2,none⟩=some (zI B) /\ W.cell? (zW wr)=some (.string f) /\ W.cell? ⟨wr.heap.size,1,none⟩=some (zI g) /\ W.cell? ⟨wr.heap.size,2,none⟩=some (zI r)) (first | (go_keep;done) | (refine⟨aA d ?_,aA d ?_,aA d ?_,aA d ?_,aA d ?_,aA d ?_⟩<;>(go_split_ands;assumption))) (first
        | (go_at_call 177;refine(C2 _).mono ?_;rintro e w7 ⟨rfl,d⟩;have Z:=z9 (bel v.out.drew d)))
       all_goals
        go_wp2_with fail
        go_roundw
        case rel=>exact⟨k+1,by omega,by go_num,U,Z⟩
        case measure=>simp[intOf];omega
    ·obtain⟨q,O⟩:=zx (markE (f,(g,r)))
     have HQ:Hid (errV (marksE l)=.iface 59 (zI q)):=by
      unfold Hid;rw[P.out, <- HG.out,t,if_pos I,O,aH I]
     rw[aH I, <- O] at C
     clear t I M O HP
     go_wp2_with fail
     refine C.mono ?_
     rintro e w2 ⟨rfl,a⟩
     have v:=z9 (bE G.out a)
     clear a C
     go_wp2_with fail
     go_ret
     exact⟨by rw[HQ.out];rfl,v.out⟩
   ·obtain rfl:k=n:=by omega
    have HZ:Hid (goesM none l=0):=by
     unfold Hid;rw[<- HG.out,xM (by rw[HL.out];exact qC _)];rfl
    go_wp2_with fail
    go_ret
    exact⟨by rw[P.out,HZ.out];rfl,G.out⟩
end Nd
namespace Nse
open Na Nb Nc Nd
open La (bel aC aD aH)
theorem cY(v:Value)(l:List Mk)(w:World)(h:MksAt w v l)(hs:∀x ∈ l,x.1.size<=maxLen):
  Calls prog 157 #[v] w fun e w'=>e=.returned (errV (marksE l))/\zB w w':=by
 obtain⟨p,c,rfl,a,d,b,_⟩:=h;exact aBN p l.length c l w rfl a hs (qO d b)
theorem lB(v:Value)(l:List Mk)(s:ByteArray)(w:World)(h:MksAt w v l)(hs:∀x ∈ l,x.1.size<=maxLen)(hp:s.size<=maxLen):
  Calls prog 131 #[v,.string s] w fun e w'=>e=.returned (errV (seenE l s))/\zB w w':=by
 have C:=cY v l w h hs;have f:=fun w=>cQ s w hp
 clear h hs hp;by_cases b:marksE l=0
 ·rw[b,aD] at C;have c:Hid (seenE l s=Pm.chk s.toList):=by unfold Hid seenE;rw[if_neg (by simpa using b)]
  rw[c.out];clear b c;go_in;go_wp2_with fail;refine C.mono ?_;rintro e w2 ⟨rfl,a⟩;have d:=z9 a;clear a C;go_wp2_with fail;refine(f _).mono ?_;rintro e w3 ⟨rfl,j⟩;have k:=j.symm;subst k;clear j f;go_wp2_with fail;go_ret;exact⟨rfl,d.out⟩
 ·obtain⟨q,g⟩:=zx (marksE l);have c:Hid (errV (seenE l s)=.iface 59 (zI q)):=by unfold Hid seenE;rw[if_pos b,g,aH b]
  rw[aH b,<-g] at C;rw[c.out];clear b g f c;go_in;go_wp2_with fail;refine C.mono ?_;rintro e w2 ⟨rfl,a⟩;have d:=z9 a;clear a C;go_wp2_with fail;go_ret;exact⟨rfl,d.out⟩
theorem pos_eq{l:List Mk}{m:Mk}{i:Nat}(hr:Rise mlt l)(hi:i<=l.length)(h1:∀k,k<i->mlt (l.getD k none1) m=true)(h2:∀k,i<=k->k<l.length->mlt (l.getD k none1) m=false):pos mlt l m=i:=by
 induction l generalizing i with
 | nil=>simp at hi;subst hi;rfl
 | cons y l ih=>
  cases i with
  | zero=>
   have e:=h2 0 (qC _) (by simp)
   have a:mlt y m=false:=e
   simp[pos,a]
  | succ i=>
   have a:mlt y m=true:=h1 0 (by omega)
   have:=ih (i:=i) (jL.1 hr).2 (by simpa using hi) (fun k hk=>h1 (k+1) (by omega)) (fun k hk hk2=>h2 (k+1) (by omega) (by simpa using hk2))
   unfold pos at this |-
   rw[List.takeWhile_cons,if_pos a,qV,this]
theorem oL{l:List Mk}(hr:Rise mlt l){i j:Nat}(hij:i<j)(hj:j<l.length):mlt (l.getD i none1) (l.getD j none1)=true:=by
 have h:=List.pairwise_iff_getElem.1 hr i j (by omega) hj hij;rw[qA,qA,qB (by omega),qB hj];exact h
theorem pB{l:List Mk}{m:Mk}(hr:Rise mlt l):there l m=(decide (pos mlt l m<l.length)&&decide (l.getD (pos mlt l m) none1=m)):=by
 rw[xP,dZ,qX,decide_eq_true_eq,decide_eq_true_eq]
 obtain⟨d,f⟩:=cut dB m hr
 constructor
 ·intro hm
  have g:m ∈ l.drop (pos mlt l m):=by
   have:m ∈ l.take (pos mlt l m)++l.drop (pos mlt l m):=by rw[xD];exact hm
   rcases jB.1 this with h | h
   ·have:=d m h;rw[dB.1] at this;cases this
   ·exact h
  obtain⟨j,k,e⟩:=yA.1 g
  rw[List.getElem_drop] at e
  rw[xH] at k
  have a:pos mlt l m<l.length:=by omega
  refine⟨a, ?_⟩
  cases j with
  | zero=>rw[qA,qB a];simpa using e
  | succ j=>
   exfalso
   have b:=oL hr (i:=pos mlt l m) (j:=pos mlt l m+(j+1)) (by omega) (by omega)
   have o:l.getD (pos mlt l m+(j+1)) none1=m:=by rw[qA,qB (by omega)];simpa using e
   rw[o] at b
   have c:=f (l.getD (pos mlt l m) none1) (by
    rw[qA,qB a]
    rw[xB a];exact xA ..)
   rw[b] at c;cases c
 ·rintro⟨b,c⟩
  rw[<-c];exact aA7 b
theorem dS(q:Option Addr)(n c:Nat)(l:List Mk)(sp:ByteArray)(p1 p2:Int)(w:World)(hl:l.length=n)(h:MarksIn w q l)(hr:Rise mlt l)(hn:n<=1048576):
  Calls prog 192 #[.slice q n c,.agg #[.string sp,.int .i64 p1,.int .i64 p2],.func (.func 177) #[] #[]] w fun e w'=>e=.returned (.tuple #[.int .i64 (pos mlt l (sp,(p1,p2))),.bool (there l (sp,(p1,p2)))])/\zB w w':=by
 have v:=z9 hl
 have HI:=z9 h
 have O:=z9 hr
 have aj:Hid (∀wr,Below (w.alloc (.cells #[.string sp,zI p1,zI p2] 82)).heap.size (w.alloc (.cells #[.string sp,zI p1,zI p2] 82)) wr->wr.cell? (zW w)=some (.string sp)/\wr.cell? ⟨w.heap.size,1,none⟩=some (zI p1)/\wr.cell? ⟨w.heap.size,2,none⟩=some (zI p2)):=fun wr hb=>bC (x:=(sp,(p1,p2))) hb
 have ak:Hid (zB w (w.alloc (.cells #[.string sp,zI p1,zI p2] 82))):=(qD _ w).alloc (qC _) _
 obtain⟨p,V⟩:∃p:Mk,p=(sp,(p1,p2)):=⟨_,rfl⟩
 rw[<-V]
 have R:=z9 V
 clear hl h hr V
 go_in
 go_wp2
 go_loopw [9,10,11] (fun vi vj _ wr=>∃(i j:Nat),i<=j/\j<=n/\vi=zI i/\vj=zI j/\Hid (∀k,k<i->mlt (l.getD k none1) p=true)/\Hid (∀k,j<=k->k<n->mlt (l.getD k none1) p=false)/\Hid (zB w wr)/\Hid (wr.cell? (zW w)=some (.string sp)/\wr.cell? ⟨w.heap.size,1,none⟩=some (zI p1)/\wr.cell? ⟨w.heap.size,2,none⟩=some (zI p2))) (fun vi vj _ _=>(intOf vj).toNat-(intOf vi).toNat)
 case atStart=>exact⟨0,n,by omega,by omega,rfl,rfl,fun k hk=>absurd hk (by omega),fun k h1 h2=>absurd h1 (by omega),ak,aj.out _ (qD _ _)⟩
 case round=>
  obtain⟨i,j,aq,al,rfl,rfl,H1,H2,G,S⟩:=hrel
  by_cases ar:i<j
  ·have ap:(i:Int)<j:=by omega
   obtain⟨m,hm⟩:∃m:Nat,((i:Int)+j)/2=m:=⟨(i+j)/2,by omega⟩
   have au:i<=m:=by omega
   have av:m<j:=by omega
   obtain⟨b,o,rfl,D⟩:=HI.out.some (by intro e;have:=v.out;rw[e] at this;simp at this;omega)
   have I:m<l.length:=by rw[v.out];omega
   have J:=(D m I).below G.out (D m I).lt
   obtain⟨x,E⟩:=zx (l.getD m none1)
   rw[<-E] at J
   have P:=z9 E
   obtain⟨d,f,g⟩:=x
   obtain⟨X,Y,Z⟩:=J
   have aw:(m:Int)<n:=by omega
   clear D E
   simp only at X Y Z
   have C:=fun W=>eY d f g sp p1 p2 W
   have K:Hid (mcmp (d,(f,g)) (sp,(p1,p2))<0↔mlt (d,(f,g)) p=true):=by rw[R.out];exact aDo
   obtain⟨z,y⟩:=zx (mcmp (d,(f,g)) (sp,(p1,p2)))
   rw[<-y] at C K
   clear y
   obtain⟨d0,d1,d2⟩:=S.out
   by_cases hz:z<0
   ·have H3:Hid (∀k,k<m+1->mlt (l.getD k none1) p=true):=by
     have A:=K.out.1 hz
     rw[P.out] at A
     intro k hk
     rcases jS.1 hk with h | rfl
     ·exact dB.2.1 _ _ _ (oL O.out h I) A
     ·exact A
    go_wp2_with fail
    go_region_held3 (fun W=>W.cell? ⟨b,o+m*3,none⟩=some (.string d)/\W.cell? ⟨b,o+m*3+1,none⟩=some (zI f)/\W.cell? ⟨b,o+m*3+2,none⟩=some (zI g)/\W.cell? (zW w)=some (.string sp)/\W.cell? ⟨w.heap.size,1,none⟩=some (zI p1)/\W.cell? ⟨w.heap.size,2,none⟩=some (zI p2)) (first | (go_keep;done) | (refine⟨aA a ?_,aA a ?_,aA a ?_,aA a ?_,aA a ?_,aA a ?_⟩<;>(go_split_ands;assumption))) (first
     | (go_at_call 177;refine(C _).mono ?_;rintro e w7 ⟨rfl,a⟩;have B:=z9 (bel G.out.drew a);have r:Hid (zB wr w7):=bel (qD _ wr).drew a))
    all_goals
     go_wp2_with fail
     go_roundw
     case rel=>exact⟨m+1,j,by omega,by omega,by go_num,rfl,H3,H2,B,⟨aA r.out d0,aA r.out d1,aA r.out d2⟩⟩
     case measure=>simp[intOf];omega
   ·have H3:Hid (∀k,m<=k->k<n->mlt (l.getD k none1) p=false):=by
     have A:mlt (d,(f,g)) p=false:=by
      cases h8:mlt (d,(f,g)) p
      ·rfl
      ·exact absurd (K.out.2 h8) hz
     rw[P.out] at A
     intro k hk hk2
     rcases xW hk with h | rfl
     ·cases h8:mlt (l.getD k none1) p
      ·rfl
      ·rw[dB.2.1 _ _ _ (oL O.out h (by rw[v.out];exact hk2)) h8] at A;cases A
     ·exact A
    go_wp2_with fail
    go_region_held3 (fun W=>W.cell? ⟨b,o+m*3,none⟩=some (.string d)/\W.cell? ⟨b,o+m*3+1,none⟩=some (zI f)/\W.cell? ⟨b,o+m*3+2,none⟩=some (zI g)/\W.cell? (zW w)=some (.string sp)/\W.cell? ⟨w.heap.size,1,none⟩=some (zI p1)/\W.cell? ⟨w.heap.size,2,none⟩=some (zI p2)) (first | (go_keep;done) | (refine⟨aA a ?_,aA a ?_,aA a ?_,aA a ?_,aA a ?_,aA a ?_⟩<;>(go_split_ands;assumption))) (first
     | (go_at_call 177;refine(C _).mono ?_;rintro e w7 ⟨rfl,a⟩;have B:=z9 (bel G.out.drew a);have r:Hid (zB wr w7):=bel (qD _ wr).drew a))
    all_goals
     go_wp2_with fail
     go_roundw
     case rel=>exact⟨i,m,by omega,by omega,rfl,by go_num,H1,H3,B,⟨aA r.out d0,aA r.out d1,aA r.out d2⟩⟩
     case measure=>simp[intOf];omega
  ·obtain rfl:i=j:=by omega
   have HA:=z9 (pos_eq O.out (by rw[v.out];exact al) H1.out (fun k h1 h2=>H2.out k h1 (by rw[<-v.out];exact h2)))
   have L:Hid (there l p=(decide (i<n)&&decide (l.getD i none1=p))):=by
    unfold Hid;rw[pB O.out,HA.out,v.out]
   by_cases T:i<n
   ·have af:(i:Int)<n:=by omega
    obtain⟨b,o,rfl,D⟩:=HI.out.some (by intro e;have:=v.out;rw[e] at this;simp at this;omega)
    have U:i<l.length:=by rw[v.out];omega
    have J:=(D i U).below G.out (D i U).lt
    obtain⟨x,E⟩:=zx (l.getD i none1)
    rw[<-E] at J
    have P:=z9 E
    obtain⟨d,f,g⟩:=x
    obtain⟨X,Y,Z⟩:=J
    clear D E
    simp only at X Y Z
    have C:=fun W=>eY d f g sp p1 p2 W
    have Q:Hid (there l p=(mcmp (d,(f,g)) (sp,(p1,p2))==0)):=by
     unfold Hid
     rw[L.out,decide_eq_true T,yY,<-P.out,xP,decide_eq_true_eq,beq_iff_eq,aIf,R.out]
    obtain⟨z,y⟩:=zx (mcmp (d,(f,g)) (sp,(p1,p2)))
    rw[<-y] at C Q
    clear y L
    obtain⟨d0,d1,d2⟩:=S.out
    go_wp2_with fail
    go_region_held3 (fun W=>W.cell? ⟨b,o+i*3,none⟩=some (.string d)/\W.cell? ⟨b,o+i*3+1,none⟩=some (zI f)/\W.cell? ⟨b,o+i*3+2,none⟩=some (zI g)/\W.cell? (zW w)=some (.string sp)/\W.cell? ⟨w.heap.size,1,none⟩=some (zI p1)/\W.cell? ⟨w.heap.size,2,none⟩=some (zI p2)) (first | (go_keep;done) | (refine⟨aA a ?_,aA a ?_,aA a ?_,aA a ?_,aA a ?_,aA a ?_⟩<;>(go_split_ands;assumption))) (first
     | (go_at_call 177;refine(C _).mono ?_;rintro e w7 ⟨rfl,a⟩;have B:=z9 (bel G.out.drew a);have r:Hid (zB wr w7):=bel (qD _ wr).drew a))
    all_goals
     go_wp2_with fail
     go_ret2
     exact⟨by rw[HA.out,Q.out];rfl,B.out⟩
   ·have af:¬(i:Int)<n:=by omega
    have ag:decide (i<n)=false:=by simpa using T
    have Q:Hid (there l p=false):=by
     unfold Hid;rw[L.out,ag];rfl
    go_wp2_with fail
    go_quiet (fail)
    go_wp2_with fail
    go_ret2
    exact⟨by rw[HA.out,Q.out];rfl,aC G.out _⟩
end Nse
end Go.Proofs.YtjcemlmlfoilmaaGreatDoor
