import Derived.Test.YtjcemlmlfoilmaaGreatDoorJ1
import Derived.Test.YtjcemlmlfoilmaaGreatDoorRows
import Derived.WalkKit
import Derived.WalkLawsBesides
import Derived.WalkSpells
import Derived.ProofKit
import Derived.OpenShut
import Derived.OwnWalk
import Derived.Laws.OwnMore
import Derived.Maps.AppendAt
import Derived.Deep.QuietTactic
import Derived.BigQuiet
import Derived.Lib.Bytealg
import Derived.Laws.Externs
import Derived.Laws.IdiomStrings
import Derived.Laws.BytesArg
set_option linter.unusedVariables false
set_option maxRecDepth 100000
set_option maxHeartbeats 8000000
namespace Go.Proofs.YtjcemlmlfoilmaaGreatDoor
open Go.RowKit Bm
open Go.Proofs.Tryz (prog)
namespace Ka
theorem aW{a b:Bool}(h:a=b):Ending.returned (.bool a)=.returned (.bool b):=by rw[h]
theorem aV{k:IntKind}{a b:Int}(h:a=b):Ending.returned (.int k a)=.returned (.int k b):=by rw[h]
def errV (n:Int):Value:=if n=0 then .nilIface else .iface 59 (.int .i64 n)
theorem bW(n:Int)(w:World):
  Calls prog 129 #[.int .i64 n] w fun e w'=>e=.returned (.bool (Pm.isWho n))/\w'=w:=by
 go_in;go_wp2
 all_goals
  go_ret;exact⟨aW (by first | (simp[Pm.isWho, *];done) | (simp only[Pm.isWho];rw[decide_eq_false (by omega)];rfl)),rfl⟩
variable (s:ByteArray)(w:World)
theorem iG(h:0<s.size):s.toList.getLast?.getD 0=s[s.size-1]'(by omega):=by
 rw[ByteArray.toList_eq,yS];have:s.data.toList.length=s.size:=rfl;rw[this,qB (by rw[this];omega)];rfl
theorem eI(h:0<s.size)(hs:s.size<=maxLen):
  Calls prog 165 #[.string s] w fun e w'=>e=.returned (.int .i64 (Pm.whoOf s.toList))/\w'=w:=by
 have a:=iG s h;have b:(s[s.size-1]'(by omega)).toNat<256:=jX _
 have H:Hid (Pm.whoOf s.toList=((s[s.size-1]'(by omega)).toNat:Int)-97):=by
  unfold Pm.whoOf Hid;rw[a]
 clear a;unfold maxLen at hs;go_in;go_wp2;go_ret;refine⟨aV ?_,rfl⟩;rw[H.out]
theorem fP(k:Nat)(h:k<s.size):s.toList.take (k+1)=s.toList.take k++[s[k]]:=by
 rw[ByteArray.toList_eq,yB (by simpa using h)];rfl
theorem fM(c:UInt8):Pm.isLet c=(!(decide ((c.toNat:Int)<97)||decide (122<(c.toNat:Int)))):=by
 rw[xP];simp[Pm.isLet];omega
theorem bP(hs:s.size<=maxLen):
  Calls prog 164 #[.string s] w fun e w'=>e=.returned (.bool (s.toList.all Pm.isLet))/\w'=w:=by
 unfold maxLen at hs;go_in;go_wp2;go_loop [6] (fun i=>∃k:Nat,k<=s.size/\i=zI k/\(s.toList.take k).all Pm.isLet=true) (fun i=>s.size-(intOf i).toNat)
 case atStart=>exact⟨0,jW _,rfl,by simp⟩
 case round=>
  obtain⟨k,n,rfl,a⟩:=hrel;by_cases g:k<s.size
  ·have h:=fP s k g;have o:s[k].toNat<256:=jX _
   have j:Hid (∀c,s.toList.all c=((s.toList.take (k+1)).all c&&(s.toList.drop (k+1)).all c)):=by
    intro c;rw[<-yM,xD]
   have d:Hid ((s.toList.take (k+1)).all Pm.isLet=Pm.isLet s[k]):=by
    unfold Hid;rw[h,yM,a];simp
   have f:Hid (Pm.isLet s[k]=(!(decide ((s[k].toNat:Int)<97)||decide (122<(s[k].toNat:Int))))):=fM _;clear h a;by_cases l:(s[k].toNat:Int)<97
   ·go_wp2;go_ret;exact⟨aW (by rw[j.out,d.out,f.out,decide_eq_true l];rfl),rfl⟩
   ·by_cases m:122<(s[k].toNat:Int)
    ·go_wp2;go_ret;exact⟨aW (by rw[j.out,d.out,f.out,decide_eq_true m,Bool.or_true];rfl),rfl⟩
    ·go_wp2;go_round
     case rel=>exact⟨k+1,by omega,by go_num,by rw[d.out,f.out,decide_eq_false l,decide_eq_false m];rfl⟩
     case measure=>simp[intOf];omega
  ·have d:Hid (s.toList.all Pm.isLet=true):=by
    unfold Hid;rw[qW (by rw[ByteArray.toList_eq];show s.size<=k;omega)] at a;exact a
   clear a;go_wp2;go_ret;exact⟨aW d.out.symm,rfl⟩
end Ka
namespace Kb
open Ka
theorem aJ(s:ByteArray):s.toList.length=s.size:=by rw[ByteArray.toList_eq];rfl
theorem cJ{a b:Int}(h:a=b)(hb:b≠0):Ending.returned (.iface 59 (.int .i64 a))=.returned (errV b):=by
 rw[errV,if_neg hb,h]
theorem iU{b:Int}(hb:b=0):Ending.returned .nilIface=.returned (errV b):=by
 rw[errV,if_pos hb]
theorem hU(s:ByteArray)(h:2<=s.size):(s.toList.dropLast.getLast? ==some 97)=(((s[s.size-2]'(by omega)).toNat:Int)==97):=by
 have b:s.toList.dropLast.getLast? =some (s[s.size-2]'(by omega)):=by
  rw[ByteArray.toList_eq,yS,List.length_dropLast];have a:s.data.toList.length=s.size:=rfl;rw[List.getElem?_dropLast,if_pos (by rw[a];omega),qB (by rw[a];omega)];have:s.data.toList.length-1-1=s.size-2:=by rw[a];omega
  simp only[this];rfl
 rw[b];generalize s[s.size-2]'(by omega)=c;rw[xP];simp only[beq_iff_eq,Option.some.injEq,<-yU];constructor
 ·intro h6;have:c.toNat=97:=h6;omega
 ·intro h6;show c.toNat=97;omega
theorem cQ(s:ByteArray)(w:World)(hs:s.size≤maxLen):
  Calls prog 139 #[.string s] w fun e w'=>e=.returned (errV (Pm.chk s.toList))∧w'=w:=by
 have hm:=hs
 unfold maxLen at hm
 have hl:=aJ s
 by_cases h1:12<s.size
 ·have H:Hid (Pm.chk s.toList=4):=by unfold Hid Pm.chk;rw[hl,if_pos h1]
  clear hl
  go_in
  go_wp2
  go_ret
  exact⟨cJ H.out.symm (by rw[H.out];decide),rfl⟩
 by_cases h2:s.size<2
 ·have H:Hid (Pm.chk s.toList=2):=by unfold Hid Pm.chk;rw[hl,if_neg h1,if_pos h2]
  clear hl
  go_in
  go_wp2
  go_ret
  exact⟨cJ H.out.symm (by rw[H.out];decide),rfl⟩
 cases h3:s.toList.all Pm.isLet
 ·have H:Hid (Pm.chk s.toList=2):=by unfold Hid Pm.chk;rw[hl,if_neg h1,if_neg h2,h3];rfl
  have H3:=z9 h3
  clear hl
  go_in
  go_wp2_with (go_at_call 164;refine(bP _ _ hs).mono ?_;rintro e w' ⟨rfl,rfl⟩;rw[H3.out])
  go_ret
  exact⟨cJ H.out.symm (by rw[H.out];decide),rfl⟩
 have H3:=z9 h3
 have hc:=hU s (by omega)
 have hq:s.size-2<s.size:=by clear hl hc;omega
 cases h4:(((s[s.size-2]'hq).toNat:Int)==97)
 ·rw[h4] at hc
  cases h5:Pm.isWho (Pm.whoOf s.toList)
  ·have H:Hid (Pm.chk s.toList=2):=by unfold Hid Pm.chk;rw[hl,if_neg h1,if_neg h2,h3,hc,h5];rfl
   have H5:=z9 h5
   clear hl hc h3 h5
   go_in
   go_wp2_with (first | (go_at_call 164;refine(bP _ _ hs).mono ?_;rintro e w' ⟨rfl,rfl⟩;rw[H3.out]) | (go_at_call 165;refine(eI _ _ (by omega) hs).mono ?_;rintro e w' ⟨rfl,rfl⟩) | (go_at_call 129;refine(bW _ _).mono ?_;rintro e w' ⟨rfl,rfl⟩;rw[H5.out]))
   go_ret
   exact⟨cJ H.out.symm (by rw[H.out];decide),rfl⟩
  ·have H:Hid (Pm.chk s.toList=0):=by unfold Hid Pm.chk;rw[hl,if_neg h1,if_neg h2,h3,hc,h5];rfl
   have H5:=z9 h5
   clear hl hc h3 h5
   go_in
   go_wp2_with (first | (go_at_call 164;refine(bP _ _ hs).mono ?_;rintro e w' ⟨rfl,rfl⟩;rw[H3.out]) | (go_at_call 165;refine(eI _ _ (by omega) hs).mono ?_;rintro e w' ⟨rfl,rfl⟩) | (go_at_call 129;refine(bW _ _).mono ?_;rintro e w' ⟨rfl,rfl⟩;rw[H5.out]))
   go_ret
   exact⟨iU H.out,rfl⟩
 ·rw[h4] at hc
  have H:Hid (Pm.chk s.toList=2):=by unfold Hid Pm.chk;rw[hl,if_neg h1,if_neg h2,h3,hc];rfl
  clear hl hc h3
  go_in
  go_wp2_with (first | (go_at_call 164;refine(bP _ _ hs).mono ?_;rintro e w' ⟨rfl,rfl⟩;rw[H3.out]))
  go_ret
  exact⟨cJ H.out.symm (by rw[H.out];decide),rfl⟩
end Kb
namespace La
open Ka
theorem aD:errV 0=.nilIface:=rfl
theorem aH{n:Int}(h:n≠0):errV n=.iface 59 (.int .i64 n):=by unfold errV;rw[if_neg h]
variable {w w1 w2:World}{B b o j base n z:Nat}{x:Leaf}{l:List Leaf}{t:TypeId}{v:Value}{xs:List Value}
theorem bel(h1:zB w w1)(h2:zB w1 w2):zB w w2:=
 h1.trans (h2.mono h1.size)
theorem aC{a:World}(h:Below B a w)(q:Nat):Below B a (w.drewN q):=⟨h.os,h.tape,h.output,h.size,h.block⟩
def rK (x:Leaf):Value:=.agg #[.string x.1,.int .i64 x.2.1,.bool x.2.2]
def fR (x:Leaf):List Value:=[.string x.1,.int .i64 x.2.1,.bool x.2.2]
def flat (l:List Leaf):List Value:=l.flatMap fR
theorem fE(a b:List Leaf):flat (a++b)=flat a++flat b:=by unfold flat;rw[vA]
theorem aX:∀l:List Leaf,(flat l).length=l.length*3
 | []=>rfl
 | x::l=>by
  have:=aX l
  unfold flat at this |-
  rw[vR,qE,this]
  simp[fR];omega
theorem iP:∀{l:List Leaf} {j:Nat} (hj:j<l.length),(flat l)[j*3]? =some (.string (l.getD j none0).1)/\(flat l)[j*3+1]? =some (.int .i64 (l.getD j none0).2.1)/\(flat l)[j*3+2]? =some (.bool (l.getD j none0).2.2)
 | [],j,hj=>absurd hj (by simp)
 | x::l,0,_=>⟨rfl,rfl,rfl⟩
 | x::l,j+1,hj=>by
  have h:=iP (l:=l) (j:=j) (by simpa using hj)
  have e:∀i,(flat (x::l))[i+3]? =(flat l)[i]? :=fun i=>by
   unfold flat
   rw[vR,jG (by simp[fR])]
   simp[fR]
  rw[show(j+1)*3=j*3+3 by omega,show j*3+3+1=j*3+1+3 by omega,show j*3+3+2=j*3+2+3 by omega,e,e,e]
  exact h
def At (w:World) (b o j:Nat) (x:Leaf):Prop:=w.cell? ⟨b,o+j*3,none⟩=some (.string x.1)∧w.cell? ⟨b,o+j*3+1,none⟩=some (.int .i64 x.2.1)∧w.cell? ⟨b,o+j*3+2,none⟩=some (.bool x.2.2)
def LeafsIn (w:World) (p:Option Addr) (l:List Leaf):Prop:=
 l=[]∨∃b o,p=some ⟨b,o,none⟩∧∀j,j<l.length→At w b o j (l.getD j none0)
theorem At.below{w':World}(h:At w b o j x)(hb:Below B w w')(hB:b<B):At w' b o j x:=
 ⟨(hb.cell (p:=⟨b,o+j*3,none⟩) hB).trans h.1,(hb.cell (p:=⟨b,o+j*3+1,none⟩) hB).trans h.2.1,(hb.cell (p:=⟨b,o+j*3+2,none⟩) hB).trans h.2.2⟩
theorem At.lt(h:At w b o j x):b<w.heap.size:=qJ _ ⟨b,o+j*3,none⟩ h.1
theorem LeafsIn.below{w w':World}{p:Option Addr}{l:List Leaf}(h:LeafsIn w p l)(hb:zB w w'):LeafsIn w' p l:=by
 rcases h with h | ⟨b,o,hp,hc⟩
 ·exact qH h
 ·exact qF ⟨b,o,hp,fun j hj=>(hc j hj).below hb (hc j hj).lt⟩
theorem LeafsIn.some{w:World}{p:Option Addr}{l:List Leaf}(h:LeafsIn w p l)(hl:l≠[]):∃b o,p=some ⟨b,o,none⟩∧∀j,j<l.length→At w b o j (l.getD j none0):=by
 rcases h with h | h
 ·exact absurd h hl
 ·exact h
theorem gM(h:∀j,j<l.length->At w b o j (l.getD j none0)):∀j u,(flat l)[j]? =some u->w.cell? ⟨b,o+j,none⟩=some u:=by
 intro j u hu;have i:j<l.length*3:=by rw[<-aX];exact(jK.1 hu).1
 have f:j/3<l.length:=by omega
 have d:=h (j/3) f;have c:=iP f;have a:j=j/3*3+j%3:=by omega
 have g:j%3=0\/j%3=1\/j%3=2:=by omega
 rcases g with e | e | e
 ·rw[e,vL] at a;rw[<-a] at c;rw[c.1] at hu;injection hu with hu
  rw[<-hu];have:=d.1;rwa [<-a] at this
 ·rw[e] at a;rw[<-a] at c;rw[c.2.1] at hu;injection hu with hu
  rw[<-hu];have:=d.2.1;rwa [show o+j/3*3+1=o+(j/3*3+1) by omega,<-a] at this
 ·rw[e] at a;rw[<-a] at c;rw[c.2.2] at hu;injection hu with hu
  rw[<-hu];have:=d.2.2;rwa [show o+j/3*3+2=o+(j/3*3+2) by omega,<-a] at this
theorem bF(l:List Leaf):∀u ∈ flat l,u.oneCell'=true:=by
 intro u hu;unfold flat at hu;obtain⟨x,_,a⟩:=kN.1 hu;simp only[fR,jD,vO,or_false] at a;rcases a with rfl | rfl | rfl<;>rfl
theorem aBi(h:w.ownsRow base t 3 v n (flat l)):l.length=n/\∃p c,v=.slice p n c/\LeafsIn w p l:=by
 have b:l.length=n:=by have:=h.1;rw[aX] at this;omega
 refine⟨b, ?_⟩;rcases h.2 with⟨rfl,h0⟩ | ⟨g,cap,cur,rfl,_,h2,h3,h4,h5,h6⟩
 ·subst h0;exact⟨none,0,rfl,qH (qK b)⟩
 ·refine⟨some (zA g),cap,rfl,qF ⟨g,0,rfl,fun j hj=> ?_⟩⟩;have d:=iP hj
  have a:∀i u,(flat l)[i]? =some u->w.cell? ⟨g,0+i,none⟩=some u:=by
   intro i u hu;have e:i<n*3:=by rw[<-b,<-aX];exact(jK.1 hu).1
   rw[<-h6,jC e] at hu;rw[qY];simp only[World.cell?,h2];simpa using hu
  refine⟨a _ _ d.1, ?_, ?_⟩
  ·have:=a _ _ d.2.1;rwa [show 0+(j*3+1)=0+j*3+1 by omega] at this
  ·have:=a _ _ d.2.2;rwa [show 0+(j*3+2)=0+j*3+2 by omega] at this
theorem iR(h:w.ownsRow base t z v n xs):∀k,v.ownBlock=some k->base<=k:=fun k hk=>(h.lt k hk).1
theorem aS{wr:World}(h:wr.ownsRow base t z v n xs)(hb:Below base w w1)(hg:w1.grownBy w2 v.ownBlock)(hB:base<=w1.heap.size):Below base w w2:=
 hb.grown hg hB (fun k hk=>iR h k hk)
theorem own_below(h:w.ownsRow base t z v n xs)(hb:zB w w2):w2.ownsRow base t z v n xs:=by
 refine⟨h.1, ?_⟩;rcases h.2 with h0 | ⟨g,cap,cur,h1,h2,h3,h4⟩
 ·exact qH h0
 ·refine qF ⟨g,cap,cur,h1,h2, ?_,h4⟩
  have a:g<w.heap.size:=by
   rcases xR g w.heap.size with e | e
   ·exact e
   ·rw[jQ e] at h3;cases h3
  rw[hb.block g a];exact h3
def Lies (B:Nat) (v:Value):Prop:=∀(a:Addr) (n c:Nat),v=.slice (some a) n c→0<n→B≤a.block
theorem Lies.nil(B:Nat):Lies B (.slice none 0 0):=fun a n c h=>by cases h
theorem Lies.at{g c:Nat}(h:B<=g):Lies B (.slice (some ⟨g,o,none⟩) n c):=fun a m d e _=>by injection e with e1;injection e1 with e1;rw[<-e1];exact h
theorem Lies.mono{C:Nat}(h:Lies B v)(hC:C<=B):Lies C v:=fun a n c e hn=>qO hC (h a n c e hn)
theorem Lies.own(h:w.ownsRow base t z v n xs):Lies base v:=fun a m c e _=>iR h a.block (by rw[e];rfl)
end La
namespace Lb
open Ka Kb La
variable (s:ByteArray)(n:Int)(b:Bool)(w:World)
theorem bV:
  Calls prog 74 #[.int .i64 n] w fun e w'=>e=.returned (.bool (isL n))/\w'=w:=by
 go_in;go_wp2
 all_goals
  go_ret;exact⟨aW (by first | (simp[isL, *];done) | (simp only[isL];rw[decide_eq_false (by omega)];rfl)),rfl⟩
theorem sQ:
  Calls prog 116 #[.agg #[.string s,.int .i64 n,.bool b]] w fun e w'=>e=.returned (.bool (isS (s,n,b)))/\zB w w':=by
 have a:Hid (n=0->isS (s,n,b)=false):=by intro h;unfold isS;rw[h];rfl
 have c:Hid (isS (s,n,b)=(n !=0 && !b)):=rfl
 go_in
 go_wp2
 all_goals
  go_ret
  refine⟨aW ?_,zb w _⟩
  first
   | (rw[a.out (by assumption)];done)
   | (rw[c.out];done)
theorem uL(hs:s.size <=maxLen):
  Calls prog 115 #[.agg #[.string s,.int .i64 n,.bool b]] w fun e w'=>e=.returned (errV (leafE (s,n,b))) /\ zB w w':=by
 have C:=fun w=>cQ s w hs
 by_cases d:Pm.chk s.toList=0
 ·rw[d,aD] at C;by_cases g:n=0
  ·subst g;cases b
   ·have f:Hid (leafE (s,0,false)=3):=by unfold Hid leafE;rw[if_neg (by simpa using d),if_neg (fun h=>h.1 rfl),if_pos ⟨rfl,rfl⟩]
    clear d;go_in;go_wp2_with (go_at_call 139;refine(C _).mono ?_;rintro e w' ⟨rfl,a⟩;have c:=a.symm;subst c;clear a);go_ret;exact⟨by rw[f.out];rfl,(qD _ w).alloc (qC _) _⟩
   ·have f:Hid (leafE (s,0,true)=0):=cG.2 ⟨d,qH rfl,qF rfl⟩;clear d;go_in;go_wp2_with (go_at_call 139;refine(C _).mono ?_;rintro e w' ⟨rfl,a⟩;have c:=a.symm;subst c;clear a);go_ret;exact⟨by rw[f.out];rfl,(qD _ w).alloc (qC _) _⟩
  ·have p:(n !=0)=true:=by simpa using g
   cases hl:isL n
   ·have f:Hid (leafE (s,n,b)=1):=by unfold Hid leafE;rw[if_neg (by simpa using d),if_pos ⟨g,hl⟩]
    have j:=z9 hl;clear d hl;go_in;go_wp2_with (first | (go_at_call 139;refine(C _).mono ?_;rintro e w' ⟨rfl,a⟩;have c:=a.symm;subst c;clear a) | (go_at_call 74;refine(bV n _).mono ?_;rintro e w' ⟨rfl,a⟩;have c:=a.symm;subst c;clear a;rw[j.out]));go_ret;exact⟨by rw[f.out];rfl,(qD _ w).alloc (qC _) _⟩
   ·have f:Hid (leafE (s,n,b)=0):=cG.2 ⟨d,qF hl,qH g⟩;have j:=z9 hl;clear d hl;go_in;go_wp2_with (first | (go_at_call 139;refine(C _).mono ?_;rintro e w' ⟨rfl,a⟩;have c:=a.symm;subst c;clear a) | (go_at_call 74;refine(bV n _).mono ?_;rintro e w' ⟨rfl,a⟩;have c:=a.symm;subst c;clear a;rw[j.out]));go_ret;exact⟨by rw[f.out];rfl,(qD _ w).alloc (qC _) _⟩
 ·have f:Hid (leafE (s,n,b)=Pm.chk s.toList):=by unfold Hid leafE;rw[if_pos d]
  obtain⟨k,l⟩:=zx (Pm.chk s.toList);have m:Hid (errV (Pm.chk s.toList)=.iface 59 (zI k)):=by rw[l];exact aH d
  have o:∀w,Calls prog 139 #[.string s] w fun e w'=>e=.returned (.iface 59 (zI k)) /\ w'=w:=by rw[<- m.out];exact C
  clear d l C;go_in;go_wp2_with (go_at_call 139;refine(o _).mono ?_;rintro e w' ⟨rfl,a⟩;have c:=a.symm;subst c;clear a);go_ret;exact⟨by rw[f.out,m.out];rfl,(qD _ w).alloc (qC _) _⟩
end Lb
namespace Lc
open Ka Kb La Lb
theorem aCf:ByteArray.empty.toList=[]:=ByteArray.toList_mk []
theorem aDa{l:List Leaf}{k:Nat}(hk:k<l.length):l.drop k=l.getD k none0::l.drop (k+1):=by
 rw[xB hk,qA,qB hk];rfl
variable {w w2:World}(p:Option Addr)(n c:Nat)(l:List Leaf)
theorem bC{x:Leaf}{t:TypeId}(hb:Below (w.alloc (.cells #[.string x.1,.int .i64 x.2.1,.bool x.2.2] t)).heap.size (w.alloc (.cells #[.string x.1,.int .i64 x.2.1,.bool x.2.2] t)) w2):
  w2.cell? ⟨w.heap.size,0,none⟩=some (.string x.1)/\w2.cell? ⟨w.heap.size,1,none⟩=some (.int .i64 x.2.1)/\w2.cell? ⟨w.heap.size,2,none⟩=some (.bool x.2.2):=by
 have a:w.heap.size<(w.alloc (.cells #[.string x.1,zI x.2.1,.bool x.2.2] t)).heap.size:=by simp
 have b:(w.alloc (.cells #[.string x.1,zI x.2.1,.bool x.2.2] t)).heap[w.heap.size]? =some (.cells #[.string x.1,zI x.2.1,.bool x.2.2] t):=heap_alloc_new w _;refine⟨(hb.cell (p:=(zW w)) a).trans ?_,(hb.cell (p:=⟨w.heap.size,1,none⟩) a).trans ?_,(hb.cell (p:=⟨w.heap.size,2,none⟩) a).trans ?_⟩<;>(simp only[World.cell?,b];rfl)
theorem bE{wr:World}{o:Obj}(h:zB w wr)(hb:Below (wr.alloc o).heap.size (wr.alloc o) w2):zB w w2:=bel (h.alloc h.size o) hb
theorem tY(w:World)(hl:l.length=n)(h:LeafsIn w p l)(hs:∀x ∈ l,x.1.size<=maxLen)(hn:n<=maxLen):
  Calls prog 85 #[.slice p n c] w fun e w'=>e=.returned (errV (bookE l))/\zB w w':=by
 unfold maxLen at hn;by_cases D:300<n
 ·have E:Hid (bookE l=4):=by unfold Hid bookE;rw[hl,if_pos D]
  have U:(300:Int)<n:=by omega
  clear hl h hs;go_in;go_wp2;go_ret;exact⟨by rw[E.out];rfl,qD _ _⟩
 ·have E:Hid (bookE l=goes [] l):=by unfold Hid bookE;rw[hl,if_neg D]
  have U:¬(300:Int)<n:=by omega
  have I:=z9 hl;have V:=z9 h;have X:=z9 hs;clear hl h hs;go_in;go_wp2;go_loopw [3,5,6,13] (fun a _ _ i wr=>∃(k:Nat) (s:ByteArray),k<=n/\i=zI k/\a=.string s/\Hid (goes s.toList (l.drop k)=goes [] l)/\Hid (zB w wr)) (fun _ _ _ i _=>n-(intOf i).toNat)
  case atStart=>exact⟨0,ByteArray.empty,by omega,rfl,rfl,by unfold Hid;rw[yQ,aCf],qD _ _⟩
  case round=>
   obtain⟨k,s,hk,rfl,rfl,J,F⟩:=hrel;by_cases R:k<n
   ·have Y:(k:Int)<n:=by omega
    obtain⟨b,o,rfl,K⟩:=V.out.some (by intro e;have:=I.out;rw[e] at this;simp at this;omega);have A:k<l.length:=by rw[I.out];exact R
    have S:=(K k A).below F.out (K k A).lt;have j:=X.out _ (cC A);obtain⟨x,m⟩:=zx (l.getD k none0);rw[<-m] at S j;have Z:=z9 m;obtain⟨d,r,t⟩:=x;obtain⟨L,M,N⟩:=S;clear K m;simp only at L M N j
    have G:Hid (goes s.toList (l.drop k)=if leafE (d,r,t)≠0 then leafE (d,r,t) else if Op.bytesLess s.toList d.toList=false then 7 else goes d.toList (l.drop (k+1))):=by
     unfold Hid;rw[aDa A,<-Z.out];rfl
    have C:=uL d r t (wr.alloc (.cells #[.string d,zI r,.bool t] 77)) j;by_cases z:leafE (d,r,t)=0
    ·rw[z,aD] at C
     have g:Hid (goes [] l=if Op.bytesLess s.toList d.toList=false then 7 else goes d.toList (l.drop (k+1))):=by
      unfold Hid;rw[<-J.out,G.out,if_neg (by simpa using z)]
     clear G z j;cases hr:Op.bytesLess s.toList d.toList
     ·rw[hr] at g
      have O:Hid (errV (bookE l)=.iface 59 (zI 7)):=by
       unfold Hid;rw[E.out,g.out,if_pos rfl];rfl
      have HR:Hid (Op.bytesLess d.toList s.toList=true\/d.toList=s.toList):=by
       by_cases e:s.toList=d.toList
       ·exact qF e.symm
       ·exact qH (bT hr e)
      clear g hr;go_wp2_with fail;refine C.mono ?_;rintro e w2 ⟨rfl,f⟩;have v:=z9 (bE F.out f);have P:=(bC (x:=(d,r,t)) f).1;simp only at P;clear f C L M N;go_wp2_with fail
      ·go_ret;exact⟨by rw[O.out];rfl,v.out⟩
      ·rename_i m;exfalso;rcases HR.out with e | e
       ·rw[e] at m;exact absurd m.1 (by decide)
       ·rw[e] at m;simp at m
     ·rw[hr] at g;have ac:Op.bytesLess d.toList s.toList=false:=cL hr
      have ad:(d.toList==s.toList)=false:=by
       rw[beq_eq_false_iff_ne];intro e;rw[e,bD] at hr;cases hr
      have T:Hid (goes d.toList (l.drop (k+1))=goes [] l):=by unfold Hid;rw[g.out,if_neg (by decide)]
      clear g hr;go_wp2_with fail;refine C.mono ?_;rintro e w2 ⟨rfl,f⟩;have v:=z9 (bE F.out f);have P:=(bC (x:=(d,r,t)) f).1;simp only at P;clear f C L M N;go_wp2_with fail;go_roundw
      case rel=>exact⟨k+1,d,by omega,by go_num,rfl,T,v⟩
      case measure=>simp[intOf];omega
    ·obtain⟨q,Q⟩:=zx (leafE (d,r,t))
     have O:Hid (errV (bookE l)=.iface 59 (zI q)):=by
      unfold Hid;rw[E.out,<-J.out,G.out,if_pos z,Q,aH z]
     rw[aH z,<-Q] at C;clear G z j Q;go_wp2_with fail;refine C.mono ?_;rintro e w2 ⟨rfl,f⟩;have v:=z9 (bE F.out f);clear f C;go_wp2_with fail;go_ret;exact⟨by rw[O.out];rfl,v.out⟩
   ·obtain rfl:k=n:=by omega
    have HZ:Hid (goes [] l=0):=by
     unfold Hid;rw[<-J.out,xM (by rw[I.out];exact qC _)];rfl
    go_wp2_with fail;go_ret;exact⟨by rw[E.out,HZ.out];rfl,F.out⟩
theorem uN(s:ByteArray)(w:World)(hl:l.length=n)(h:LeafsIn w p l)(hs:∀x ∈ l,x.1.size<=maxLen)(hn:n<=maxLen)(hp:s.size<=maxLen):
  Calls prog 178 #[.slice p n c,.string s] w fun e w'=>e=.returned (errV (withE l s))/\zB w w':=by
 have C:=tY p n c l w hl h hs hn;have f:=fun w=>cQ s w hp
 clear hl h hs hn hp;by_cases b:bookE l=0
 ·rw[b,aD] at C;have g:Hid (withE l s=Pm.chk s.toList):=by unfold Hid withE;rw[if_neg (by simpa using b)]
  clear b;go_in;go_wp2_with fail;refine C.mono ?_;rintro e w2 ⟨rfl,a⟩;have d:=z9 a;clear a C;go_wp2_with fail;refine(f _).mono ?_;rintro e w3 ⟨rfl,k⟩;have m:=k.symm;subst m;clear k f;go_wp2_with fail;go_ret;exact⟨by rw[g.out];rfl,d.out⟩
 ·obtain⟨q,i⟩:=zx (bookE l);have g:Hid (errV (withE l s)=.iface 59 (zI q)):=by unfold Hid withE;rw[if_pos b,i,aH b]
  rw[aH b,<-i] at C;clear b i f;go_in;go_wp2_with fail;refine C.mono ?_;rintro e w2 ⟨rfl,a⟩;have d:=z9 a;clear a C;go_wp2_with fail;go_ret;exact⟨by rw[g.out];rfl,d.out⟩
end Lc
namespace Ld
open La
def cmp (a b:ByteArray):Int:=Lib.compareBytes a.data.toList b.data.toList
theorem eW:∀a b:List UInt8,(Lib.compareBytes a b<0↔Op.bytesLess a b=true)/\(Lib.compareBytes a b=0↔a=b)
 | [],[]=>by simp[Lib.compareBytes,Op.bytesLess]
 | [],_::_=>by simp[Lib.compareBytes,Op.bytesLess]
 | _::_,[]=>by simp[Lib.compareBytes,Op.bytesLess]
 | x::a,y::b=>by
  obtain⟨h1,h2⟩:=eW a b
  unfold Lib.compareBytes
  by_cases hlt:x<y
  ·rw[if_pos hlt]
   have hne:x≠y:=by rintro rfl;exact absurd hlt (UInt8.lt_irrefl x)
   simp[Op.bytesLess,hlt,hne]
  ·rw[if_neg hlt]
   by_cases hgt:y<x
   ·rw[if_pos hgt]
    have hne:x≠y:=by rintro rfl;exact absurd hgt (UInt8.lt_irrefl x)
    simp[Op.bytesLess,hlt,hne]
   ·rw[if_neg hgt]
    have e:=UInt8.le_antisymm (UInt8.not_lt.1 hgt) (UInt8.not_lt.1 hlt)
    subst e
    constructor
    ·rw[h1];simp[Op.bytesLess,hlt]
    ·rw[h2];simp
variable (a:ByteArray)(q:Option Addr)(n:Nat)(b:ByteArray)(c:Nat)(l:List Leaf)(w:World)(p:ByteArray)
theorem aCm:cmp a b<0↔Op.bytesLess a.toList b.toList=true:=by
 unfold cmp;rw[ByteArray.toList_eq,ByteArray.toList_eq];exact(eW _ _).1
theorem cmp_eq:cmp a b=0↔a.toList=b.toList:=by
 unfold cmp;rw[ByteArray.toList_eq,ByteArray.toList_eq];exact(eW _ _).2
theorem entry(args:Array Value)(w:World):(callFunc 187 args).run prog w=((Extern.BytealgCompare.compare args).run prog w).andThen fun v w'=> .ok (.value v) w':=
 run_callFunc_extern Tryz.func187 (by kernel_rfl) (by kernel_rfl) (by kernel_rfl) (by kernel_rfl) args w
theorem aB1:(callFunc 187 #[.string a,.string b]).run prog w=.ok (.value (.int .i64 (cmp a b))) w:=by
 rw[entry,Lib.run_compareString];rfl
theorem kZ:
  Calls prog 154 #[.string a,.string b] w fun e w'=>e=.returned (.int .i64 (cmp a b))/\w'=w:=by
 have c:=aB1;go_in;go_wp2;go_ret;exact⟨rfl,rfl⟩
theorem fG(s:ByteArray)(n:Int)(b:Bool)(p:ByteArray)(w:World):
  Calls prog 153 #[.agg #[.string s,.int .i64 n,.bool b],.string p] w fun e w'=>e=.returned (.int .i64 (cmp s p))/\zB w w':=by
 go_in;go_wp2_with (go_at_call 154;refine(kZ s p _).mono ?_;rintro e w' ⟨rfl,a⟩;subst w');go_ret;exact⟨rfl,zb w _⟩
theorem dS(w:World)(hl:l.length=n)(h:LeafsIn w q l)(hr:Rise l)(hn:n<=1048576):
  Calls prog 152 #[.slice q n c,.string p,.func (.func 153) #[] #[]] w fun e w'=>e=.returned (.tuple #[.int .i64 (ahd l p.toList),.bool (has l p.toList)])/\zB w w':=by
 have f:=z9 hl;have V:=z9 h;have M:=z9 hr;clear hl h hr;go_in;go_wp2;go_loopw [9,10,11] (fun vi vj _ wr=>∃(i j:Nat),i<=j/\j<=n/\vi=zI i/\vj=zI j/\Hid (∀k,k<i->Op.bytesLess (l.getD k none0).1.toList p.toList=true)/\Hid (∀k,j<=k->k<n->Op.bytesLess (l.getD k none0).1.toList p.toList=false)/\Hid (zB w wr)) (fun vi vj _ _=>(intOf vj).toNat-(intOf vi).toNat)
 case atStart=>exact⟨0,n,by omega,by omega,rfl,rfl,fun k hk=>absurd hk (by omega),fun k h1 h2=>absurd h1 (by omega),qD _ _⟩
 case round=>
  obtain⟨i,j,ad,X,rfl,rfl,Y,Z,z⟩:=hrel;by_cases ae:i<j
  ·have ab:(i:Int)<j:=by omega
   obtain⟨m,hm⟩:∃m:Nat,((i:Int)+j)/2=m:=⟨(i+j)/2,by omega⟩;have af:i<=m:=by omega
   have ag:m<j:=by omega
   obtain⟨b,o,rfl,v⟩:=V.out.some (by intro e;have:=f.out;rw[e] at this;simp at this;omega);have B:m<l.length:=by rw[f.out];omega
   have D:=(v m B).below z.out (v m B).lt;obtain⟨x,y⟩:=zx (l.getD m none0);rw[<-y] at D;have G:=z9 y;obtain⟨d,N,O⟩:=x;obtain⟨P,Q,R⟩:=D;have ah:(m:Int)<n:=by omega
   clear v y;simp only at P Q R;have C:=fG d N O p wr;have E:=z9 (aCm d p);obtain⟨q,F⟩:=zx (cmp d p);rw[<-F] at C E;clear F;by_cases hz:q<0
   ·have S:Hid (∀k,k<m+1->Op.bytesLess (l.getD k none0).1.toList p.toList=true):=by
     have r:=E.out.1 hz;have T:(l.getD m none0).1=d:=by rw[<-G.out]
     rw[<-T] at r;intro k hk;rcases jS.1 hk with h | rfl
     ·exact cA (gG M.out h B) r
     ·exact r
    go_wp2_with fail;refine C.mono ?_;rintro e w2 ⟨rfl,a⟩;have s:=z9 (bel z.out a);clear a C;go_wp2_with fail;go_roundw
    case rel=>exact⟨m+1,j,by omega,by omega,by go_num,rfl,S,Z,s⟩
    case measure=>simp[intOf];omega
   ·have S:Hid (∀k,m<=k->k<n->Op.bytesLess (l.getD k none0).1.toList p.toList=false):=by
     have r:Op.bytesLess d.toList p.toList=false:=by
      cases h8:Op.bytesLess d.toList p.toList
      ·rfl
      ·exact absurd (E.out.2 h8) hz
     have T:(l.getD m none0).1=d:=by rw[<-G.out]
     rw[<-T] at r;intro k hk hk2;rcases xW hk with h | rfl
     ·cases h8:Op.bytesLess (l.getD k none0).1.toList p.toList
      ·rfl
      ·rw[cA (gG M.out h (by rw[f.out];exact hk2)) h8] at r;cases r
     ·exact r
    go_wp2_with fail;refine C.mono ?_;rintro e w2 ⟨rfl,a⟩;have s:=z9 (bel z.out a);clear a C;go_wp2_with fail;go_roundw
    case rel=>exact⟨i,m,by omega,by omega,rfl,by go_num,Y,S,s⟩
    case measure=>simp[intOf];omega
  ·obtain rfl:i=j:=by omega
   have I:=z9 (aAs M.out (by rw[f.out];exact X) Y.out (fun k h1 h2=>Z.out k h1 (by rw[<-f.out];exact h2)));by_cases K:i<n
   ·have U:(i:Int)<n:=by omega
    obtain⟨b,o,rfl,v⟩:=V.out.some (by intro e;have:=f.out;rw[e] at this;simp at this;omega);have L:i<l.length:=by rw[f.out];omega
    have D:=(v i L).below z.out (v i L).lt;obtain⟨x,y⟩:=zx (l.getD i none0);rw[<-y] at D;have G:=z9 y;obtain⟨d,N,O⟩:=x;obtain⟨P,Q,R⟩:=D;clear v y;simp only at P Q R;have C:=fG d N O p wr
    have J:Hid (has l p.toList=(cmp d p==0)):=by
     unfold Hid has;rw[I.out,decide_eq_true (by rw[f.out];exact K),yY,<-G.out,xP,beq_iff_eq,beq_iff_eq,cmp_eq]
    obtain⟨q,F⟩:=zx (cmp d p);rw[<-F] at C J;clear F;go_wp2_with fail;refine C.mono ?_;rintro e w2 ⟨rfl,a⟩;have s:=z9 (bel z.out a);clear a C;go_wp2_with fail;go_ret2;exact⟨by rw[I.out,J.out];rfl,s.out⟩
   ·have U:¬(i:Int)<n:=by omega
    have J:Hid (has l p.toList=false):=by
     unfold Hid has;rw[I.out,decide_eq_false (by rw[f.out];exact K)];rfl
    go_wp2_with fail;go_ret2;exact⟨by rw[I.out,J.out];rfl,z.out⟩
theorem fX(w:World)(hl:l.length=n)(h:LeafsIn w q l)(hr:Rise l)(hn:n<=1048576):
  Calls prog 128 #[.slice q n c,.string p] w fun e w'=>e=.returned (.tuple #[.int .i64 (ahd l p.toList),.bool (has l p.toList)])/\zB w w':=by
 have C:=dS q n c l p w hl h hr hn;clear hl h hr hn;obtain⟨a,f⟩:=zx (ahd l p.toList);obtain⟨b,g⟩:=zx (has l p.toList);rw[<-f,<-g] at C |-;clear f g;go_in;go_wp2_with fail;refine C.mono ?_;rintro e w2 ⟨rfl,d⟩;have i:=z9 d;clear d C;go_wp2_with fail;go_ret2;exact⟨rfl,i.out⟩
end Ld
namespace Le
open La Lb Lc
theorem aA3:(prog.info? 5).map (fun i=>(i.zero,i.size,i.bytes))=some (some (.int .u8 0),1,1):=by kernel_rfl
def bc (l:List UInt8):List Value:=l.map fun x=>Value.int .u8 (x.toNat:Int)
theorem aAF{w:World}{base:Nat}{v:Value}{l:List UInt8}(h:w.ownsRow base 5 1 v l.length (bc l)):(convert 86 9 v).run prog w=.ok (.string ⟨l.toArray⟩) w:=by
 rcases h.2 with⟨rfl,h0⟩ | ⟨g,cap,cur,rfl,_,h2,h3,h4,h5,h6⟩
 ·rw[qK h0];exact run_convert_bytes_nil (P:=prog) (w:=w) 86 5 Tryz.underlying86 Tryz.underlying5 0 0 9 Tryz.underlying9
 ·refine run_convert_bytes_back (P:=prog) w 86 9 5 (zA g) cap l Tryz.underlying86 Tryz.underlying5 Tryz.underlying9 ?_;intro j hj;have:=h.cells (g:=g) rfl j (.int .u8 (l[j].toNat:Int)) (by simp[bc,qB hj]);exact this
theorem aDA{w:World}{base:Nat}{t:TypeId}{v:Value}{tx:List UInt8}{c:UInt8}{nx:Int}(hc:(c.toNat:Int)=nx)(h:w.ownsRow base t 1 v (tx.length+1) (bc tx++[.int .u8 nx])):w.ownsRow base t 1 v (tx++[c]).length (bc (tx++[c])):=by
 have e:bc (tx++[c])=bc tx++[.int .u8 nx]:=by unfold bc;rw[xL,<-hc];rfl
 rw[e,qE];exact h
theorem uT{l:List Leaf}{k:Nat}(hk:k<l.length):text (l.take (k+1))=if isS (l.getD k none0) then text (l.take k)++[letter (l.getD k none0)] else text (l.take k):=by
 have e:l.take (k+1)=l.take k++[l.getD k none0]:=by
  rw[yB hk,qA,qB hk];rfl
 rw[e,aA1,uY];split
 ·rfl
 ·simp[text]
theorem aAY(q:Option Addr)(n c:Nat)(l:List Leaf)(w:World)(hl:l.length=n)(h:LeafsIn w q l)(ho:∀x ∈ l,x.2.1=0\/isL x.2.1=true)(hn:n<=1048576):
  Calls prog 86 #[.slice q n c] w fun e w'=>e=.returned (.string ⟨(text l).toArray⟩)/\zB w w':=by
 have D:=z9 hl;have X:=z9 h;have Y:=z9 ho;obtain⟨Z,hi,J,K,L⟩:=info_parts aA3;clear hl h ho;go_in;go_wp2;go_loopw [3,5,8] (fun v _ i wr=>∃(k:Nat),k<=n/\i=zI k/\Hid (wr.ownsRow w.heap.size 5 1 v (text (l.take k)).length (bc (text (l.take k))))/\Hid (zB w wr)) (fun _ _ i _=>n-(intOf i).toNat)
 case atStart=>exact⟨0,by omega,rfl,jT _ _ _ _,qD _ _⟩
 case round=>
  obtain⟨k,hk,rfl,A,B⟩:=hrel;by_cases M:k<n
  ·have ab:(k:Int)<n:=by omega
   obtain⟨b,o,rfl,E⟩:=X.out.some (by intro e;have:=D.out;rw[e] at this;simp at this;omega);have m:k<l.length:=by rw[D.out];exact M
   have N:=(E k m).below B.out (E k m).lt;have g:=Y.out _ (cC m);have r:=z9 (uT m)
   have O:(text (l.take k)).length<=1048576:=by
    have h1:=iX (l.take k);rw[qQ] at h1;omega
   obtain⟨x,P⟩:=zx (l.getD k none0);rw[<-P] at N g r;obtain⟨s,j,t⟩:=x;obtain⟨F,G,H⟩:=N;clear E P;simp only at F G H g;have C:=sQ s j t (wr.alloc (.cells #[.string s,zI j,.bool t] 77));obtain⟨Q,y⟩:=zx (text (l.take k));rw[<-y] at A r O;cases hse:isS (s,j,t)
   ·rw[hse] at C r
    have R:Hid (wr.ownsRow w.heap.size 5 1 u3 (text (l.take (k+1))).length (bc (text (l.take (k+1))))):=by
     unfold Hid;rw[r.out];exact A.out
    clear hse y g;go_wp2_with fail;refine C.mono ?_;rintro e w2 ⟨rfl,a⟩;have f:=z9 (bE B.out a);have p:Hid (w2.ownsRow w.heap.size 5 1 u3 (text (l.take (k+1))).length (bc (text (l.take (k+1))))):=own_below (R.out.alloc _) a;clear a C F G H;go_wp2_with fail;go_roundw
    case rel=>exact⟨k+1,by omega,by go_num,p,f⟩
    case measure=>simp[intOf];omega
   ·rw[hse] at C r
    have z:isL j=true:=by
     rcases g with e | e
     ·unfold isS at hse;rw[e] at hse;simp at hse
     ·exact e
    have S:=sB z;have T:=z9 (rZ (x:=(s,j,t)) z);clear hse y g z;obtain⟨ad,ae,af⟩:=S;go_wp2_with fail;refine C.mono ?_;rintro e w2 ⟨rfl,a⟩;have f:=z9 (bE B.out a);have d2:=(bC (x:=(s,j,t)) a).2.1;simp only at d2;have p:Hid (w2.ownsRow w.heap.size 5 1 u3 Q.length (bc Q)):=own_below (A.out.alloc _) a;clear a C F G H;go_wp2_with (at_builtin;refine wpList_append_own_at _ rfl (.tmp 14) (.tmp 18) 86 rfl w.heap.size 5 Z (.int .u8 0) 1 1 Tryz.underlying86 hi J K L rfl (by decide) u3 _ _ rfl (p.out.alloc _) (zW w2) 1 1 [.int .u8 j] rfl rfl (cell_one_new _ _ _) (by intro u hu;simp at hu;subst hu;rfl) (by unfold maxLen;omega) (by omega) (by have:=f.out.size;simp;omega) ?_;intro v' w3 hown' hgrow _ hat;have U:Hid (zB w w3):=(aS p.out (f.out.alloc f.out.size _) hgrow (by have:=f.out.size;simp;omega));have V:Hid (w3.ownsRow w.heap.size 5 1 v' (text (l.take (k+1))).length (bc (text (l.take (k+1))))):=(by unfold Hid;rw[r.out];exact aDA T.out hown');clear hown' hgrow hat);go_roundw
    case rel=>exact⟨k+1,by omega,by go_num,V,U⟩
    case measure=>simp[intOf];omega
  ·obtain rfl:k=n:=by omega
   have ah:(convert 86 9 u3).run prog wr=.ok (.string ⟨(text l).toArray⟩) wr:=by
    have:=aAF A.out;rwa [qW (by rw[D.out];exact qC _)] at this
   go_wp2_with fail;go_ret;exact⟨rfl,B.out⟩
end Le
namespace Lf
open Ka La Lc Le
def textR (l:List Leaf):ByteArray:=if bookE l=0 then⟨(text l).toArray⟩ else⟨#[]⟩
theorem dO{l:List Leaf}(h:bookE l=0):l.length<=300/\Rise l/\∀x ∈ l,x.2.1=0\/isL x.2.1=true:=by
 obtain⟨a,b,c⟩:=aU.1 h;exact⟨a,c,fun x hx=>(cG.1 (b x hx)).2.1⟩
theorem sG(q:Option Addr)(n c:Nat)(l:List Leaf)(w:World)(hl:l.length=n)(h:LeafsIn w q l)(hs:∀x ∈ l,x.1.size<=maxLen)(hn:n<=maxLen):
  Calls prog 59 #[.slice q n c] w fun e w'=>e=.returned (.tuple #[.string (textR l),errV (bookE l)])/\zB w w':=by
 have C:=tY q n c l w hl h hs hn;by_cases b:bookE l=0
 ·have f:=dO b;have o:Hid (∀w2,zB w w2->Calls prog 86 #[.slice q n c] w2 fun e w'=>e=.returned (.string ⟨(text l).toArray⟩)/\zB w2 w'):=fun w2 hb=>aAY q n c l w2 hl (h.below hb) f.2.2 (by omega)
  have g:Hid (textR l=⟨(text l).toArray⟩):=by unfold Hid textR;rw[if_pos b]
  have d:Hid (errV (bookE l)=.nilIface):=by unfold Hid;rw[b];rfl
  rw[d.out] at C;rw[d.out,g.out];clear hl h hs hn f b g d;go_in;go_wp2_with fail;refine C.mono ?_;rintro e w2 ⟨rfl,a⟩;have i:=z9 a;have p:=o.out w2 a;clear a C;go_wp2_with fail;refine p.mono ?_;rintro e w3 ⟨rfl,j⟩;have r:=z9 (bel i.out j);clear j p;go_wp2_with fail;go_ret2;exact⟨rfl,r.out⟩
 ·obtain⟨k,f⟩:=zx (bookE l);have g:Hid (textR l=⟨#[]⟩):=by unfold Hid textR;rw[if_neg b]
  have d:Hid (errV (bookE l)=.iface 59 (zI k)):=by unfold Hid;rw[aH b,f]
  rw[d.out] at C;rw[d.out,g.out];clear hl h hs hn b f g d;go_in;go_wp2_with fail;refine C.mono ?_;rintro e w2 ⟨rfl,a⟩;have i:=z9 a;clear a C;go_wp2_with fail;go_ret2;exact⟨rfl,i.out⟩
theorem aGB{l:List Leaf}{k:Nat}(hk:k<l.length)(r:Int):nth (l.drop k) k r=if isS (l.getD k none0) then(if r=0 then(k:Int) else nth (l.drop (k+1)) (k+1) (r-1)) else nth (l.drop (k+1)) (k+1) r:=by
 rw[aDa hk];rfl
end Lf
namespace Lg
open La Lc Ld Lf
theorem iC{w w2:World}{c:Array Value}{t:TypeId}(hb:Below (w.alloc (.cells c t)).heap.size (w.alloc (.cells c t)) w2)(j:Nat):w2.frozen? ⟨w.heap.size,j,none⟩=false:=by
 have a:w.heap.size<(w.alloc (.cells c t)).heap.size:=by simp
 have b:(w.alloc (.cells c t)).heap[w.heap.size]? =some (.cells c t):=heap_alloc_new w _;rw[hb.frozen (p:=⟨w.heap.size,j,none⟩) a];simp only[World.frozen?,b];simp
theorem nP(w:World)(o:Obj)(a:Addr)(v:Value)(h:w.cell? a=some v):(w.alloc o).cell? a=some v:=by
 rw[World.cell?_alloc_old _ _ _ (kO (qJ _ _ h))];exact h
theorem aCI(q:Option Addr)(n c:Nat)(l:List Leaf)(p:ByteArray)(w:World)(hl:l.length=n)(h:LeafsIn w q l)(hr:Rise l)(hn:n<=1048576):
  Calls prog 179 #[.slice q n c,.string p] w fun e w'=>e=.returned (rK (leafAt l p))/\zB w w':=by
 have j:∀o,zB w (w.alloc o):=fun o=>(qD _ w).alloc (qC _) _
 have C:=fun o=>fX q n c l p (w.alloc o) hl (h.below (j o)) hr hn
 have t:=z9 j;clear j;cases hh:has l p.toList
 ·rw[hh] at C;have k:Hid (leafAt l p=(p,0,false)):=by unfold Hid leafAt;rw[hh];rfl
  rw[k.out];obtain⟨i,m⟩:=zx (ahd l p.toList);rw[<-m] at C;clear hl h hr hn hh k m;go_in;go_wp2_with fail;refine(C _).mono ?_;rintro e w2 ⟨rfl,a⟩;have f:Hid (zB w w2):=bel (t.out _) a;have d:=bC (x:=(⟨#[]⟩,0,false)) a;simp only at d;obtain⟨z,A,B⟩:=d;have I:=iC a 0;have J:=iC a 1;have K:=iC a 2;clear C a;go_wp2_with fail;refine bodyPost_ret (v:=rK (p,0,false)) ?_ rfl ⟨rfl, ?_⟩
  ·simp[results,Tryz.results179,rK,go_sem,asAddr,Result.andThen,z,A,B]
  ·exact((f.out.setCell (p:=(zW w)) (qC _) _).setCell (p:=⟨w.heap.size,1,none⟩) (qC _) _).setCell (p:=⟨w.heap.size,2,none⟩) (qC _) _
 ·rw[hh] at C;have g:ahd l p.toList<l.length:=by unfold has at hh;rw[qX,decide_eq_true_eq] at hh;exact hh.1
  have k:Hid (leafAt l p=l.getD (ahd l p.toList) none0):=by unfold Hid leafAt;rw[hh];rfl
  rw[k.out];obtain⟨i,m⟩:=zx (ahd l p.toList);rw[<-m] at C g |-;obtain⟨b,o,rfl,F⟩:=h.some (by rintro rfl;simp at g);have r:=F i g;obtain⟨x,G⟩:=zx (l.getD i none0);rw[<-G] at r |-;obtain⟨L,M,N⟩:=x;have y:=z9 r;have O:(i:Int)<n:=by omega
  clear hl h hr hh k m F G r g;go_in;go_wp2_with fail;refine(C _).mono ?_;rintro e w2 ⟨rfl,a⟩;have f:Hid (zB w w2):=bel (t.out _) a;have d:=bC (x:=(⟨#[]⟩,0,false)) a;simp only at d;obtain⟨z,A,B⟩:=d;have I:=iC a 0;have J:=iC a 1;have K:=iC a 2;obtain⟨P,Q,R⟩:=y.out.below f.out y.out.lt;simp only at P Q R;clear C a;go_wp2_with fail;refine bodyPost_ret (v:=rK (L,M,N)) ?_ rfl ⟨rfl, ?_⟩
  ·simp[results,Tryz.results179,rK,go_sem,asAddr,Result.andThen,z,A,B]
  ·exact((f.out.setCell (p:=(zW w)) (qC _) _).setCell (p:=⟨w.heap.size,1,none⟩) (qC _) _).setCell (p:=⟨w.heap.size,2,none⟩) (qC _) _
end Lg
end Go.Proofs.YtjcemlmlfoilmaaGreatDoor
