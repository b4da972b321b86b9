import Derived.Test.YtjcemlmlfoilmaaGreatDoorJ4
import Derived.Laws.Tables
set_option linter.unusedVariables false
set_option maxRecDepth 100000
set_option maxHeartbeats 8000000
namespace Go.Proofs.YtjcemlmlfoilmaaGreatDoor
open Cm Na Go.RowKit Kb
open Go.Proofs.Tryz (prog)
namespace Om
abbrev Ox:=Dt × Int × ByteArray × Int × List Dt
def oz:Ox:=((0,0),0,ByteArray.empty,0,[])
def isLetter (n:Int):Bool:=decide (32≤n)&&decide (n≤126)
def lawOf (o:Ox):Int:=
 if o.2.1=1∧isLetter o.2.2.2.1=false then 1
 else if(o.2.1≠1∧o.2.2.2.1≠0)∨(o.2.1≠4∧o.2.2.2.2≠[]) then 3
 else if 40<o.2.2.2.2.length then 4 else dotsE o.2.2.2.2
def opE (o:Ox):Int:=
 if dotE o.1.1 o.1.2≠0 then dotE o.1.1 o.1.2
 else if o.2.1<1∨4<o.2.1 then 1
 else if Pm.chk o.2.2.1.toList≠0 then Pm.chk o.2.2.1.toList
 else lawOf o
theorem bH{a b:Int}:dotE a b=0↔1<=a/\a<=8/\1<=b/\b<=9999:=by
 unfold dotE;constructor
 ·intro h;split at h
  ·exact absurd h (by decide)
  ·omega
 ·intro h;rw[if_neg (by omega)]
variable {n:Int}{o:Ox}{l:List Ox}{s:List UInt8}(c:UInt8)
theorem oA:isLetter n=true↔32<=n/\n<=126:=by unfold isLetter;simp
theorem bB:lawOf o=0↔(o.2.1=1->32<=o.2.2.2.1/\o.2.2.2.1<=126)/\(o.2.1≠1->o.2.2.2.1=0)/\(o.2.1≠4->o.2.2.2.2=[])/\o.2.2.2.2.length<=40/\dotsE o.2.2.2.2=0:=by
 obtain⟨⟨a,b⟩,t,p,c,s⟩:=o;unfold lawOf;simp only;by_cases f:t=1/\isLetter c=false
 ·rw[if_pos f];constructor
  ·intro h;exact absurd h (by decide)
  ·rintro⟨g,_⟩;have:=oA.2 (g f.1);rw[f.2] at this;cases this
 ·rw[if_neg f]
  have n:t=1->32<=c/\c<=126:=by
   intro h;cases d:isLetter c
   ·exact absurd ⟨h,d⟩ f
   ·exact oA.1 d
  by_cases d:(t≠1/\c≠0)\/(t≠4/\s≠[])
  ·rw[if_pos d];constructor
   ·intro h;exact absurd h (by decide)
   ·rintro⟨_,q,r,_⟩;rcases d with⟨e1,e2⟩ | ⟨e1,e2⟩
    ·exact absurd (q e1) e2
    ·exact absurd (r e1) e2
  ·rw[if_neg d];have v:t≠1->c=0:=fun h=>Decidable.byContradiction fun e=>d (qH ⟨h,e⟩)
   have y:t≠4->s=[]:=fun h=>Decidable.byContradiction fun e=>d (qF ⟨h,e⟩)
   by_cases l:40<s.length
   ·rw[if_pos l];constructor
    ·intro h;exact absurd h (by decide)
    ·rintro⟨_,_,_,g,_⟩;omega
   ·rw[if_neg l];exact⟨fun h=>⟨n,v,y,by omega,h⟩,fun h=>h.2.2.2.2⟩
theorem aO:opE o=0↔dotE o.1.1 o.1.2=0/\(1<=o.2.1/\o.2.1<=4)/\Pm.chk o.2.2.1.toList=0/\lawOf o=0:=by
 unfold opE;by_cases a:dotE o.1.1 o.1.2=0
 ·rw[if_neg (by simpa using a)];by_cases c:o.2.1<1\/4<o.2.1
  ·rw[if_pos c];constructor
   ·intro h;exact absurd h (by decide)
   ·rintro⟨_,g,_⟩;omega
  ·rw[if_neg c];by_cases b:Pm.chk o.2.2.1.toList=0
   ·rw[if_neg (by simpa using b)];exact⟨fun h=>⟨a,by omega,b,h⟩,fun h=>h.2.2.2⟩
   ·rw[if_pos b];exact⟨fun h=>absurd h b,fun h=>absurd h.2.2.1 b⟩
 ·rw[if_pos a];exact⟨fun h=>absurd h a,fun h=>absurd h.1 a⟩
def u8 (n:Int):UInt8:=UInt8.ofNat n.toNat
def b2 (n:Int):List UInt8:=[u8 (n/256),u8 (n%256)]
theorem bK(h0:0<=n)(h1:n<=255):((u8 n).toNat:Int)=n:=by
 unfold u8;rw[yP];omega
theorem aDE:u8 (c.toNat:Int)=c:=by
 unfold u8;rw[xK];exact UInt8.ofNat_toNat
theorem bO(n:Int):(b2 n).length=2:=rfl
theorem aBV(h0:0<=n)(h1:n<=65535):((u8 (n/256)).toNat:Int)*256+((u8 (n%256)).toNat:Int)=n:=by
 rw[bK (by omega) (by omega),bK (by omega) (by omega)];omega
theorem aHU(a b:UInt8):b2 ((a.toNat:Int)*256+(b.toNat:Int))=[a,b]:=by
 have c:=jX a;have d:=jX b;unfold b2;rw[show((a.toNat:Int)*256+(b.toNat:Int))/256=(a.toNat:Int) by omega,show((a.toNat:Int)*256+(b.toNat:Int))%256=(b.toNat:Int) by omega,aDE,aDE]
def seenB (s:List Dt):List UInt8:=s.flatMap fun d=>u8 d.1::b2 d.2
theorem tZ(d:Dt)(s:List Dt):seenB (d::s)=u8 d.1::u8 (d.2/256)::u8 (d.2%256)::seenB s:=rfl
theorem nZ(a b:List Dt):seenB (a++b)=seenB a++seenB b:=by unfold seenB;rw[vA]
theorem fQ:∀s:List Dt,(seenB s).length=3*s.length
 | []=>rfl
 | d::s=>by rw[tZ];simp[fQ s];omega
def tailB (o:Ox):List UInt8:=(if o.2.1=1 then[u8 o.2.2.2.1] else[])++(if o.2.1=4 then u8 o.2.2.2.2.length::seenB o.2.2.2.2 else[])
def frontB (o:Ox):List UInt8:=u8 o.2.1::u8 o.1.1::u8 (o.1.2/256)::u8 (o.1.2%256)::u8 o.2.2.1.size::(o.2.2.1.toList++tailB o)
def sumB (l:List UInt8):Int:=l.foldl (fun a c=>a+(c.toNat:Int)) 0
def bytesB (o:Ox):List UInt8:=frontB o++[u8 (sumB (frontB o)%253)]
def fI (o:Ox):ByteArray:=⟨(bytesB o).toArray⟩
theorem toList_mk(l:List UInt8):(⟨l.toArray⟩:ByteArray).toList=l:=by rw[ByteArray.toList_eq]
theorem pL(s:ByteArray):(⟨s.toList.toArray⟩:ByteArray)=s:=by rw[ByteArray.toList_eq]
theorem cK(o:Ox):(fI o).toList=bytesB o:=toList_mk _
theorem aJ(s:ByteArray):s.toList.length=s.size:=by rw[ByteArray.toList_eq];rfl
theorem uU(l:List UInt8)(c:UInt8):sumB (l++[c])=sumB l+(c.toNat:Int):=by unfold sumB;rw[List.foldl_append];rfl
theorem aE5(o:Ox):(tailB o).length=(if o.2.1=1 then 1 else 0)+(if o.2.1=4 then 1+3*o.2.2.2.2.length else 0):=by
 unfold tailB;rw[qE];congr 1
 ·split<;>rfl
 ·split
  ·rw[qV,fQ];omega
  ·rfl
theorem aBR(o:Ox):(frontB o).length=5+o.2.2.1.size+(tailB o).length:=by
 unfold frontB;simp only[qV,qE,aJ];omega
theorem gE(o:Ox):(bytesB o).length=6+o.2.2.1.size+(if o.2.1=1 then 1 else 0)+(if o.2.1=4 then 1+3*o.2.2.2.2.length else 0):=by
 unfold bytesB;rw[qE,aBR,aE5];simp only[qV,yW];omega
def threes:Nat→List UInt8→List Dt
 | k+1,a::b::c::r=>((a.toNat:Int),(b.toNat:Int)*256+(c.toNat:Int))::threes k r
 | _,_=>[]
def letterIn (t:Int) (r:List UInt8):Int:=if t=1 then((r.headD 0).toNat:Int) else 0
def seenIn (t:Int) (r:List UInt8):List Dt:=if t=4 then threes (r.headD 0).toNat r.tail else[]
def readB (s:List UInt8):Ox:=
 (((s.getD 1 0).toNat,((s.getD 2 0).toNat:Int)*256+((s.getD 3 0).toNat:Int)),((s.getD 0 0).toNat:Int),⟨((s.drop 5).take (s.getD 4 0).toNat).toArray⟩,
  letterIn ((s.getD 0 0).toNat:Int) (s.drop (5+(s.getD 4 0).toNat)),seenIn ((s.getD 0 0).toNat:Int) (s.drop (5+(s.getD 4 0).toNat)))
theorem rF:∀(s:List Dt) (r:List UInt8),(∀d ∈ s,dotE d.1 d.2=0)->threes s.length (seenB s++r)=s
 | [],r,_=>by cases r<;>rfl
 | d::s,r,h=>by
  have h1:=bH.1 (h d (xA ..))
  rw[tZ]
  show(((u8 d.1).toNat:Int),((u8 (d.2/256)).toNat:Int)*256+((u8 (d.2%256)).toNat:Int))::threes s.length (seenB s++r)=d::s
  rw[aBV (by omega) (by omega),rF s r (fun x hx=>h x (jO _ hx))]
  have e:((u8 d.1).toNat:Int)=d.1:=bK (by omega) (by omega)
  rw[e]
theorem iW(h:opE o=0):readB (bytesB o)=o/\5+o.2.2.1.size<=(bytesB o).length/\(bytesB o).getD 4 0=u8 o.2.2.1.size:=by
 obtain⟨r,D,v,E⟩:=aO.1 h;obtain⟨y,A,B,F,C⟩:=bB.1 E;obtain⟨⟨a,b⟩,t,p,c,s⟩:=o;simp only at r D v y A B F C;have N:=bH.1 r;have O:=Bm.cS v;have q:=aJ p
 have G:(u8 (p.size:Int)).toNat=p.size:=by
  have:=bK (n:=(p.size:Int)) (by omega) (by omega);omega
 have l:bytesB ((a,b),t,p,c,s)=u8 t::u8 a::u8 (b/256)::u8 (b%256)::u8 p.size::(p.toList++(tailB ((a,b),t,p,c,s)++[u8 (sumB (frontB ((a,b),t,p,c,s))%253)])):=by
  unfold bytesB;show(frontB ((a,b),t,p,c,s))++_=_
  unfold frontB;simp only[jJ,vJ]
 obtain⟨z,H⟩:=zx (u8 (sumB (frontB ((a,b),t,p,c,s))%253));rw[<-H] at l;have I:((u8 t).toNat:Int)=t:=bK (by omega) (by omega);refine⟨?_, ?_, ?_⟩
 ·rw[l]
  have J:(u8 t::u8 a::u8 (b/256)::u8 (b%256)::u8 (p.size:Int)::(p.toList++(tailB ((a,b),t,p,c,s)++[z]))).drop (5+p.size)=tailB ((a,b),t,p,c,s)++[z]:=by
   rw[Nat.add_comm 5 p.size];show(p.toList++(tailB ((a,b),t,p,c,s)++[z])).drop p.size=_
   rw[<-q,List.drop_left]
  unfold readB;simp only[List.getD_cons_zero,List.getD_cons_succ,G,I,J]
  have K:((u8 t::u8 a::u8 (b/256)::u8 (b%256)::u8 (p.size:Int)::(p.toList++(tailB ((a,b),t,p,c,s)++[z]))).drop 5).take p.size=p.toList:=by
   show(p.toList++(tailB ((a,b),t,p,c,s)++[z])).take p.size=_
   rw[<-q,List.take_left]
  rw[K,pL,aBV (by omega) (by omega),bK (n:=a) (by omega) (by omega)]
  have L:letterIn t (tailB ((a,b),t,p,c,s)++[z])=c:=by
   unfold letterIn tailB;by_cases j:t=1
   ·subst j;have:=y rfl;simp only[if_true,jJ,List.headD_cons];exact bK (by omega) (by omega)
   ·rw[if_neg j,A j]
  have M:seenIn t (tailB ((a,b),t,p,c,s)++[z])=s:=by
   unfold seenIn tailB;by_cases j:t=4
   ·subst j;rw[if_pos rfl];simp only[if_true,show((4:Int)=1)=False by simp,if_false,vC,jJ,List.headD_cons,List.tail_cons];have:=bK (n:=(s.length:Int)) (by omega) (by omega);rw[show(u8 (s.length:Int)).toNat=s.length by omega];exact rF s [z] (dQ.1 C).1
   ·rw[if_neg j,B j]
  rw[L,M]
 ·rw[l];simp only[qV,qE,q];omega
 ·rw[l];rfl
def decB (s:List UInt8):Option Ox:=
 if s.length<5∨s.length<5+(s.getD 4 0).toNat then none
 else if opE (readB s)=0∧bytesB (readB s)=s then some (readB s) else none
theorem cU:decB s=some o↔opE o=0/\bytesB o=s:=by
 unfold decB;constructor
 ·intro h;split at h
  ·cases h
  ·split at h
   ·injection h with h;subst h;assumption
   ·cases h
 ·rintro⟨h,rfl⟩;obtain⟨b,f,c⟩:=iW h;have d:=Bm.cS (aO.1 h).2.2.1;rw[aJ] at d;have e:=bK (n:=(o.2.2.1.size:Int)) (by omega) (by omega);rw[if_neg (by rw[c];omega),b,if_pos ⟨h,rfl⟩]
theorem lA(h:opE o=0):6<=(bytesB o).length/\(bytesB o).length<=140:=by
 obtain⟨_,e,b,c⟩:=aO.1 h;obtain⟨_,_,_,f,_⟩:=bB.1 c;have d:=Bm.cS b;rw[aJ] at d;rw[gE];constructor
 ·omega
 ·split<;>split<;>omega
def eachB (l:List Ox):List UInt8:=l.flatMap fun o=>b2 (bytesB o).length++bytesB o
def packB (l:List Ox):List UInt8:=b2 l.length++eachB l
def firstE (l:List Ox):Int:=match l.find? (fun o=>decide (opE o≠0)) with
 | some o=>opE o
 | none=>0
def packE (l:List Ox):Int:=if 400<l.length then 4 else firstE l
theorem iM(o:Ox)(l:List Ox):eachB (o::l)=b2 (bytesB o).length++bytesB o++eachB l:=rfl
theorem nT(a b:List Ox):eachB (a++b)=eachB a++eachB b:=by unfold eachB;rw[vA]
theorem pU:firstE l=0↔∀o ∈ l,opE o=0:=by
 unfold firstE
 cases h:l.find? (fun o=>decide (opE o≠0)) with
 | some o=>
  have b:=yR h
  have a:=List.find?_some h
  simp only[decide_eq_true_eq] at a
  exact⟨fun e=>absurd e a,fun e=>absurd (e o b) a⟩
 | none=>
  rw[List.find?_eq_none] at h
  refine⟨fun _ o ho=> ?_,fun _=>rfl⟩
  have:=h o ho
  simpa using this
theorem dC:packE l=0↔l.length<=400/\∀o ∈ l,opE o=0:=by
 unfold packE;by_cases h:400<l.length
 ·rw[if_pos h];exact⟨fun e=>absurd e (by decide),fun e=>by omega⟩
 ·rw[if_neg h,pU];exact⟨fun e=>⟨by omega,e⟩,fun e=>e.2⟩
def manyB:Nat→List UInt8→Option (List Ox × List UInt8)
 | 0,s=>some ([],s)
 | k+1,s=>
  if s.length<2∨s.length<2+(((s.getD 0 0).toNat:Nat)*256+(s.getD 1 0).toNat) then none
  else match decB ((s.drop 2).take ((s.getD 0 0).toNat*256+(s.getD 1 0).toNat)) with
   | none=>none
   | some o=>match manyB k (s.drop (2+((s.getD 0 0).toNat*256+(s.getD 1 0).toNat))) with
    | none=>none
    | some (l,r)=>some (o::l,r)
def unpB (s:List UInt8):Option (List Ox):=
 if s.length<2∨400<(s.getD 0 0).toNat*256+(s.getD 1 0).toNat then none
 else match manyB ((s.getD 0 0).toNat*256+(s.getD 1 0).toNat) (s.drop 2) with
  | some (l,[])=>some l
  | _=>none
theorem aC6{n:Nat}(h:n<=65535):(u8 ((n:Int)/256)).toNat*256+(u8 ((n:Int)%256)).toNat=n:=by
 have:=aBV (n:=(n:Int)) (by omega) (by omega);omega
theorem aAv(s:List UInt8)(h:2<=s.length):s=b2 (((s.getD 0 0).toNat*256+(s.getD 1 0).toNat:Nat):Int)++s.drop 2:=by
 match s,h with
 | a::b::r,_=>
  simp only[List.getD_cons_zero,List.getD_cons_succ]
  have:=aHU a b
  rw[show(((a.toNat*256+b.toNat:Nat):Int))=(a.toNat:Int)*256+(b.toNat:Int) by omega,this]
  rfl
theorem lN:∀{k:Nat} {s r:List UInt8} {l:List Ox},manyB k s=some (l,r)↔l.length=k/\(∀o ∈ l,opE o=0)/\eachB l++r=s
 | 0,s,r,l=>by
  unfold manyB
  constructor
  ·intro h
   injection h with h
   injection h with h1 h2
   subst h1 h2
   exact⟨rfl,by simp,rfl⟩
  ·rintro⟨h1,_,h3⟩
   have:l=[]:=qK h1
   subst this
   rw[<-h3];rfl
 | k+1,s,r,l=>by
  unfold manyB
  constructor
  ·intro h
   split at h
   ·cases h
   ·rename_i h0
    split at h
    ·cases h
    ·rename_i o ho
     split at h
     ·cases h
     ·rename_i l2 r2 hm
      injection h with h
      injection h with h1 h2
      subst h1 h2
      obtain⟨g1,g2,g3⟩:=lN.1 hm
      obtain⟨d1,d2⟩:=cU.1 ho
      refine⟨by simp[g1], ?_, ?_⟩
      ·intro x hx
       rcases jD.1 hx with rfl | hx
       ·exact d1
       ·exact g2 x hx
      ·have e2:=aAv s (by omega)
       obtain⟨n,hn⟩:=zx ((s.getD 0 0).toNat*256+(s.getD 1 0).toNat)
       rw[<-hn] at e2 d2 g3 h0
       have hlen:(bytesB o).length=n:=by rw[d2,qQ,xH];omega
       rw[iM,vJ,g3,hlen,d2,vJ,<-vN,xD]
       exact e2.symm
  ·rintro⟨h1,h2,h3⟩
   match l,h1 with
   | o::l2,h1=>
    have ho:=h2 o (xA ..)
    have hb:=lA ho
    have hs:s=u8 (((bytesB o).length:Int)/256)::u8 (((bytesB o).length:Int)%256)::(bytesB o++(eachB l2++r)):=by
     rw[<-h3,iM,vJ,vJ];rfl
    have a:=aC6 (n:=(bytesB o).length) (by omega)
    have b:(s.getD 0 0).toNat*256+(s.getD 1 0).toNat=(bytesB o).length:=by rw[hs];exact a
    rw[b]
    have d:s.length=2+((bytesB o).length+(eachB l2++r).length):=by rw[hs];simp only[qV,qE];omega
    have c:(s.drop 2).take (bytesB o).length=bytesB o:=by rw[hs];exact List.take_left
    have e2:s.drop (2+(bytesB o).length)=eachB l2++r:=by rw[<-vN,hs];exact List.drop_left
    rw[if_neg (by omega),c,cU.2 ⟨ho,rfl⟩]
    have hm:manyB k (s.drop (2+(bytesB o).length))=some (l2,r):=lN.2 ⟨by simpa using h1,fun x hx=>h2 x (jO _ hx),e2.symm⟩
    simp only[hm]
theorem uI:unpB s=some l↔packE l=0/\packB l=s:=by
 unfold unpB;rw[dC];constructor
 ·intro h;split at h
  ·cases h
  ·rename_i h0;split at h
   ·rename_i l2 a;injection h with h
    subst h;obtain⟨d,e,c⟩:=lN.1 a;refine⟨⟨by omega,e⟩, ?_⟩;rw[vY] at c;unfold packB;rw[c,d];exact(aAv s (by omega)).symm
   ·cases h
 ·rintro⟨⟨k,f⟩,g⟩;have b:s=u8 ((l.length:Int)/256)::u8 ((l.length:Int)%256)::eachB l:=by rw[<-g];rfl
  have i:=aC6 (n:=l.length) (by omega);have j:(s.getD 0 0).toNat*256+(s.getD 1 0).toNat=l.length:=by rw[b];exact i
  rw[j];have m:s.length=2+(eachB l).length:=by rw[b];simp only[qV];omega
  have a:manyB l.length (s.drop 2)=some (l,[]):=lN.2 ⟨rfl,f,by rw[vY,b];rfl⟩;rw[if_neg (by omega),a]
end Om
namespace Oa
open Om
def six (x:Ox) (v:Value):List Value:=[.int .i64 x.1.1,.int .i64 x.1.2,.int .i64 x.2.1,.string x.2.2.1,.int .i64 x.2.2.2.1,v]
def flatO (l:List (Ox × Value)):List Value:=l.flatMap fun y=>six y.1 y.2
theorem eH(a b:List (Ox × Value)):flatO (a++b)=flatO a++flatO b:=by unfold flatO;rw[vA]
theorem fL:∀l:List (Ox × Value),(flatO l).length=l.length*6
 | []=>rfl
 | x::l=>by
  have:=fL l
  unfold flatO at this |-
  rw[vR,qE,this]
  simp[six];omega
theorem oC:∀{l:List (Ox × Value)} {j:Nat} {y:Ox × Value},l[j]? =some y->∀i u,(six y.1 y.2)[i]? =some u->(flatO l)[j*6+i]? =some u
 | [],j,y,h,i,u,hu=>by simp at h
 | x::l,0,y,h,i,u,hu=>by
  simp only[List.getElem?_cons_zero,Option.some.injEq] at h
  subst h
  have hi:=(jK.1 hu).1
  unfold flatO
  rw[vR,Nat.zero_mul,qY,xS hi]
  exact hu
 | x::l,j+1,y,h,i,u,hu=>by
  have h2:l[j]? =some y:=by simpa using h
  have e:∀i,(flatO (x::l))[i+6]? =(flatO l)[i]? :=fun i=>by
   unfold flatO
   rw[vR,jG (by simp[six])]
   simp[six]
  rw[show(j+1)*6+i=j*6+i+6 by omega,e]
  exact(oC h2 i u hu)
def OAt (w:World) (b o j:Nat) (x:Ox):Prop:=∃v,(w.cell? ⟨b,o+j*6,none⟩=some (.int .i64 x.1.1)∧w.cell? ⟨b,o+j*6+1,none⟩=some (.int .i64 x.1.2)∧w.cell? ⟨b,o+j*6+2,none⟩=some (.int .i64 x.2.1)∧w.cell? ⟨b,o+j*6+3,none⟩=some (.string x.2.2.1)∧w.cell? ⟨b,o+j*6+4,none⟩=some (.int .i64 x.2.2.2.1)∧w.cell? ⟨b,o+j*6+5,none⟩=some v)∧DtsAt w v x.2.2.2.2
def OpsIn (w:World) (p:Option Addr) (l:List Ox):Prop:=
 l=[]∨∃b o,p=some ⟨b,o,none⟩∧∀j,j<l.length→OAt w b o j (l.getD j oz)
theorem OAt.lt{w:World}{b o j:Nat}{x:Ox}(h:OAt w b o j x):b<w.heap.size:=by
 obtain⟨v,h,_⟩:=h;exact qJ _ ⟨b,o+j*6,none⟩ h.1
theorem OAt.below{w w':World}{b o j:Nat}{x:Ox}(h:OAt w b o j x)(hb:zB w w'):OAt w' b o j x:=by
 have a:=h.lt;obtain⟨v,⟨c,d,e,f,g,i⟩,k⟩:=h;exact⟨v,⟨(hb.cell (p:=⟨b,o+j*6,none⟩) a).trans c,(hb.cell (p:=⟨b,o+j*6+1,none⟩) a).trans d,(hb.cell (p:=⟨b,o+j*6+2,none⟩) a).trans e,(hb.cell (p:=⟨b,o+j*6+3,none⟩) a).trans f,(hb.cell (p:=⟨b,o+j*6+4,none⟩) a).trans g,(hb.cell (p:=⟨b,o+j*6+5,none⟩) a).trans i⟩,k.below hb⟩
theorem OpsIn.below{w w':World}{p:Option Addr}{l:List Ox}(h:OpsIn w p l)(hb:zB w w'):OpsIn w' p l:=by
 rcases h with h | ⟨b,o,hp,hc⟩
 ·exact qH h
 ·exact qF ⟨b,o,hp,fun j hj=>(hc j hj).below hb⟩
theorem OpsIn.some{w:World}{p:Option Addr}{l:List Ox}(h:OpsIn w p l)(hl:l≠[]):∃b o,p=some ⟨b,o,none⟩∧∀j,j<l.length→OAt w b o j (l.getD j oz):=by
 rcases h with h | h
 ·exact absurd h hl
 ·exact h
def OpsAt (w:World) (v:Value) (l:List Ox):Prop:=∃p c,v=.slice p l.length c∧OpsIn w p l∧l.length≤c∧c≤maxLen∧(p=none→c=0)
theorem OpsAt.below{w w':World}{v:Value}{l:List Ox}(h:OpsAt w v l)(hb:zB w w'):OpsAt w' v l:=by
 obtain⟨p,c,a,b,d⟩:=h;exact⟨p,c,a,b.below hb,d⟩
theorem OpsAt.nil(w:World):OpsAt w (.slice none 0 0) []:=⟨none,0,rfl,qH rfl,qC _,by unfold maxLen;omega,fun _=>rfl⟩
theorem cP{l:List Ox}{j:Nat}(hj:j<l.length):l.getD j oz ∈ l:=by
 rw[qA,qB hj];exact jF hj
theorem oD{w:World}{base:Nat}{t:TypeId}{v:Value}{n:Nat}{l:List (Ox × Value)}(h:w.ownsRow base t 6 v n (flatO l))(hd:∀y ∈ l,DtsAt w y.2 y.1.2.2.2.2):OpsAt w v (l.map (·.1)):=by
 have d:l.length=n:=by have:=h.1;rw[fL] at this;omega
 have f:(l.map (·.1)).length=n:=by rw[jM];exact d
 rcases h.2 with⟨rfl,h0⟩ | ⟨g,cap,cur,rfl,_,h2,h3,h4,h5,h6⟩
 ·subst h0;have:l=[]:=qK d;subst this;exact OpsAt.nil w
 ·refine⟨some (zA g),cap,by rw[f],qF ⟨g,0,rfl,fun j hj=> ?_⟩,by rw[f];exact h3,h4,fun e=>by cases e⟩;have c:j<l.length:=by rwa [jM] at hj
  have a:∀i u,(flatO l)[i]? =some u->w.cell? ⟨g,0+i,none⟩=some u:=by
   intro i u hu;have k:i<n*6:=by rw[<-d,<-fL];exact(jK.1 hu).1
   rw[<-h6,jC k] at hu;rw[qY];simp only[World.cell?,h2];simpa using hu
  have m:(l.map (·.1)).getD j oz=l[j].1:=by
   rw[qA,qT,qB c];rfl
  rw[m];have b:=fun i u=>oC (l:=l) (j:=j) (y:=l[j]) (qB c) i u
  refine⟨l[j].2,⟨?_, ?_, ?_, ?_, ?_, ?_⟩,hd _ (jF c)⟩
  ·have:=a _ _ (b 0 _ rfl);rwa [show 0+(j*6+0)=0+j*6 by omega] at this
  ·have:=a _ _ (b 1 _ rfl);rwa [show 0+(j*6+1)=0+j*6+1 by omega] at this
  ·have:=a _ _ (b 2 _ rfl);rwa [show 0+(j*6+2)=0+j*6+2 by omega] at this
  ·have:=a _ _ (b 3 _ rfl);rwa [show 0+(j*6+3)=0+j*6+3 by omega] at this
  ·have:=a _ _ (b 4 _ rfl);rwa [show 0+(j*6+4)=0+j*6+4 by omega] at this
  ·have:=a _ _ (b 5 _ rfl);rwa [show 0+(j*6+5)=0+j*6+5 by omega] at this
def uP (x:Ox) (v:Value):Value:=.agg #[.int .i64 x.1.1,.int .i64 x.1.2,.int .i64 x.2.1,.string x.2.2.1,.int .i64 x.2.2.2.1,v]
def OpV (w:World) (u:Value) (x:Ox):Prop:=∃v,u=uP x v∧DtsAt w v x.2.2.2.2
end Oa
namespace Oz
open La (bel)
variable {W W':World}{v:Value}{s:List Dt}
theorem aA{p:Addr}(hb:zB W W')(h:W.cell? p=some v):W'.cell? p=some v:=(hb.cell (qJ _ _ h)).trans h
theorem bG{x:Int}(h1: -1000000<=x)(h2:x<=1000000):IntKind.i64.wrap x=x:=by
 rw[IntKind.wrap_i64];omega
theorem bE{w wr w2:World}{o:Obj}(h:zB w wr)(hb:Below (wr.alloc o).heap.size (wr.alloc o) w2):zB w w2:=bel (h.alloc h.size o) hb
theorem gI:∀{s:List Dt} {k:Nat},k<s.length->(∀j,j<k->dotE (s.getD j noneD).1 (s.getD j noneD).2=0)->dotE (s.getD k noneD).1 (s.getD k noneD).2≠0->dotsE s=dotE (s.getD k noneD).1 (s.getD k noneD).2:=by
 intro s k hk h1 h2
 have b:∀(s:List Dt) (k:Nat),k<s.length->(∀j,j<k->dotE (s.getD j noneD).1 (s.getD j noneD).2=0)->dotE (s.getD k noneD).1 (s.getD k noneD).2≠0->s.find? (fun d=>decide (dotE d.1 d.2≠0))=some (s.getD k noneD):=by
  intro s
  induction s with
  | nil=>intro k hk;simp at hk
  | cons y s ih=>
   intro k hk h1 h2
   cases k with
   | zero=>
    have a:=h2
    rw[yC (by simpa using a)];rfl
   | succ k=>
    have a:=h1 0 (by omega)
    rw[yN (by simpa using a)]
    exact ih k (by simpa using hk) (fun j hj=>h1 (j+1) (by omega)) h2
 unfold dotsE
 rw[b s k hk h1 h2]
theorem all_zero(h:∀j,j<s.length->dotE (s.getD j noneD).1 (s.getD j noneD).2=0):∀d ∈ s,dotE d.1 d.2=0:=by
 intro d hd;obtain⟨j,a,e⟩:=yA.1 hd;have:=h j a;rw[qA,qB a] at this;simp only[xT] at this;rw[e] at this;exact this
theorem dotsE_cases(h:∀d ∈ s,dotE d.1 d.2=0):dotsE s=0\/dotsE s=7:=by
 unfold dotsE
 cases hf:s.find? (fun d=>decide (dotE d.1 d.2≠0)) with
 | some d=>
  have b:=yR hf
  have a:=List.find?_some hf
  simp only[decide_eq_true_eq] at a
  exact absurd (h d b) a
 | none=>simp only[];split<;>simp
theorem gL{m:Nat}(h:∀d ∈ s,dotE d.1 d.2=0)(hm:m+1<s.length)(h2:dlt (s.getD m noneD) (s.getD (m+1) noneD)=false):dotsE s=7:=by
 rcases dotsE_cases h with e | e
 ·have b:=(dQ.1 e).2;have a:=(eV dH).1 b m hm (s.getD m noneD) (s.getD (m+1) noneD) (by rw[qA,qB (by omega)];rfl) (by rw[qA,qB hm];rfl);rw[h2] at a;cases a
 ·exact e
theorem nQ(h:∀d ∈ s,dotE d.1 d.2=0)(h2:∀m,m+1<s.length->dlt (s.getD m noneD) (s.getD (m+1) noneD)=true):dotsE s=0:=by
 refine dQ.2 ⟨h,(eV dH).2 fun i hi a b ha hb=> ?_⟩;have:=h2 i hi;rw[qA,qA,ha,hb] at this;exact this
def Six (W:World) (h:Nat) (a b t:Int) (p:ByteArray) (c:Int) (v:Value):Prop:=
 W.cell? ⟨h,0,none⟩=some (.int .i64 a)∧W.cell? ⟨h,1,none⟩=some (.int .i64 b)∧W.cell? ⟨h,2,none⟩=some (.int .i64 t)∧W.cell? ⟨h,3,none⟩=some (.string p)∧W.cell? ⟨h,4,none⟩=some (.int .i64 c)∧W.cell? ⟨h,5,none⟩=some v
theorem aT(w:World)(a b t:Int)(p:ByteArray)(c:Int)(v:Value)(T:TypeId):Six (w.alloc (.cells #[.int .i64 a,.int .i64 b,.int .i64 t,.string p,.int .i64 c,v] T)) w.heap.size a b t p c v:=by
 refine⟨?_, ?_, ?_, ?_, ?_, ?_⟩<;>(simp only[World.cell?,(heap_alloc_new w (.cells #[zI a,zI b,zI t,.string p,zI c,v] T))];rfl)
theorem Six.below{h:Nat}{a b t:Int}{p:ByteArray}{c:Int}(s:Six W h a b t p c v)(hb:zB W W'):Six W' h a b t p c v:=by
 obtain⟨d,e,f,g,i,j⟩:=s;exact⟨aA hb d,aA hb e,aA hb f,aA hb g,aA hb i,aA hb j⟩
end Oz
namespace Oc
open Om
open La (aS own_below)
theorem uB:(prog.info? 5).map (fun i=>(i.zero,i.size,i.bytes))=some (some (.int .u8 0),1,1):=by kernel_rfl
def bc (l:List UInt8):List Value:=l.map fun x=>Value.int .u8 (x.toNat:Int)
theorem iF(l:List UInt8):(bc l).length=l.length:=by simp[bc]
theorem lK(a b:List UInt8):bc (a++b)=bc a++bc b:=by simp[bc]
theorem aB0(l:List UInt8):∀u ∈ bc l,u.oneCell'=true:=by
 intro u hu;obtain⟨x,_,rfl⟩:=xV.1 hu;rfl
variable {l:List UInt8}{j B:Nat}{v:Value}{ops:Array Oper}{rest:List Oper}{o:Oper}{a:Act}{Q:Exit->Act->World->Prop}(w wr:World)
theorem pS{u:Value}(h:(bc l)[j]? =some u):∃hj:j<l.length,u=.int .u8 (l[j].toNat:Int):=by
 simp only[bc,qT,kG] at h;obtain⟨x,a,rfl⟩:=h;obtain⟨hj,rfl⟩:=jK.1 a;exact⟨hj,rfl⟩
theorem aI8(hj:j<l.length):(bc l)[j]? =some (.int .u8 ((l.getD j 0).toNat:Int)):=by
 rw[bc,qT,qB hj,qA,qB hj];rfl
theorem eL(g j:Nat):(⟨g,0,none⟩:Addr).add j=⟨g,j,none⟩:=by
 unfold Addr.add;by_cases h:j=0<;>simp[h]
def Row (w:World) (B:Nat) (v:Value) (l:List UInt8):Prop:=w.ownsRow B 5 1 v l.length (bc l)
theorem Row.nil(B:Nat):Row w B (.slice none 0 0) []:=jT _ _ _ _
theorem Row.alloc{w:World}{B:Nat}{v:Value}{l:List UInt8}(h:Row w B v l)(o:Obj):Row (w.alloc o) B v l:=World.ownsRow.alloc h o
theorem Row.below{w w2:World}(h:Row w B v l)(hb:zB w w2):Row w2 B v l:=own_below h hb
theorem Row.slice{w:World}{B:Nat}{v:Value}{l:List UInt8}(h:Row w B v l):∃p c,v=.slice p l.length c/\(l≠[]->∃g,p=some ⟨g,0,none⟩/\B<=g)/\∀g,p=some ⟨g,0,none⟩->∀j,j<l.length->w.cell? ⟨g,j,none⟩=some (.int .u8 ((l.getD j 0).toNat:Int)):=by
 have a:=h;obtain⟨_,d⟩:=h;rcases d with⟨e,e0⟩ | ⟨g,cap,cur,rfl,hg,_⟩
 ·refine⟨none,0,by rw[e,e0],fun hne=>absurd (qK e0) hne,fun g hg=>by cases hg⟩
 ·refine⟨some (zA g),cap,rfl,fun _=>⟨g,rfl,hg⟩,fun g2 e j hj=> ?_⟩;injection e with e
  injection e with e
  subst e;have:=World.ownsRow.cells a (g:=g) rfl j _ (aI8 hj);rwa [eL] at this
theorem Row.shape{w:World}(h:Row w B v l):∃p n c,v=.slice p n c/\Hid (n=l.length):=by
 obtain⟨p,c,rfl,_⟩:=h.slice;exact⟨p,_,c,rfl,rfl⟩
theorem Row.reads{w:World}(h:Row w B v l)(hl:l≠[]):(convert 86 9 v).run prog w=.ok (.string ⟨l.toArray⟩) w:=by
 obtain⟨p,c,rfl,a,b⟩:=h.slice;obtain⟨g,rfl,_⟩:=a hl;refine run_convert_bytes_back (P:=prog) w 86 9 5 (zA g) c l Tryz.underlying86 Tryz.underlying5 Tryz.underlying9 ?_;intro j hj;rw[eL,b g rfl j hj,qA,qB hj];rfl
theorem aIk{x:Int}(h:0<=x):IntKind.u8.wrap x=((u8 x).toNat:Int):=by
 rw[IntKind.wrap_u8];unfold u8;rw[yP];omega
theorem aC3(x:Value)(t:TypeId):(w.alloc (.cells #[x] t)).cell? ⟨w.heap.size,0,none⟩=some x:=by
 simp only[World.cell?,(heap_alloc_new w (.cells #[x] t))];rfl
theorem pT(hgd:o.guard=none)(sO xO:Operand)(ho:o.op=.call { callee:=.builtin .append,args:=#[sO,xO],argTypes:=#[86,86] })(B:Nat)(v:Value)(l m:List UInt8)(hs:a.eval sO=v)(hown:Row w B v l)(h0 c:Nat)(hx:a.eval xO=.slice (some ⟨h0,0,none⟩) m.length c)(hnew:∀j,j<m.length->w.cell? ⟨h0,j,none⟩=some (.int .u8 ((m.getD j 0).toNat:Int)))(hlen:l.length+m.length<=1000000000)(hB:B<=w.heap.size)(h:∀v' w',Row w' B v' (l++m)->Below B w w'->B<=w'.heap.size->wpList prog ops Q rest (a.put o.dst v') w'):
  wpList prog ops Q (o::rest) a w:=by
 obtain⟨g,i,b,d,e⟩:=info_parts uB;refine wpList_append_own_at w hgd sO xO 86 ho B 5 g (.int .u8 0) 1 1 Tryz.underlying86 i b d e rfl (by decide) v l.length (bc l) hs hown (zA h0) m.length c (bc m) hx (by rw[iF];omega) ?_ (aB0 m) (by unfold maxLen;omega) (by omega) hB ?_
 ·intro j u hu;obtain⟨f,rfl⟩:=pS hu;rw[eL,hnew j f,qA,qB f];rfl
 ·intro v' w' hown' hg _ _;refine h v' w' ?_ (aS hown (qD _ _) hg hB) (qO hB hg.size);unfold Row;rw[qE,lK];exact hown'
theorem aQ(hgd:o.guard=none)(sO xO:Operand)(ho:o.op=.call { callee:=.builtin .append,args:=#[sO,xO],argTypes:=#[86,86] })(B:Nat)(v:Value)(l:List UInt8)(x:Int)(c:UInt8)(t:TypeId)(hs:a.eval sO=v)(hown:Row wr B v l)(h0:Nat)(hx:a.eval xO=.slice (some ⟨h0,0,none⟩) 1 1)(hh:h0=wr.heap.size)(hc:x=(c.toNat:Int))(hlen:l.length+1<=1000000000)(hB:B<=wr.heap.size)(h:∀v' w',Row w' B v' (l++[c])->Below B wr w'->B<=w'.heap.size->wpList prog ops Q rest (a.put o.dst v') w'):
  wpList prog ops Q (o::rest) a (wr.alloc (.cells #[.int .u8 x] t)):=by
 subst hh;refine pT _ hgd sO xO ho B v l [c] hs (hown.alloc _) wr.heap.size 1 hx ?_ hlen (by simp;omega) ?_
 ·intro j hj;have b:j=0:=by simpa using hj
  subst b;rw[aC3,hc];rfl
 ·intro v' w' h1 h2 h3;exact h v' w' h1 (((qD B wr).alloc hB _).trans h2) h3
theorem tB(s:ByteArray)(C:Nat)(f:Nat × Nat)(j:Nat)(hj:j<s.toList.length):
  (w.alloc (.cells (bytesRow s C) 5 f)).cell? ⟨w.heap.size,j,none⟩=some (.int .u8 ((s.toList.getD j 0).toNat:Int)):=by
 have b:(w.alloc (.cells (bytesRow s C) 5 f)).heap[w.heap.size]? =some (.cells (bytesRow s C) 5 f):=heap_alloc_new w _;have a:j<s.data.size:=by rw[(Om.aJ s)] at hj;exact hj
 simp only[World.cell?,b];rw[qA,qB hj];simp only[bytesRow,Array.getElem?_append,Array.size_map,ByteArray.toList_eq,Array.getElem_toList];rw[if_pos a,Array.getElem?_map,yT a];rfl
theorem gH(hgd:o.guard=none)(sO xO:Operand)(ho:o.op=.call { callee:=.builtin .append,args:=#[sO,xO],argTypes:=#[86,86] })(B:Nat)(v:Value)(l:List UInt8)(s:ByteArray)(C:Nat)(f:Nat × Nat)(hs:a.eval sO=v)(hown:Row wr B v l)(h0:Nat)(hx:a.eval xO=.slice (some ⟨h0,0,none⟩) s.size C)(hh:h0=wr.heap.size)(hlen:l.length+s.size<=1000000000)(hB:B<=wr.heap.size)(h:∀v' w',Row w' B v' (l++s.toList)->Below B wr w'->B<=w'.heap.size->wpList prog ops Q rest (a.put o.dst v') w'):
  wpList prog ops Q (o::rest) a (wr.drew.alloc (.cells (bytesRow s C) 5 f)):=by
 subst hh;have c:=Om.aJ s;have b:zB wr (wr.drew.alloc (.cells (bytesRow s C) 5 f)):=(qD wr.heap.size wr).drew.alloc (qC _) _;refine pT _ hgd sO xO ho B v l s.toList hs (hown.below b) wr.heap.size C (by rw[c];exact hx) ?_ (by omega) (qO hB b.size) ?_
 ·intro j hj;exact tB wr.drew s C f j hj
 ·intro v' w' h1 h2 h3;exact h v' w' h1 ((b.mono hB).trans h2) h3
end Oc
namespace Og
structure Only (g:Nat) (w w':World):Prop where
 os:w'.os=w.os
 tape:w'.tape=w.tape
 output:w'.output=w.output
 size:w'.heap.size=w.heap.size
 block:∀k,k≠g→w'.heap[k]? =w.heap[k]?
variable {g:Nat}{w:World}{v:Value}{cur:Array Value}{t:TypeId}{f:Nat × Nat}
theorem Only.below{B:Nat}{w':World}(h:Only g w w')(hB:B<=g):Below B w w':=⟨h.os,h.tape,h.output,Nat.le_of_eq h.size.symm,fun k hk=>h.block k (by omega)⟩
theorem only_setCell(w:World)(g i:Nat)(v:Value):Only g w (w.setCell ⟨g,i,none⟩ v):=
 ⟨rfl,rfl,rfl,by simp[World.setCell],fun k hk=>Below.heap_setCell _ _ _ _ (by simpa using hk)⟩
theorem setCell_heap{i:Nat}(hg:w.heap[g]? =some (.cells cur t f)):(w.setCell ⟨g,i,none⟩ v).heap[g]? =some (.cells (cur.setIfInBounds i v) t f):=by
 simp[World.setCell,kI,hg]
theorem cell_of{i:Nat}(hg:w.heap[g]? =some (.cells cur t f))(hv:cur[i]? =some v):w.cell? ⟨g,i,none⟩=some v:=by
 simp only[World.cell?,hg];exact hv
theorem aI{i:Nat}(hg:w.heap[g]? =some (.cells cur t (0,0))):w.frozen? ⟨g,i,none⟩=false:=by
 simp[World.frozen?,hg]
def numAt (l:List UInt8) (i:Nat):Nat:=(l.getD i 0).toNat*256+(l.getD (i+1) 0).toNat
theorem aAV(l:List UInt8)(i:Nat):numAt l i<=65535:=by
 unfold numAt;have a:(l.getD i 0).toNat<256:=jX _;have b:(l.getD (i+1) 0).toNat<256:=jX _;omega
theorem eD(s:ByteArray)(i:Nat)(h:i<s.size):s.toList.getD i 0=s[i]:=by
 rw[ByteArray.toList_eq,qA];have a:=h;rw[qB a,Array.getElem_toList];rfl
end Og
namespace Oi
open Om Oa Og
variable {w w':World}{base z n:Nat}{t:TypeId}{v:Value}{xs:List Value}(s:ByteArray)(l:List UInt8)(i j k:Nat)
theorem bY:(s.extract i j).toList=(s.toList.take j).drop i:=by
 rw[ByteArray.toList_eq,ByteArray.toList_eq,yD,Array.toList_extract,List.extract_eq_take_drop];rw[kL]
theorem size_extract(h:j<=s.size):(s.extract i j).size=j-i:=by
 rw[<-Om.aJ,bY,xH,qQ,Om.aJ];omega
theorem dU:(s.extract i s.size).toList=s.toList.drop i:=by
 rw[bY,<-Om.aJ,yJ]
theorem mk_eq{a b:ByteArray}(h:a.toList=b.toList):a=b:=by rw[<-pL a,<-pL b,h]
theorem mD:∀(m:Nat) (r:List UInt8),(threes m r).length=min m (r.length/3)
 | 0,r=>by cases r<;>simp[threes]
 | m+1,[]=>by simp[threes]
 | m+1,[a]=>by simp[threes]
 | m+1,[a,b]=>by simp[threes]
 | m+1,a::b::c::r=>by
  simp only[threes,qV,mD m r]
  omega
theorem wM:∀(m:Nat) (r:List UInt8) (k:Nat),k<(threes m r).length->(threes m r).getD k noneD=(((r.getD (3*k) 0).toNat:Int),((numAt r (3*k+1):Nat):Int))
 | 0,r,k,h=>by cases r<;>simp[threes] at h
 | m+1,[],k,h=>by simp[threes] at h
 | m+1,[a],k,h=>by simp[threes] at h
 | m+1,[a,b],k,h=>by simp[threes] at h
 | m+1,a::b::c::r,0,h=>by
  simp only[threes,List.getD_cons_zero,Nat.mul_zero,qY,numAt,List.getD_cons_succ]
  congr 1
 | m+1,a::b::c::r,k+1,h=>by
  have h2:k<(threes m r).length:=by simpa[threes] using h
  simp only[threes,List.getD_cons_succ,(wM m r k h2),numAt]
  rw[show 3*(k+1)=3*k+1+1+1 by omega]
  simp only[List.getD_cons_succ]
theorem aHu(E:Nat)(a b t:Int)(P R:ByteArray)(h4:4<s.size)(hE:(5:Int)+(s[4].toNat:Int)=(E:Int))(ht:(s[0].toNat:Int)=t)(ha:(s[1].toNat:Int)=a)(hb:((numAt s.toList 2:Nat):Int)=b)(hP:s.extract 5 E=P)(hR:s.extract E s.size=R)(hEs:E<=s.size):
  readB s.toList=((a,b),t,P,letterIn t R.toList,seenIn t R.toList):=by
 have d:=eD s 0 (by omega);have e:=eD s 1 (by omega);have c:5+s[4].toNat=E:=by omega
 have f:s.toList.drop E=R.toList:=by rw[<-hR,dU]
 have g:(⟨((s.toList.drop 5).take s[4].toNat).toArray⟩:ByteArray)=P:=by
  apply mk_eq;rw[<-hP,bY,toList_mk,kL,show E-5=s[4].toNat by omega]
 have h:((s.toList.getD 2 0).toNat:Int)*256+((s.toList.getD 3 0).toNat:Int)=b:=by rw[<-hb];show _=(((s.toList.getD 2 0).toNat*256+(s.toList.getD 3 0).toNat:Nat):Int);omega
 unfold readB;rw[(eD s 4 h4),d,e,c,f,g,h,ht,ha]
theorem fT(h:w.ownsRow base t z v n xs)(hs:∀k,base<=k->k<w.heap.size->w'.heap[k]? =w.heap[k]?):w'.ownsRow base t z v n xs:=by
 refine⟨h.1, ?_⟩;rcases h.2 with h0 | ⟨g,cap,cur,h1,h2,h3,h4⟩
 ·exact qH h0
 ·refine qF ⟨g,cap,cur,h1,h2, ?_,h4⟩
  have a:g<w.heap.size:=by
   rcases xR g w.heap.size with e | e
   ·exact e
   ·rw[jQ e] at h3;cases h3
  rw[hs g h2 a];exact h3
theorem set_block(w:World)(p:Addr)(v:Value)(k:Nat)(h:k≠p.block):(w.setCell p v).heap[k]? =w.heap[k]? :=Below.heap_setCell _ _ _ _ h
theorem rR(w:World)(a b:Int)(t:TypeId):∀j u,(flatD [(a,b)])[j]? =some u->(w.alloc (.cells #[.int .i64 a,.int .i64 b] t)).cell? ((⟨w.heap.size,0,none⟩:Addr).add j)=some u:=by
 intro j u hu;have c:(w.alloc (.cells #[zI a,zI b] t)).heap[w.heap.size]? =some (.cells #[zI a,zI b] t):=heap_alloc_new w _;have e:flatD [(a,b)]=[zI a,zI b]:=rfl;rw[e] at hu;rw[jU,qY];simp only[World.cell?,c];simpa using hu
theorem lH{m:Nat}{a b:List Dt}(hn:a.length=n)(hm:b.length=m)(h:w.ownsRow base t 2 v (n+m) (flatD a++flatD b)):w.ownsRow base t 2 v (a++b).length (flatD (a++b)):=by
 rw[qE,nF,hn,hm];exact h
theorem own_at(h:w.ownsRow base t z v n xs)(hs:∀k,base<=k->k<w.heap.size->w'.heap[k]? =w.heap[k]?):w'.ownsRow base t z v n xs:=fT h hs
theorem aG(h:w.ownsRow base t z v n xs):∃p N c,v=.slice p N c/\Hid (N=n):=by
 rcases h.2 with⟨e,e0⟩ | ⟨g,cap,cur,h1,_⟩
 ·exact⟨none,0,0,e,e0.symm⟩
 ·exact⟨_,_,_,h1,rfl⟩
def Kept (B:Nat) (w':World) (u:Value) (x:Ox):Prop:=∀W:World,(∀k,B≤k→k<w'.heap.size→W.heap[k]? =w'.heap[k]?)→OpV W u x
theorem Kept.now{B:Nat}{u:Value}{x:Ox}(h:Kept B w' u x):OpV w' u x:=h w' (fun _ _ _=>rfl)
theorem rS:l.getD 0 0=l.headD 0:=by cases l<;>rfl
theorem tail_at:l.tail.getD k 0=l.getD (k+1) 0:=by cases l<;>simp
theorem tD:(prog.info? 80).map (fun i=>(i.zero,i.size,i.bytes))=some (some (.agg #[.int .i64 0,.int .i64 0]),2,16):=by kernel_rfl
end Oi
namespace Ov
open Ka Om Oa
def encS (x:Ox):ByteArray:=if opE x=0 then fI x else⟨#[]⟩
def packS (l:List Ox):ByteArray:=if packE l=0 then⟨(packB l).toArray⟩ else⟨#[]⟩
def aEg:Prop:=∀(a b t:Int) (p:ByteArray) (c:Int) (v:Value) (s:List Dt) (w:World),DtsAt w v s→p.size≤maxLen→
 Calls Tryz.prog 108 #[.agg #[.int .i64 a,.int .i64 b,.int .i64 t,.string p,.int .i64 c,v]] w fun e w'=>e=.returned (errV (opE ((a,b),t,p,c,s)))∧Below w.heap.size w w'
def aB3:Prop:=∀(a b t:Int) (p:ByteArray) (c:Int) (v:Value) (s:List Dt) (w:World),DtsAt w v s→p.size≤maxLen→
 Calls Tryz.prog 111 #[.agg #[.int .i64 a,.int .i64 b,.int .i64 t,.string p,.int .i64 c,v]] w fun e w'=>e=.returned (.tuple #[.string (encS ((a,b),t,p,c,s)),errV (opE ((a,b),t,p,c,s))])∧Below w.heap.size w w'
def aGT:Prop:=∀(v:Value) (l:List Ox) (w:World),OpsAt w v l→(∀x ∈ l,x.2.2.1.size≤maxLen)→
 Calls Tryz.prog 81 #[v] w fun e w'=>e=.returned (.tuple #[.string (packS l),errV (packE l)])∧Below w.heap.size w w'
theorem aCn{l:List Ox}{k:Nat}(hk:k<l.length):firstE (l.drop k)=if opE (l.getD k oz)≠0 then opE (l.getD k oz) else firstE (l.drop (k+1)):=by
 rw[xB hk,qA,qB hk,xT];unfold firstE;by_cases h:opE l[k]=0
 ·rw[if_neg (by simpa using h),yN (by simpa using h)]
 ·rw[if_pos h,yC (by simpa using h)]
end Ov
end Go.Proofs.YtjcemlmlfoilmaaGreatDoor
