import Derived.Test.YtjcemlmlfoilmaaGreatDoorJ6
set_option linter.unusedVariables false
set_option maxRecDepth 100000
set_option maxHeartbeats 8000000
namespace Go.Proofs.YtjcemlmlfoilmaaGreatDoor
open Go.RowKit Ka Go.WideShapes Cm Na Nc Nd Nf Np
open Go.Proofs.Tryz (prog)
namespace Wp
open Kb
theorem nO{s:ByteArray}(h12:¬12<s.size)(hall:s.toList.all Pm.isLet=true)(h2:2<=s.size):
  Pm.chk s.toList=if((s[s.size-1]'(by omega)).toNat:Int)<98 then 2 else if 105<((s[s.size-1]'(by omega)).toNat:Int) then 2 else if(((s[s.size-2]'(by omega)).toNat:Int)==97)=true then 2 else 0:=by
 have c:=iG s (by omega);unfold Pm.chk;rw[(aJ s),if_neg h12,if_neg (by omega),hall,(hU s h2)]
 have d:Pm.isWho (Pm.whoOf s.toList)=(decide (98<=((s[s.size-1]'(by omega)).toNat:Int))&&decide (((s[s.size-1]'(by omega)).toNat:Int)<=105)):=by
  unfold Pm.isWho Pm.whoOf;rw[c];rw[xP];simp;omega
 rw[d];generalize ((s[s.size-1]'(by omega)).toNat:Int)=x;generalize (((s[s.size-2]'(by omega)).toNat:Int)==97)=y;by_cases a:x<98
 ·rw[if_pos a,decide_eq_false (by omega)];cases y<;>simp
 ·rw[if_neg a,decide_eq_true (by omega)];by_cases b:105<x
  ·rw[if_pos b,decide_eq_false (by omega)];cases y<;>simp
  ·rw[if_neg b,decide_eq_true (by omega)];cases y<;>simp
theorem bM(s:ByteArray)(w:World)(hs:s.size≤maxLen):
  Calls prog 120 #[.string s] w fun e w'=>e=.returned (.int .i64 (Pm.chk s.toList))∧w'=w:=by
 have hl:=aJ s
 have hm:=hs
 unfold maxLen at hm
 by_cases h12:12<s.size
 ·have H:Hid (Pm.chk s.toList=4):=by unfold Hid Pm.chk;rw[hl,if_pos h12]
  clear hl
  go_in
  go_wp2
  go_ret
  exact⟨aV H.out.symm,rfl⟩
 ·have HB:Hid (s.toList.all Pm.isLet=false→Pm.chk s.toList=2):=by
   intro h3;unfold Pm.chk;rw[hl,if_neg h12,h3];simp
  have HL:Hid (s.size<2→Pm.chk s.toList=2):=by
   intro h3;unfold Pm.chk;rw[hl,if_neg h12,if_pos h3]
  clear hl
  go_in
  go_wp2
  go_loop [4] (fun i=>∃k:Nat,k≤s.size∧i=zI k∧Hid ((s.toList.take k).all Pm.isLet=true)) (fun i=>s.size-(intOf i).toNat)
  case atStart=>exact⟨0,jW _,rfl,by unfold Hid;simp⟩
  case round=>
   obtain⟨k,hk,rfl,HA⟩:=hrel
   by_cases hlt:k<s.size
   ·have hb:s[k].toNat<256:=jX _
    have HA1:Hid ((s.toList.take (k+1)).all Pm.isLet=Pm.isLet s[k]):=by
     unfold Hid;rw[fP s k hlt,yM,HA.out];simp
    have HA2:Hid (∀c,s.toList.all c=((s.toList.take (k+1)).all c&&(s.toList.drop (k+1)).all c)):=by
     intro c;rw[←yM,xD]
    have HLt:Hid (Pm.isLet s[k]=(!(decide ((s[k].toNat:Int)<97)||decide (122<(s[k].toNat:Int))))):=fM _
    by_cases h1:(s[k].toNat:Int)<97
    ·have H:=z9 (HB.out (by rw[HA2.out,HA1.out,HLt.out,decide_eq_true h1];rfl))
     go_wp2
     go_ret
     exact⟨aV H.out.symm,rfl⟩
    ·by_cases h2:122<(s[k].toNat:Int)
     ·have H:=z9 (HB.out (by rw[HA2.out,HA1.out,HLt.out,decide_eq_true h2,Bool.or_true];rfl))
      go_wp2
      go_ret
      exact⟨aV H.out.symm,rfl⟩
     ·go_wp2
      go_round
      case rel=>exact⟨k+1,by omega,by go_num,by unfold Hid;rw[HA1.out,HLt.out,decide_eq_false h1,decide_eq_false h2];rfl⟩
      case measure=>simp[intOf];omega
   ·have HAll:Hid (s.toList.all Pm.isLet=true):=by
     have:=HA.out
     unfold Hid;rwa [qW (by rw[aJ];omega)] at this
    by_cases h2:s.size<2
    ·have H:=z9 (HL.out h2)
     go_wp2
     go_ret
     exact⟨aV H.out.symm,rfl⟩
    ·have hq1:s.size-1<s.size:=by omega
     have hq2:s.size-2<s.size:=by omega
     have HC:=nO h12 HAll.out (by omega:2≤s.size)
     have HC':=z9 HC
     clear HC
     by_cases h3:((s[s.size-1]'hq1).toNat:Int)<98
     ·have H:Hid (Pm.chk s.toList=2):=by unfold Hid;rw[HC'.out,if_pos h3]
      go_wp2
      go_ret
      exact⟨aV H.out.symm,rfl⟩
     ·by_cases h4:105<((s[s.size-1]'hq1).toNat:Int)
      ·have H:Hid (Pm.chk s.toList=2):=by unfold Hid;rw[HC'.out,if_neg h3,if_pos h4]
       go_wp2
       go_ret
       exact⟨aV H.out.symm,rfl⟩
      ·cases h5:(((s[s.size-2]'hq2).toNat:Int)==97)
       ·have H:Hid (Pm.chk s.toList=0):=by unfold Hid;rw[HC'.out,if_neg h3,if_neg h4,h5];rfl
        go_wp2
        go_ret
        exact⟨aV H.out.symm,rfl⟩
       ·have H:Hid (Pm.chk s.toList=2):=by unfold Hid;rw[HC'.out,if_neg h3,if_neg h4,h5];rfl
        go_wp2
        go_ret
        exact⟨aV H.out.symm,rfl⟩
end Wp
namespace Wa
open La (bel)
theorem rY(a1 a2 b1 b2:Int)(w:World):
  Calls prog 150 #[.agg #[.int .i64 a1,.int .i64 a2],.agg #[.int .i64 b1,.int .i64 b2]] w fun e w'=>e=.returned (.bool (dlt (a1,a2) (b1,b2)))/\zB w w':=by
 have b:Hid (∀O1 O2,zB w ((w.alloc O1).alloc O2)):=fun O1 O2=>(zb w _).alloc (by simp) _
 have a:Hid (dlt (a1,a2) (b1,b2)=(decide (a1<b1)||(decide (a1=b1)&&decide (a2<b2)))):=rfl;by_cases c:a1<b1
 ·rw[a.out,decide_eq_true c];clear a;go_in;go_wp2;go_ret;exact⟨rfl,b.out _ _⟩
 ·by_cases d:a1=b1
  ·subst d;by_cases f:a2<b2
   ·rw[a.out,decide_eq_false c,decide_eq_true rfl,decide_eq_true f];clear a;go_in;go_wp2;go_ret;exact⟨by first | rfl | (refine aW ?_;simp;omega),b.out _ _⟩
   ·rw[a.out,decide_eq_false c,decide_eq_true rfl,decide_eq_false f];clear a;go_in;go_wp2;go_ret;exact⟨by first | rfl | (refine aW ?_;simp;omega),b.out _ _⟩
  ·rw[a.out,decide_eq_false c,decide_eq_false d];have g:(a1==b1)=false:=by simpa using d
   clear a;go_in;go_wp2;go_ret;exact⟨rfl,b.out _ _⟩
theorem aCJ(pa:ByteArray)(a1 a2:Int)(pb:ByteArray)(b1 b2:Int)(w:World):
  Calls prog 125 #[.agg #[.string pa,.int .i64 a1,.int .i64 a2],.agg #[.string pb,.int .i64 b1,.int .i64 b2]] w fun e w'=>e=.returned (.bool (mlt (pa,(a1,a2)) (pb,(b1,b2))))/\zB w w':=by
 have c:Hid (∀O1 O2,zB w ((w.alloc O1).alloc O2)):=fun O1 O2=>(zb w _).alloc (by simp) _
 by_cases h:pa=pb
 ·subst h;have a:Hid (mlt (pa,(a1,a2)) (pa,(b1,b2))=dlt (a1,a2) (b1,b2)):=by unfold Hid mlt;simp[Bm.bD]
  rw[a.out];obtain⟨t,d⟩:=zx (dlt (a1,a2) (b1,b2));have C:=fun W=>rY a1 a2 b1 b2 W
  rw[<-d] at C |-;clear a d;go_in;go_wp2_with fail;refine(C _).mono ?_;rintro e w2 ⟨rfl,b⟩;have f:Hid (zB w w2):=bel (c.out _ _) b;clear b C;go_wp2_with fail;go_ret;exact⟨rfl,f.out⟩
 ·have g:¬pa.toList=pb.toList:=fun e=>h (Bm.bytes_inj e)
  have k:(pa.toList==pb.toList)=false:=by simpa using g
  have a:Hid (mlt (pa,(a1,a2)) (pb,(b1,b2))=Op.bytesLess pa.toList pb.toList):=by unfold Hid mlt;simp[h]
  rw[a.out];clear a;go_in;go_wp2_with fail;go_ret;exact⟨rfl,c.out _ _⟩
end Wa
namespace Wb
end Wb
namespace Wc
open Wb
theorem aIx:True:=trivial
end Wc
namespace Wd
open Nse Ng Wa Wb
open La (bel aC aS)
theorem hJ(w:World)(x:Mk)(t:TypeId):∀j u,(flat [x])[j]? =some u->(w.alloc (.cells #[.string x.1,.int .i64 x.2.1,.int .i64 x.2.2] t)).cell? ((⟨w.heap.size,0,none⟩:Addr).add j)=some u:=by
 intro j u hu;have a:(w.alloc (.cells #[.string x.1,zI x.2.1,zI x.2.2] t)).heap[w.heap.size]? =some (.cells #[.string x.1,zI x.2.1,zI x.2.2] t):=heap_alloc_new w _;have e:flat [x]=[.string x.1,zI x.2.1,zI x.2.2]:=rfl;rw[e] at hu;rw[jU,qY];simp only[World.cell?,a];simpa using hu
theorem fW(w:World)(o:Obj):w.heap.size<=(w.alloc o).heap.size:=by simp
theorem cT{w:World}{base:Nat}{t:TypeId}{v:Value}{n m:Nat}{a b:List Mk}(hn:a.length=n)(hm:b.length=m)(h:w.ownsRow base t 3 v (n+m) (flat a++flat b)):w.ownsRow base t 3 v (a++b).length (flat (a++b)):=by
 rw[qE,fE,hn,hm];exact h
theorem aCp{l:List Mk}{m:Mk}(h:there l m=false):ins mlt l m=l.take (pos mlt l m)++m::l.drop (pos mlt l m):=by
 unfold ins;rw[if_neg];intro h2;rw[dZ.2 h2] at h;cases h
def withL (l:List Mk) (m:Mk):List Mk:=if withM l m=0 then ins mlt l m else[]
theorem aFf(b o n c:Nat)(l:List Mk)(sp:ByteArray)(p1 p2:Int)(w:World)(hl:l.length=n)(hcs:∀j,j<l.length->MAt w b o j (l.getD j none1))(hn0:0<n)(hn:n<=40)(hnc:n<=c)(hcm:c<=maxLen)(hr:Rise mlt l):
  Calls prog 95 #[.slice (some ⟨b,o,none⟩) n c,.agg #[.string sp,.int .i64 p1,.int .i64 p2]] w fun e w'=>∃v',e=.returned (.tuple #[v',.int .i64 (withM l (sp,(p1,p2)))])/\(MksAt w' v' (withL l (sp,(p1,p2)))/\(v'=.slice (some ⟨b,o,none⟩) n c\/La.Lies w.heap.size v'))/\zB w w':=by
 obtain⟨Z,J,K,L,M⟩:=info_parts fZ
 have ar:Hid (∀wr,Below (w.alloc (.cells #[.string sp,zI p1,zI p2] 82)).heap.size (w.alloc (.cells #[.string sp,zI p1,zI p2] 82)) wr->wr.cell? (zW w)=some (.string sp)/\wr.cell? ⟨w.heap.size,1,none⟩=some (zI p1)/\wr.cell? ⟨w.heap.size,2,none⟩=some (zI p2)):=fun wr hb=>bC (x:=(sp,(p1,p2))) hb
 have au:Hid (zB w (w.alloc (.cells #[.string sp,zI p1,zI p2] 82))):=(qD _ w).alloc (qC _) _
 have t:=z9 hl
 have d:=z9 hcs
 have HR:=z9 hr
 have bd:=z9 hcm
 have bl:c<=9223372036854775807:=by unfold maxLen at hcm;omega
 clear hl hcs hr hcm
 go_in
 go_wp2
 go_loopw [6] (fun vi wr=>∃(k:Nat),k<=n/\vi=zI k/\Hid (∀j,j<k->mlt (l.getD j none1) (sp,(p1,p2))=true)/\Hid (zB w wr)/\Hid (wr.cell? (zW w)=some (.string sp)/\wr.cell? ⟨w.heap.size,1,none⟩=some (zI p1)/\wr.cell? ⟨w.heap.size,2,none⟩=some (zI p2))) (fun vi _=>n-(intOf vi).toNat)
 case atStart=>exact⟨0,by omega,rfl,fun j hj=>absurd hj (by omega),au,ar.out _ (qD _ _)⟩
 case round=>
  clear ar au
  obtain⟨k,hk,rfl,H1,D,be⟩:=hrel
  obtain⟨E,F,G⟩:=be.out
  by_cases bf:k<n
  ·have bm:(k:Int)<n:=by omega
   have ac:k<l.length:=by rw[t.out];exact bf
   have ha:=(d.out k ac).below D.out (d.out k ac).lt
   obtain⟨x,hx⟩:=zx (l.getD k none1)
   rw[<-hx] at ha
   have HX:=z9 hx
   obtain⟨N,O,P⟩:=x
   obtain⟨a1,a2,a3⟩:=ha
   simp only at a1 a2 a3
   clear hx
   have C:=fun W=>aCJ N O P sp p1 p2 W
   cases hq:mlt (N,(O,P)) (sp,(p1,p2))
   ·rw[hq] at C
    have V:Hid (pos mlt l (sp,(p1,p2))=k):=by
     refine pos_eq HR.out (by omega) H1.out (fun j h1 H=> ?_)
     cases h8:mlt (l.getD j none1) (sp,(p1,p2))
     ·rfl
     ·rcases xW h1 with h | rfl
      ·have v:=dB.2.1 _ _ _ (oL HR.out h H) h8
       rw[<-HX.out,hq] at v;cases v
      ·rw[<-HX.out,hq] at h8;cases h8
    have p:Hid (there l (sp,(p1,p2))=decide (((N,(O,P)):Mk)=(sp,(p1,p2)))):=by
     unfold Hid;rw[pB HR.out,V.out,decide_eq_true ac,yY,HX.out]
    clear hq
    go_wp2_with fail
    go_region_held3 (fun W=>W.cell? ⟨b,o+k*3,none⟩=some (.string N)/\W.cell? ⟨b,o+k*3+1,none⟩=some (zI O)/\W.cell? ⟨b,o+k*3+2,none⟩=some (zI P)/\W.cell? (zW w)=some (.string sp)/\W.cell? ⟨w.heap.size,1,none⟩=some (zI p1)/\W.cell? ⟨w.heap.size,2,none⟩=some (zI p2)) (first | (go_keep;done) | (refine⟨aA g ?_,aA g ?_,aA g ?_,aA g ?_,aA g ?_,aA g ?_⟩<;>(go_split_ands;assumption))) (first
     | (go_at_call 125;refine(C _).mono ?_;rintro e w7 ⟨rfl,g⟩;have X:=z9 (bel D.out.drew g);have z:Hid (zB wr w7):=bel (qD _ wr).drew g))
    all_goals
     have av:=z9 X
     have b1:=aA z.out a1
     have b2:=aA z.out a2
     have b3:=aA z.out a3
     have e0:=aA z.out E
     have y:=aA z.out F
     have e2:=aA z.out G
     clear a1 a2 a3 E F G D X z
     have E:=e0
     have F:=y
     have G:=e2
     have D:=av
     clear e0 y e2 av
     have aw:∀w,(binOp .eql 82 (.agg #[.string N,zI O,zI P]) (.agg #[.string sp,zI p1,zI p2])).run prog w=.ok (.bool (decide (((N,(O,P)):Mk)=(sp,(p1,p2))))) w:=fun w=>aGn N sp O p1 P p2 w
     have bs:prog.eqGuardType prog.depth 82=false:=by kernel_rfl
     by_cases Y:((N,(O,P)):Mk)=(sp,(p1,p2))
     ·rw[decide_eq_true Y] at aw p
      have m:Hid (withM l (sp,(p1,p2))=0):=by unfold Hid withM;rw[if_pos p.out]
      have A:Hid (withL l (sp,(p1,p2))=l):=by unfold Hid withL;rw[if_pos m.out];exact wD (dZ.1 p.out)
      have HM:Hid (∀W,zB w W->MksAt W (.slice (some ⟨b,o,none⟩) n c) l):=fun W hb=>⟨some ⟨b,o,none⟩,c,by rw[t.out],qF ⟨b,o,rfl,fun j hj=>(d.out j hj).below hb (d.out j hj).lt⟩,by rw[t.out];exact hnc,bd.out,fun h=>by cases h⟩
      clear Y
      go_wp2_with fail
      go_quiet (fail)
      generalize f:World.drewN _ _=wq
      have q:Hid (zB w wq):=by rw[<-f];exact aC D.out _
      clear f
      go_wp2_with fail
      go_ret2
      exact⟨_,by rw[m.out];rfl,by rw[A.out];exact⟨HM.out _ q.out,qH rfl⟩,q.out⟩
     ·rw[decide_eq_false Y] at aw p
      clear Y
      by_cases I:40<=n
      ·have m:Hid (withM l (sp,(p1,p2))=4):=by unfold Hid withM;rw[if_neg (by rw[p.out];decide),if_pos (by rw[t.out];exact I)]
       have A:Hid (withL l (sp,(p1,p2))=[]):=by unfold Hid withL;rw[m.out];rfl
       have hz:(40:Int)<=n:=by omega
       go_wp2_with fail
       go_quiet (fail)
       generalize f:World.drewN _ _=wq
       have q:Hid (zB w wq):=by rw[<-f];exact aC D.out _
       clear f
       go_wp2_with fail
       go_ret2
       exact⟨_,by rw[m.out];rfl,by rw[A.out];exact⟨MksAt.nil _,qF (La.Lies.nil _)⟩,q.out⟩
      ·have m:Hid (withM l (sp,(p1,p2))=0):=by unfold Hid withM;rw[if_neg (by rw[p.out];decide),if_neg (by rw[t.out];exact I)]
       have A:Hid (withL l (sp,(p1,p2))=l.take k++(sp,(p1,p2))::l.drop k):=by unfold Hid withL;rw[if_pos m.out,aCp p.out,V.out]
       clear p V
       go_wp2_with fail
       go_quiet (fail)
       generalize f:World.drewN _ _=wq
       have q:Hid (zB w wq):=by rw[<-f];exact aC D.out _
       have g0:wq.cell? (zW w)=some (.string sp):=by rw[<-f];exact E
       have g1:wq.cell? ⟨w.heap.size,1,none⟩=some (zI p1):=by rw[<-f];exact F
       have g2:wq.cell? ⟨w.heap.size,2,none⟩=some (zI p2):=by rw[<-f];exact G
       clear f b1 b2 b3 E F G D
       have hz:¬(40:Int)<=n:=by omega
       have a9:n<40:=by omega
       clear I
       have bi:(k:Int)<=n:=by omega
       have ba:(k:Int)<=c:=by omega
       have bj:¬c=k:=by omega
       have ae:(if c=k then some (⟨b,o,none⟩:Addr) else some ⟨b,o+k*3,none⟩)=some ⟨b,o+k*3,none⟩:=if_neg bj
       have HT:Hid (∀W,zB wq W->∀j u,(flat (l.take k))[j]? =some u->W.cell? ((⟨b,o,none⟩:Addr).add j)=some u):=by
        intro W hb j u hu
        have H:∀j,j<l.length->MAt W b o j (l.getD j none1):=fun j hj=>((d.out j hj).below q.out (d.out j hj).lt).below hb (((d.out j hj).below q.out (d.out j hj).lt).lt)
        rcases take_part (i:=k) (c:=c) (by rw[t.out];omega) H with⟨e,_⟩ | ⟨ad2,c2,e,hc2⟩
        ·cases e
        ·injection e with y e2 e3
         injection y with y
         rw[y];exact hc2 j u hu
       have HD:Hid (∀W,zB wq W->∀j u,(flat (l.drop k))[j]? =some u->W.cell? ((⟨b,o+k*3,none⟩:Addr).add j)=some u):=by
        intro W hb j u hu
        have H:∀j,j<l.length->MAt W b o j (l.getD j none1):=fun j hj=>((d.out j hj).below q.out (d.out j hj).lt).below hb (((d.out j hj).below q.out (d.out j hj).lt).lt)
        rcases drop_part t.out (by omega) hnc ae H with⟨e,_⟩ | ⟨ad2,c2,e,hc2⟩
        ·cases e
        ·injection e with y e2 e3
         injection y with y
         rw[y];exact hc2 j u hu
       have r:Hid ((l.take k).length=k):=by unfold Hid;rw[qQ,t.out];omega
       have Q:Hid ((l.drop k).length=n-k):=by unfold Hid;have v:=xH (l:=l) (i:=k);rw[t.out] at v;omega
       have af:Hid ((flat (l.take k)).length=k*3):=by unfold Hid;rw[aX,r.out]
       have ag:Hid ((flat (l.drop k)).length=(n-k)*3):=by unfold Hid;rw[aX,Q.out]
       have ah:0+k<=maxLen:=by unfold maxLen;omega
       have ai:(0+k)*32<=140737488355328:=by omega
       have aj:(l.take k).length+1<=maxLen:=by rw[r.out];unfold maxLen;omega
       have ak:((l.take k).length+1)*32<=140737488355328:=by rw[r.out];omega
       have al:(l.take k++[(sp,(p1,p2))]).length+(n-k)<=maxLen:=by rw[qE,r.out];unfold maxLen;simp;omega
       have am:((l.take k++[(sp,(p1,p2))]).length+(n-k))*32<=140737488355328:=by rw[qE,r.out];simp;omega
       go_wp2_with (first
        | (at_builtin;refine wpList_append_own_at _ rfl (.tmp 38) (.tmp 41) 48 rfl wq.heap.size 82 Z (.agg #[.string ⟨#[]⟩,zI 0,zI 0]) 3 32 Tryz.underlying48 J K L M rfl (by decide) (zS) 0 [] rfl (jT _ _ _ _) ⟨b,o,none⟩ k c (flat (l.take k)) rfl af.out (HT.out _ (qD _ _)) (bF _) ah ai (qC _) ?_;intro v1 w1 hown1 hgrow1 _ hat1;have R:Hid (w1.ownsRow wq.heap.size 82 3 v1 (l.take k).length (flat (l.take k))):=(by have v:=hown1;rw[qY,vC] at v;rw[r.out];exact v);have s:Hid (zB wq w1):=(qD _ _).grown hgrow1 (qC _) (fun k hk=>by cases hk);have E:=aA s.out g0;have F:=aA s.out g1;have G:=aA s.out g2;have S:Hid (wq.heap.size<=(w1.alloc (.cells #[.string sp,zI p1,zI p2] 82)).heap.size):=qO s.out.size (fW _ _);clear hown1 hgrow1 hat1)
        | (at_builtin;refine wpList_append_own_at _ rfl (.tmp 43) (.tmp 45) 48 rfl wq.heap.size 82 Z (.agg #[.string ⟨#[]⟩,zI 0,zI 0]) 3 32 Tryz.underlying48 J K L M rfl (by decide) v1 _ _ rfl (R.out.alloc _) (zW w1) 1 1 (flat [(sp,(p1,p2))]) rfl rfl (hJ w1 (sp,(p1,p2)) _) (bF _) aj ak S.out ?_;intro v2 w2 hown2 hgrow2 _ hat2;have T:=z9 (cT rfl rfl hown2);have B:Hid (zB wq w2):=aS R.out (s.out.alloc s.out.size _) hgrow2 S.out;clear hown2 hgrow2 hat2 E F G)
        | (at_builtin;refine wpList_append_own_at _ rfl (.tmp 47) (.tmp 50) 48 rfl wq.heap.size 82 Z (.agg #[.string ⟨#[]⟩,zI 0,zI 0]) 3 32 Tryz.underlying48 J K L M rfl (by decide) v2 _ _ rfl T.out ⟨b,o+k*3,none⟩ (n-k) (c-k) (flat (l.drop k)) rfl ag.out (HD.out _ B.out) (bF _) al am B.out.size ?_;intro v3 w3 hown3 hgrow3 _ hat3;have U:=z9 (cT rfl Q.out hown3);have an:=z9 (bel q.out (aS T.out B.out hgrow3 B.out.size));clear hown3 hgrow3 hat3))
       go_ret2
       refine⟨_,by rw[m.out];rfl, ?_,an.out⟩
       have v:=gR U.out
       rw[vJ] at v
       rw[A.out]
       exact⟨v,qF ((La.Lies.own U.out).mono q.out.size)⟩
   ·rw[hq] at C
    have H3:Hid (∀j,j<k+1->mlt (l.getD j none1) (sp,(p1,p2))=true):=by
     intro j hj
     rcases jS.1 hj with h | rfl
     ·exact H1.out j h
     ·rw[<-HX.out];exact hq
    clear hq
    go_wp2_with fail
    go_region_held3 (fun W=>W.cell? ⟨b,o+k*3,none⟩=some (.string N)/\W.cell? ⟨b,o+k*3+1,none⟩=some (zI O)/\W.cell? ⟨b,o+k*3+2,none⟩=some (zI P)/\W.cell? (zW w)=some (.string sp)/\W.cell? ⟨w.heap.size,1,none⟩=some (zI p1)/\W.cell? ⟨w.heap.size,2,none⟩=some (zI p2)) (first | (go_keep;done) | (refine⟨aA g ?_,aA g ?_,aA g ?_,aA g ?_,aA g ?_,aA g ?_⟩<;>(go_split_ands;assumption))) (first
     | (go_at_call 125;refine(C _).mono ?_;rintro e w7 ⟨rfl,g⟩;have X:=z9 (bel D.out.drew g);have z:Hid (zB wr w7):=bel (qD _ wr).drew g))
    all_goals
     go_wp2_with fail
     go_roundw
     case rel=>exact⟨k+1,by omega,by go_num,H3,X,⟨aA z.out E,aA z.out F,aA z.out G⟩⟩
     case measure=>simp[intOf];omega
  ·obtain rfl:k=n:=by omega
   have V:Hid (pos mlt l (sp,(p1,p2))=k):=pos_eq HR.out (by rw[t.out];exact qC _) H1.out (fun j h1 H=>by rw[t.out] at H;omega)
   have p:Hid (there l (sp,(p1,p2))=false):=by
    unfold Hid;rw[pB HR.out,V.out,decide_eq_false (by rw[t.out];omega)];rfl
   have bt:decide (k<k)=false:=decide_eq_false (by omega)
   by_cases I:40<=k
   ·have m:Hid (withM l (sp,(p1,p2))=4):=by unfold Hid withM;rw[if_neg (by rw[p.out];decide),if_pos (by rw[t.out];exact I)]
    have A:Hid (withL l (sp,(p1,p2))=[]):=by unfold Hid withL;rw[m.out];rfl
    have hz:(40:Int)<=k:=by omega
    go_wp2_with fail
    go_quiet (fail)
    go_wp2_with fail
    go_quiet (fail)
    generalize f:World.drewN _ _=wq
    have q:Hid (zB w wq):=by rw[<-f];exact aC (aC D.out _) _
    clear f
    go_wp2_with fail
    go_ret2
    exact⟨_,by rw[m.out];rfl,by rw[A.out];exact⟨MksAt.nil _,qF (La.Lies.nil _)⟩,q.out⟩
   ·have m:Hid (withM l (sp,(p1,p2))=0):=by unfold Hid withM;rw[if_neg (by rw[p.out];decide),if_neg (by rw[t.out];exact I)]
    have A:Hid (withL l (sp,(p1,p2))=l.take k++(sp,(p1,p2))::l.drop k):=by unfold Hid withL;rw[if_pos m.out,aCp p.out,V.out]
    clear p V
    go_wp2_with fail
    go_quiet (fail)
    go_wp2_with fail
    go_quiet (fail)
    generalize f:World.drewN _ _=wq
    have q:Hid (zB w wq):=by rw[<-f];exact aC (aC D.out _) _
    have g0:wq.cell? (zW w)=some (.string sp):=by rw[<-f];exact E
    have g1:wq.cell? ⟨w.heap.size,1,none⟩=some (zI p1):=by rw[<-f];exact F
    have g2:wq.cell? ⟨w.heap.size,2,none⟩=some (zI p2):=by rw[<-f];exact G
    clear f E F G D
    have hz:¬(40:Int)<=k:=by omega
    have a9:k<40:=by omega
    clear I
    have bi:(k:Int)<=k:=by omega
    have ba:(k:Int)<=c:=by omega
    obtain⟨ad,ae⟩:∃ad,(if c=k then some (⟨b,o,none⟩:Addr) else some ⟨b,o+k*3,none⟩)=some ad:=by
     by_cases e:c=k
     ·exact⟨⟨b,o,none⟩,by rw[if_pos e]⟩
     ·exact⟨⟨b,o+k*3,none⟩,by rw[if_neg e]⟩
    have HT:Hid (∀W,zB wq W->∀j u,(flat (l.take k))[j]? =some u->W.cell? ((⟨b,o,none⟩:Addr).add j)=some u):=by
     intro W hb j u hu
     have H:∀j,j<l.length->MAt W b o j (l.getD j none1):=fun j hj=>((d.out j hj).below q.out (d.out j hj).lt).below hb (((d.out j hj).below q.out (d.out j hj).lt).lt)
     rcases take_part (i:=k) (c:=c) (by rw[t.out];omega) H with⟨e,_⟩ | ⟨ad2,c2,e,hc2⟩
     ·cases e
     ·injection e with y e2 e3
      injection y with y
      rw[y];exact hc2 j u hu
    have HD:Hid (∀W,zB wq W->∀j u,(flat (l.drop k))[j]? =some u->W.cell? (ad.add j)=some u):=by
     intro W hb j u hu
     have H:∀j,j<l.length->MAt W b o j (l.getD j none1):=fun j hj=>((d.out j hj).below q.out (d.out j hj).lt).below hb (((d.out j hj).below q.out (d.out j hj).lt).lt)
     rcases drop_part t.out (by omega) hnc ae H with⟨e,_⟩ | ⟨ad2,c2,e,hc2⟩
     ·cases e
     ·injection e with y e2 e3
      injection y with y
      rw[y];exact hc2 j u hu
    have r:Hid ((l.take k).length=k):=by unfold Hid;rw[qQ,t.out];omega
    have Q:Hid ((l.drop k).length=0):=by unfold Hid;have v:=xH (l:=l) (i:=k);rw[t.out] at v;omega
    have af:Hid ((flat (l.take k)).length=k*3):=by unfold Hid;rw[aX,r.out]
    have ag:Hid ((flat (l.drop k)).length=0*3):=by unfold Hid;rw[aX,Q.out]
    have ah:0+k<=maxLen:=by unfold maxLen;omega
    have ai:(0+k)*32<=140737488355328:=by omega
    have aj:(l.take k).length+1<=maxLen:=by rw[r.out];unfold maxLen;omega
    have ak:((l.take k).length+1)*32<=140737488355328:=by rw[r.out];omega
    have al:(l.take k++[(sp,(p1,p2))]).length+0<=maxLen:=by rw[qE,r.out];unfold maxLen;simp;omega
    have am:((l.take k++[(sp,(p1,p2))]).length+0)*32<=140737488355328:=by rw[qE,r.out];simp;omega
    go_wp2_with (first
     | (at_builtin;refine wpList_append_own_at _ rfl (.tmp 38) (.tmp 41) 48 rfl wq.heap.size 82 Z (.agg #[.string ⟨#[]⟩,zI 0,zI 0]) 3 32 Tryz.underlying48 J K L M rfl (by decide) (zS) 0 [] rfl (jT _ _ _ _) ⟨b,o,none⟩ k c (flat (l.take k)) rfl af.out (HT.out _ (qD _ _)) (bF _) ah ai (qC _) ?_;intro v1 w1 hown1 hgrow1 _ hat1;have R:Hid (w1.ownsRow wq.heap.size 82 3 v1 (l.take k).length (flat (l.take k))):=(by have v:=hown1;rw[qY,vC] at v;rw[r.out];exact v);have s:Hid (zB wq w1):=(qD _ _).grown hgrow1 (qC _) (fun k hk=>by cases hk);have E:=aA s.out g0;have F:=aA s.out g1;have G:=aA s.out g2;have S:Hid (wq.heap.size<=(w1.alloc (.cells #[.string sp,zI p1,zI p2] 82)).heap.size):=qO s.out.size (fW _ _);clear hown1 hgrow1 hat1)
     | (at_builtin;refine wpList_append_own_at _ rfl (.tmp 43) (.tmp 45) 48 rfl wq.heap.size 82 Z (.agg #[.string ⟨#[]⟩,zI 0,zI 0]) 3 32 Tryz.underlying48 J K L M rfl (by decide) v1 _ _ rfl (R.out.alloc _) (zW w1) 1 1 (flat [(sp,(p1,p2))]) rfl rfl (hJ w1 (sp,(p1,p2)) _) (bF _) aj ak S.out ?_;intro v2 w2 hown2 hgrow2 _ hat2;have T:=z9 (cT rfl rfl hown2);have B:Hid (zB wq w2):=aS R.out (s.out.alloc s.out.size _) hgrow2 S.out;clear hown2 hgrow2 hat2 E F G)
     | (at_builtin;refine wpList_append_own_at _ rfl (.tmp 47) (.tmp 50) 48 rfl wq.heap.size 82 Z (.agg #[.string ⟨#[]⟩,zI 0,zI 0]) 3 32 Tryz.underlying48 J K L M rfl (by decide) v2 _ _ rfl T.out ad 0 (c-k) (flat (l.drop k)) rfl ag.out (HD.out _ B.out) (bF _) al am B.out.size ?_;intro v3 w3 hown3 hgrow3 _ hat3;have U:=z9 (cT rfl Q.out hown3);have an:=z9 (bel q.out (aS T.out B.out hgrow3 B.out.size));clear hown3 hgrow3 hat3))
    go_ret2
    refine⟨_,by rw[m.out];rfl, ?_,an.out⟩
    have v:=gR U.out
    rw[vJ] at v
    rw[A.out]
    exact⟨v,qF ((La.Lies.own U.out).mono q.out.size)⟩
end Wd
namespace We
open Nk Wb Wd
open La (bel aC aS own_below)
variable (v:Value)(l:List Mk)(sp p:ByteArray)(p1:Int)(s:List Dt)(p2:Int)(w:World)
theorem aEQ:
  Calls prog 95 #[.slice none 0 0,.agg #[.string sp,.int .i64 p1,.int .i64 p2]] w fun e w'=>∃v',e=.returned (.tuple #[v',.int .i64 0])/\(MksAt w' v' [(sp,(p1,p2))]/\La.Lies w.heap.size v')/\zB w w':=by
 obtain⟨h,b,j,l,m⟩:=info_parts fZ
 have d:Hid (∀wr,Below (w.alloc (.cells #[.string sp,zI p1,zI p2] 82)).heap.size (w.alloc (.cells #[.string sp,zI p1,zI p2] 82)) wr->wr.cell? (zW w)=some (.string sp)/\wr.cell? ⟨w.heap.size,1,none⟩=some (zI p1)/\wr.cell? ⟨w.heap.size,2,none⟩=some (zI p2)):=fun wr hb=>bC (x:=(sp,(p1,p2))) hb
 have f:Hid (zB w (w.alloc (.cells #[.string sp,zI p1,zI p2] 82))):=zb w _
 go_in
 go_wp2
 go_loopw [6] (fun vi wr=>vi=zI 0/\Hid (zB w wr)/\Hid (wr.cell? (zW w)=some (.string sp)/\wr.cell? ⟨w.heap.size,1,none⟩=some (zI p1)/\wr.cell? ⟨w.heap.size,2,none⟩=some (zI p2))) (fun vi _=>0)
 case atStart=>exact⟨rfl,f,d.out _ (qD _ _)⟩
 case round=>
  clear d f
  obtain⟨rfl,n,o⟩:=hrel
  obtain⟨p,q,r⟩:=o.out
  go_wp2_with fail
  go_quiet (fail)
  go_wp2_with fail
  go_quiet (fail)
  generalize a:World.drewN _ _=wq
  have s:Hid (zB w wq):=by rw[<-a];exact aC (aC n.out _) _
  have B:wq.cell? (zW w)=some (.string sp):=by rw[<-a];exact p
  have C:wq.cell? ⟨w.heap.size,1,none⟩=some (zI p1):=by rw[<-a];exact q
  have D:wq.cell? ⟨w.heap.size,2,none⟩=some (zI p2):=by rw[<-a];exact r
  have g:Hid (wq.heap.size<=(wq.alloc (.cells #[.string sp,zI p1,zI p2] 82)).heap.size):=fW _ _
  have t:0+1<=maxLen:=by unfold maxLen;omega
  have z:0+0<=maxLen:=by unfold maxLen;omega
  have A:1+0<=maxLen:=by unfold maxLen;omega
  clear a p q r n
  have v:=fun W=>run_append_owned_none (P:=prog) (w:=W) wq.heap.size 48 48 82 h 3 Tryz.underlying48 b (zS) 0 [] (jT W _ _ _)
  go_wp2_with (first
   | (at_builtin;refine Lib.wpList_append_run _ rfl (.tmp 38) (.tmp 41) _ _ rfl _ _ rfl rfl _ _ (v _) ?_)
   | (at_builtin;refine wpList_append_own_at _ rfl (.tmp 43) (.tmp 45) 48 rfl wq.heap.size 82 h (.agg #[.string ⟨#[]⟩,zI 0,zI 0]) 3 32 Tryz.underlying48 b j l m rfl (by decide) (zS) 0 [] rfl (jT _ _ _ _) (zW wq) 1 1 (flat [(sp,(p1,p2))]) rfl rfl (hJ wq (sp,(p1,p2)) _) (bF _) t (by omega) g.out ?_;intro v2 w2 hown2 hgrow2 _ hat2;have c:=z9 hown2;have y:Hid (zB wq w2):=(zb wq _).grown hgrow2 g.out (fun k hk=>by cases hk);have i:=run_append_owned_none (P:=prog) (w:=w2) wq.heap.size 48 48 82 h 3 Tryz.underlying48 b v2 _ _ c.out;clear hown2 hgrow2 hat2)
   | (at_builtin;refine Lib.wpList_append_run _ rfl (.tmp 47) (.tmp 50) _ _ rfl _ _ rfl rfl _ _ i ?_))
  go_ret2
  exact⟨_,rfl,⟨gR c.out,(La.Lies.own c.out).mono s.out.size⟩,bel s.out y.out⟩
theorem aCV(a:Addr)(c:Nat)(sp:ByteArray)(p1 p2:Int)(w:World)(hcm:c<=maxLen):
  Calls prog 95 #[.slice (some a) 0 c,.agg #[.string sp,.int .i64 p1,.int .i64 p2]] w fun e w'=>∃v',e=.returned (.tuple #[v',.int .i64 0])/\(MksAt w' v' [(sp,(p1,p2))]/\La.Lies w.heap.size v')/\zB w w':=by
 obtain⟨y,f,g,h,i⟩:=info_parts fZ
 have p:Hid (∀wr,Below (w.alloc (.cells #[.string sp,zI p1,zI p2] 82)).heap.size (w.alloc (.cells #[.string sp,zI p1,zI p2] 82)) wr->wr.cell? (zW w)=some (.string sp)/\wr.cell? ⟨w.heap.size,1,none⟩=some (zI p1)/\wr.cell? ⟨w.heap.size,2,none⟩=some (zI p2)):=fun wr hb=>bC (x:=(sp,(p1,p2))) hb
 have q:Hid (zB w (w.alloc (.cells #[.string sp,zI p1,zI p2] 82))):=zb w _
 unfold maxLen at hcm
 have K:(0:Int)<=c:=by omega
 go_in
 go_wp2
 go_loopw [6] (fun vi wr=>vi=zI 0/\Hid (zB w wr)/\Hid (wr.cell? (zW w)=some (.string sp)/\wr.cell? ⟨w.heap.size,1,none⟩=some (zI p1)/\wr.cell? ⟨w.heap.size,2,none⟩=some (zI p2))) (fun vi _=>0)
 case atStart=>exact⟨rfl,q,p.out _ (qD _ _)⟩
 case round=>
  clear p q
  obtain⟨rfl,z,A⟩:=hrel
  obtain⟨m,n,o⟩:=A.out
  go_wp2_with fail
  go_quiet (fail)
  go_wp2_with fail
  go_quiet (fail)
  generalize d:World.drewN _ _=wq
  have B:Hid (zB w wq):=by rw[<-d];exact aC (aC z.out _) _
  have H:wq.cell? (zW w)=some (.string sp):=by rw[<-d];exact m
  have I:wq.cell? ⟨w.heap.size,1,none⟩=some (zI p1):=by rw[<-d];exact n
  have J:wq.cell? ⟨w.heap.size,2,none⟩=some (zI p2):=by rw[<-d];exact o
  have L:Hid (wq.heap.size<=(wq.alloc (.cells #[.string sp,zI p1,zI p2] 82)).heap.size):=fW _ _
  have C:0+1<=maxLen:=by unfold maxLen;omega
  have D:0+0<=maxLen:=by unfold maxLen;omega
  have E:1+0<=maxLen:=by unfold maxLen;omega
  clear d m n o z
  go_wp2_with (first
   | (at_builtin;refine wpList_append_own_at _ rfl (.tmp 38) (.tmp 41) 48 rfl wq.heap.size 82 y (.agg #[.string ⟨#[]⟩,zI 0,zI 0]) 3 32 Tryz.underlying48 f g h i rfl (by decide) (zS) 0 [] rfl (jT _ _ _ _) a 0 c [] rfl rfl (fun j u hu=>by simp at hu) (fun u hu=>by simp at hu) D (by omega) (qC _) ?_;intro v1 w1 hown1 hgrow1 _ hat1;have r:=z9 hown1;have b:Hid (zB wq w1):=(qD _ _).grown hgrow1 (qC _) (fun k hk=>by cases hk);have m:=aA b.out H;have n:=aA b.out I;have o:=aA b.out J;have s:Hid (wq.heap.size<=(w1.alloc (.cells #[.string sp,zI p1,zI p2] 82)).heap.size):=qO b.out.size (fW _ _);clear hown1 hgrow1 hat1)
   | (at_builtin;refine wpList_append_own_at _ rfl (.tmp 43) (.tmp 45) 48 rfl wq.heap.size 82 y (.agg #[.string ⟨#[]⟩,zI 0,zI 0]) 3 32 Tryz.underlying48 f g h i rfl (by decide) v1 _ _ rfl (r.out.alloc _) (zW w1) 1 1 (flat [(sp,(p1,p2))]) rfl rfl (hJ w1 (sp,(p1,p2)) _) (bF _) C (by omega) s.out ?_;intro v2 w2 hown2 hgrow2 _ hat2;have t:=z9 hown2;have l:Hid (zB wq w2):=aS r.out (b.out.alloc b.out.size _) hgrow2 s.out;clear hown2 hgrow2 hat2 m n o)
   | (at_builtin;refine wpList_append_own_at _ rfl (.tmp 47) (.tmp 50) 48 rfl wq.heap.size 82 y (.agg #[.string ⟨#[]⟩,zI 0,zI 0]) 3 32 Tryz.underlying48 f g h i rfl (by decide) v2 _ _ rfl t.out a 0 c [] rfl rfl (fun j u hu=>by simp at hu) (fun u hu=>by simp at hu) E (by omega) l.out.size ?_;intro v3 w3 hown3 hgrow3 _ hat3;have v:=z9 ((by have F:=hown3;rw[vY,vL] at F;exact F));have G:=z9 (bel B.out (aS t.out l.out hgrow3 l.out.size));clear hown3 hgrow3 hat3))
  go_ret2
  exact⟨_,rfl,⟨gR v.out,(La.Lies.own v.out).mono B.out.size⟩,G.out⟩
theorem aAE(h:MksAt w v l)(hr:Rise mlt l)(hn:l.length<=40):
  Calls prog 95 #[v,.agg #[.string sp,.int .i64 p1,.int .i64 p2]] w fun e w'=>∃v',e=.returned (.tuple #[v',.int .i64 (withM l (sp,(p1,p2)))])/\(MksAt w' v' (withL l (sp,(p1,p2)))/\(v'=v\/La.Lies w.heap.size v'))/\zB w w':=by
 obtain⟨p,c,rfl,g,m,f,i⟩:=h
 by_cases d:l=[]
 ·subst d
  have j:withM [] (sp,(p1,p2))=0:=by unfold withM;rw[if_neg (by rw[there];simp)];rfl
  have n:withL [] (sp,(p1,p2))=[(sp,(p1,p2))]:=by unfold withL;rw[if_pos j,aCp (by rw[there];simp)];rfl
  rw[j,n]
  cases p with
  | none=>rw[i rfl];exact(aEQ sp p1 p2 w).mono fun e w' ⟨v',h1,h2,h3⟩=>⟨v',h1,⟨h2.1,qF h2.2⟩,h3⟩
  | some a=>exact(aCV a c sp p1 p2 w f).mono fun e w' ⟨v',h1,h2,h3⟩=>⟨v',h1,⟨h2.1,qF h2.2⟩,h3⟩
 ·obtain⟨b,o,rfl,k⟩:=g.some d
  exact aFf b o _ c l sp p1 p2 w rfl k (by cases l with | nil=>exact absurd rfl d | cons _ _=>simp) hn m f hr
theorem aAa{l:List Mk}{p:ByteArray}{s:List Dt}{k:Nat}{x:Mk}(hk:k<l.length)(hx:x=l.getD k none1):
  without (l.take (k+1)) p s=if gone p s x then without (l.take k) p s else without (l.take k) p s++[x]:=by
 have e:l.take (k+1)=l.take k++[x]:=by
  rw[hx,qA,qB hk,jV,qB hk];rfl
 unfold without;rw[e,vS];have a:(decide (x.1=p)&&decide (x.2 ∈ s))=gone p s x:=rfl;cases h:gone p s x
 ·simp only[vD,a,h,List.filter_nil];simp
 ·simp only[vD,a,h,List.filter_nil];simp
theorem aBk:(without l p s).length<=l.length:=by unfold without;exact vQ _ _
theorem aBx(vs:Value)(s:List Dt)(w:World)(hA:MksAt w v l)(hn:l.length <=40)(hd:DtsAt w vs s)(hsn:s.length <=1048576):
  Calls prog 96 #[v,.string p,vs] w fun e w'=>∃v',e=.returned v' /\ MksNew w.heap.size w' v' (without l p s) /\ zB w w':=by
 obtain⟨i0,T,U,V,X⟩:=info_parts fZ;have Y:Hid (∀W,zB w W -> ∀a b,Calls prog 124 #[vs,.agg #[zI a,zI b]] W fun e w'=>e=.returned (.bool (decide ((a,b) ∈ s))) /\ zB W w'):=fun W hb a b=>aCK vs s a b W (hd.below hb) hsn
 obtain⟨q,c,rfl,Z,_⟩:=hA;obtain⟨qs,cs,rfl,_⟩:=hd;obtain⟨n,Q⟩:∃n,l.length=n:=⟨_,rfl⟩;obtain⟨ns,L⟩:∃ns,s.length=ns:=⟨_,rfl⟩;rw[Q] at hn;rw[L] at Y;rw[Q,L];have HL:=z9 Q;have HI:=z9 Z;clear Q L Z hsn;go_in;go_wp2;go_loopw [7,8,9] (fun d i _ wr=>∃(k:Nat),k <=n /\ i=zI k /\ Hid (wr.ownsRow w.heap.size 82 3 d (without (l.take k) p s).length (flat (without (l.take k) p s))) /\ Hid (zB w wr)) (fun _ i _ _=>n-(intOf i).toNat)
 case atStart=>exact⟨0,by omega,rfl,jT _ _ _ _,qD _ _⟩
 case round=>
  obtain⟨k,hk,rfl,H,I⟩:=hrel;by_cases an:k<n
  ·have ax:(k:Int)<n:=by omega
   obtain⟨b,o,rfl,hc⟩:=HI.out.some (by intro e;have:=HL.out;rw[e] at this;simp at this;omega);have M:k<l.length:=by rw[HL.out];exact an
   have ha:=(hc k M).below I.out (hc k M).lt;obtain⟨x,hx⟩:=zx (l.getD k none1);have N:Hid (without (l.take (k+1)) p s=if gone p s x then without (l.take k) p s else without (l.take k) p s++[x]):=aAa M hx;rw[<- hx] at ha;obtain⟨j,y,z⟩:=x;obtain⟨F,J,K⟩:=ha;simp only at F J K;have O:=aBk (l.take k) p s;rw[qQ] at O;obtain⟨D,hD⟩:=zx (without (l.take k) p s);rw[<- hD] at H N O;have az:D.length <=40:=by omega
   have C:=Y.out wr I.out y z;clear hc hx hD O;by_cases m:gone p s (j,(y,z))=true
   ·have S:j=p /\ (y,z) ∈ s:=by
     unfold gone at m;rw[qX,decide_eq_true_eq,decide_eq_true_eq] at m;exact m
    have aq:Hid (∀W,zB wr W -> W.ownsRow w.heap.size 82 3 u7 (without (l.take (k+1)) p s).length (flat (without (l.take (k+1)) p s))):=by
     intro W hb;rw[N.out,if_pos m];exact own_below H.out hb
    obtain⟨e1,e2⟩:=S;rw[decide_eq_true e2] at C;subst e1;clear m e2 N;go_wp2_with fail;refine C.mono ?_;rintro e w2 ⟨rfl,f⟩;have r:=z9 (bel I.out f);have au:Hid (w2.ownsRow w.heap.size 82 3 u7 (without (l.take (k+1)) j s).length (flat (without (l.take (k+1)) j s))):=aq.out _ f;have b1:=aA f F;clear f C F J K;go_wp2_with fail;go_roundw
    case rel=>exact⟨k+1,by omega,by go_num,au,r⟩
    case measure=>simp[intOf];omega
   ·have ab:Hid (without (l.take (k+1)) p s=D++[(j,(y,z))]):=by unfold Hid;rw[N.out,if_neg m]
    have ac:D.length+1 <=maxLen:=by unfold maxLen;omega
    have ad:(D.length+1)*32 <=140737488355328:=by omega
    clear N;by_cases G:j=p
    ·have S:¬(y,z) ∈ s:=by
      intro h;apply m;unfold gone;rw[decide_eq_true G,decide_eq_true h];rfl
     rw[decide_eq_false S] at C;subst G;clear m S;go_wp2_with fail;refine C.mono ?_;rintro e w2 ⟨rfl,f⟩;have r:=z9 (bel I.out f);have A:=z9 (own_below H.out f);have b1:=aA f F;have b2:=aA f J;have b3:=aA f K;have B:Hid (w.heap.size <=(w2.alloc (.cells #[.string j,zI y,zI z] 82)).heap.size):=qO r.out.size (fW _ _);clear f C F J K;go_wp2_with (at_builtin;refine wpList_append_own_at _ rfl (.tmp 34) (.tmp 39) 48 rfl w.heap.size 82 i0 (.agg #[.string ⟨#[]⟩,zI 0,zI 0]) 3 32 Tryz.underlying48 T U V X rfl (by decide) u7 D.length (flat D) rfl (A.out.alloc _) (zW w2) 1 1 (flat [(j,(y,z))]) rfl rfl (hJ w2 (j,(y,z)) _) (bF _) ac ad B.out ?_;intro v' w3 hown' hgrow _ hat;have P:Hid (zB w w3):=aS A.out (r.out.alloc r.out.size _) hgrow B.out;have E:=z9 (cT rfl rfl hown');clear hown' hgrow hat);rw[<- ab.out] at E;go_roundw
     case rel=>exact⟨k+1,by omega,by go_num,E,P⟩
     case measure=>simp[intOf];omega
    ·have ae:¬j.toList=p.toList:=fun e=>G (Bm.bytes_inj e)
     have a7:(j.toList==p.toList)=false:=by simpa using ae
     obtain⟨tt,af⟩:=zx (decide ((y,z) ∈ s));rw[<- af] at C;clear m G ae af;go_wp2_with fail;refine C.mono ?_;rintro e w2 ⟨rfl,f⟩;have r:=z9 (bel I.out f);have A:=z9 (own_below H.out f);have b1:=aA f F;have b2:=aA f J;have b3:=aA f K;have B:Hid (w.heap.size <=(w2.alloc (.cells #[.string j,zI y,zI z] 82)).heap.size):=qO r.out.size (fW _ _);clear f C F J K;go_wp2_with (at_builtin;refine wpList_append_own_at _ rfl (.tmp 34) (.tmp 39) 48 rfl w.heap.size 82 i0 (.agg #[.string ⟨#[]⟩,zI 0,zI 0]) 3 32 Tryz.underlying48 T U V X rfl (by decide) u7 D.length (flat D) rfl (A.out.alloc _) (zW w2) 1 1 (flat [(j,(y,z))]) rfl rfl (hJ w2 (j,(y,z)) _) (bF _) ac ad B.out ?_;intro v' w3 hown' hgrow _ hat;have P:Hid (zB w w3):=aS A.out (r.out.alloc r.out.size _) hgrow B.out;have E:=z9 (cT rfl rfl hown');clear hown' hgrow hat);rw[<- ab.out] at E;go_roundw
     case rel=>exact⟨k+1,by omega,by go_num,E,P⟩
     case measure=>simp[intOf];omega
  ·obtain rfl:k=n:=by omega
   have HD:Hid (MksNew w.heap.size wr u7 (without l p s)):=by
    refine⟨?_,La.Lies.own H.out⟩;have:=gR H.out;rwa [qW (by rw[HL.out];exact qC _)] at this
   go_wp2_with fail;go_ret;exact⟨_,rfl,HD.out,I.out⟩
end We
end Go.Proofs.YtjcemlmlfoilmaaGreatDoor
