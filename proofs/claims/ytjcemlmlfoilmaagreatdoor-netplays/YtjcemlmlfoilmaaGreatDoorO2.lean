import Derived.Test.YtjcemlmlfoilmaaGreatDoorO1
import Derived.Test.YtjcemlmlfoilmaaGreatDoorA2
import Derived.Test.YtjcemlmlfoilmaaGreatDoorX3
set_option linter.unusedSimpArgs false
set_option linter.unusedVariables false
set_option maxRecDepth 100000
set_option maxHeartbeats 8000000
namespace Go.Proofs.YtjcemlmlfoilmaaGreatDoor
open Go.RowKit Na Om Oa Oc Oi Ia Aa Ac
namespace Ok
open Kb Od Og Oh
open La (bel aS own_below)
theorem jI:(Tryz.prog.info? 97).map (fun i=>(i.zero,i.size,i.bytes))=some (some (.agg #[.int .i64 0,.int .i64 0,.int .i64 0,.string ⟨#[]⟩,.int .i64 0,.slice none 0 0]),6,72):=by kernel_rfl
def Apart (B:Nat) (w:World) (v:Value) (y:Ox × Value):Prop:=
 ∃a b,(∀W:World,(∀k,a≤k→k<b→W.heap[k]? =w.heap[k]?)→DtsAt W y.2 y.1.2.2.2.2)∧B≤a∧b≤w.heap.size∧∀g,v.ownBlock=some g→¬(a≤g∧g<b)
variable {B:Nat}{w w2:World}{v:Value}{y:Ox × Value}(L:List UInt8)(x:Ox)(u:Value)
theorem Apart.kept{W:World}(h:Apart B w v y)(hW:∀k,B<=k->k<w.heap.size->W.heap[k]? =w.heap[k]?):DtsAt W y.2 y.1.2.2.2.2:=by
 obtain⟨a,b,c,d,e,_⟩:=h;exact c W (fun k hk1 hk2=>hW k (by omega) (by omega))
theorem Apart.below(h:Apart B w v y)(hb:zB w w2):Apart B w2 v y:=by
 obtain⟨a,b,c,d,e,f⟩:=h;exact⟨a,b,fun W hW=>c W (fun k hk1 hk2=>(hW k hk1 hk2).trans (hb.block k (by omega))),d,qO e hb.size,f⟩
theorem Apart.grown{v2:Value}(h:Apart B w v y)(hg:w.grownBy w2 v.ownBlock)(hat:v2.ownBlock=v.ownBlock\/v2.ownBlock=some w.heap.size):Apart B w2 v2 y:=by
 obtain⟨a,b,d,f,i,c⟩:=h;refine⟨a,b,fun W hW=>d W (fun k hk1 hk2=>(hW k hk1 hk2).trans (hg.block k (by omega) (fun e=>c k e.symm ⟨hk1,hk2⟩))),f,qO i hg.size, ?_⟩;intro g hg2;rcases hat with e | e
 ·exact c g (by rw[<-e];exact hg2)
 ·rw[e] at hg2;injection hg2 with hg2
  omega
theorem pI{u:Value}{x:Ox}(hB:B<=w.heap.size)(hk:Kept w.heap.size w2 (uP x u) x)(hv:∀g,v.ownBlock=some g->g<w.heap.size):Apart B w2 v (x,u):=by
 refine⟨w.heap.size,w2.heap.size,fun W hW=> ?_,hB,qC _,fun g hg=>by have:=hv g hg;omega⟩;obtain⟨u2,e,b⟩:=hk W hW;unfold uP at e;injection e with e
 simp only[Array.mk.injEq,List.cons.injEq,and_true] at e;rw[e.2.2.2.2.2];exact b
theorem pN{k:Nat}{L:List UInt8}:manyB (k+1) L=if L.length<2\/L.length<2+numAt L 0 then none else match decB ((L.drop 2).take (numAt L 0)) with
  | none=>none
  | some o=>(manyB k (L.drop (2+numAt L 0))).map fun q=>(o::q.1,q.2):=by
 conv=>lhs;unfold manyB
 unfold numAt
 simp only[qY]
 split
 ·rfl
 ·split
  ·rename_i h9
   rw[h9]
  ·rename_i o ho
   rw[ho]
   cases manyB k (L.drop (2+((L.getD 0 0).toNat*256+(L.getD 1 0).toNat))) with
   | none=>rfl
   | some q=>rfl
theorem nM(A:Nat):numAt (L.drop A) 0=numAt L A:=by
 unfold numAt;simp only[qA,xQ,vL,qY]
theorem fV:numAt L 0=(L.getD 0 0).toNat*256+(L.getD 1 0).toNat:=rfl
theorem sF{base:Nat}{t:TypeId}{n m:Nat}{a b:List (Ox × Value)}(hn:a.length=n)(hm:b.length=m)(h:w.ownsRow base t 6 v (n+m) (flatO a++flatO b)):w.ownsRow base t 6 v (a++b).length (flatO (a++b)):=by
 rw[qE,eH,hn,hm];exact h
theorem oP(w:World)(x:Ox)(u:Value)(t:TypeId):∀j y,(flatO [(x,u)])[j]? =some y->(w.alloc (.cells #[.int .i64 x.1.1,.int .i64 x.1.2,.int .i64 x.2.1,.string x.2.2.1,.int .i64 x.2.2.2.1,u] t)).cell? ((⟨w.heap.size,0,none⟩:Addr).add j)=some y:=by
 intro j y hu;have e:flatO [(x,u)]=[zI x.1.1,zI x.1.2,zI x.2.1,.string x.2.2.1,zI x.2.2.2.1,u]:=rfl;rw[e] at hu;rw[jU,qY];simp only[World.cell?,(heap_alloc_new w (.cells #[zI x.1.1,zI x.1.2,zI x.2.1,.string x.2.2.1,zI x.2.2.2.1,u] t))];simpa using hu
theorem oQ(hu:u.oneCell'=true):∀y ∈ flatO [(x,u)],y.oneCell'=true:=by
 intro y hy;have e:flatO [(x,u)]=[zI x.1.1,zI x.1.2,zI x.2.1,.string x.2.2.1,zI x.2.2.2.1,u]:=rfl;rw[e] at hy;simp only[jD,vO,or_false] at hy;rcases hy with rfl | rfl | rfl | rfl | rfl | rfl
 all_goals first | rfl | exact hu
theorem kR(s:ByteArray)(w:World)(hs:s.size<=maxLen)(hv:Hid ((unpB s.toList).isSome=true)):
  Calls Tryz.prog 48 #[.string s] w fun e w'=>∃v,e=.returned (.tuple #[v,.bool (unpB s.toList).isSome])/\(∀l,unpB s.toList=some l->∀W:World,(∀k,w.heap.size<=k->k<w'.heap.size->W.heap[k]? =w'.heap[k]?)->OpsAt W v l)/\(∃p n c,v=.slice p n c)/\zB w w':=by
 have hm:=hs
 unfold maxLen at hm
 by_cases h2:s.size<2
 ·have h:Hid (unpB s.toList=none):=by unfold Hid unpB;rw[if_pos (qH (by rw[Om.aJ];exact h2))]
  have f:=hv.out;rw[h.out] at f;cases f
 have hz:¬(s.size:Int)<2:=by omega
 have b5:(2:Int)<=s.size:=by omega
 have z:=fun W=>iO s 0 W (by omega) hs
 obtain⟨n,Q⟩:=zx (numAt s.toList 0)
 rw[<-Q] at z
 by_cases h4:400<n
 ·have h:Hid (unpB s.toList=none):=by unfold Hid unpB;rw[if_pos (qF (by rw[<-fV,<-Q];exact h4))]
  have f:=hv.out;rw[h.out] at f;cases f
 have b6:¬(400:Int)<n:=by omega
 have R:Hid (unpB s.toList=match manyB n (s.toList.drop 2) with | some (l,[])=>some l | _=>none):=by
  unfold Hid unpB;rw[if_neg (by rw[<-fV,<-Q,Om.aJ];omega),<-fV,<-Q]
  rfl
 clear Q
 go_in
 go_wp2_with fail
 refine(z _).mono ?_
 rintro e w1 ⟨rfl,ae⟩
 have K1:=z9 ae
 clear ae
 go_wp2_with fail
 refine(z _).mono ?_
 rintro e w2 ⟨rfl,af⟩
 have K2:=z9 (bel K1.out af)
 clear af z K1
 go_wp2_with fail
 obtain⟨i0,hi,a7,a8,av⟩:=info_parts jI
 go_loopw [4,6,7] (fun v q i wr=>∃(k A:Nat) (a:List (Ox × Value)),k<=n/\i=zI k/\q=zI A/\A<=s.size/\A<=2+65537*k/\(∃P N C,v=.slice P N C)/\Hid (a.length=k)/\Hid (wr.ownsRow w.heap.size 97 6 v a.length (flatO a))/\Hid (∀y ∈ a,Apart w.heap.size wr v y)/\Hid (manyB n (s.toList.drop 2)=(manyB (n-k) (s.toList.drop A)).map fun q=>(a.map (·.1)++q.1,q.2))/\Hid (zB w wr)) (fun _ _ i _=>n-(intOf i).toNat)
 case atStart=>exact⟨0,2,[],by omega,rfl,rfl,by omega,by omega,⟨_,_,_,rfl⟩,rfl,jT _ _ _ _,fun y hy=>by simp at hy,by unfold Hid;cases manyB (n-0) (s.toList.drop 2)<;>simp_all,K2⟩
 case round=>
  clear K2
  obtain⟨k,A,a,hk,rfl,rfl,b7,b8,⟨p0,n0,c0,rfl⟩,ag,KW,KA,H,K⟩:=hrel
  have ca:(A:Int)<=s.size:=by omega
  by_cases cb:k<n
  ·have a0:(k:Int)<n:=by omega
   obtain⟨j,hj⟩:∃j,n-k=j+1:=⟨n-k-1,by omega⟩
   rw[hj] at H
   have m:=@pN j (s.toList.drop A)
   rw[xH,Om.aJ,nM] at m
   have HJ:Hid (n-(k+1)=j):=by unfold Hid;omega
   obtain⟨o,cc⟩:∃o:Nat,(A:Int)+2=(o:Int):=⟨A+2,by omega⟩
   by_cases c1:s.size<A+2
   ·have h:Hid (unpB s.toList=none):=by
     unfold Hid;rw[R.out,H.out,m,if_pos (qH (by omega))];rfl
    have f:=hv.out;rw[h.out] at f;cases f
   ·have cd:¬(s.size:Int)<o:=by omega
    have z:=fun W=>iO s A W (by omega) hs
    have hd:=aAV s.toList A
    obtain⟨d,ai⟩:=zx (numAt s.toList A)
    rw[<-ai] at z hd m
    obtain⟨E,hE⟩:∃E:Nat,(o:Int)+(d:Int)=(E:Int):=⟨o+d,by omega⟩
    by_cases c2:s.size<E
    ·have h:Hid (unpB s.toList=none):=by
      unfold Hid;rw[R.out,H.out,m,if_pos (qF (by omega))];rfl
     have f:=hv.out;rw[h.out] at f;cases f
    ·have ce:¬(s.size:Int)<E:=by omega
     have cf:(E:Int)<=s.size:=by omega
     have b0:o<=E:=by omega
     have bq:(o:Int)<=E:=by omega
     have bc:E<=s.size:=by omega
     obtain⟨Y,hY⟩:∃Y,s.extract o E=Y:=⟨_,rfl⟩
     have be:Y.size<=maxLen:=by rw[<-hY,size_extract s o E bc];omega
     have aj:(List.drop 2 (s.toList.drop A)).take d=Y.toList:=by
      rw[<-hY,bY,vN,kL,show A+2=o by omega,show E-o=d by omega]
     have ak:(s.toList.drop A).drop (2+d)=s.toList.drop E:=by rw[vN,show A+(2+d)=E by omega]
     rw[if_neg (by omega),aj,ak] at m
     have S:Hid (a.length<=400):=by unfold Hid;have:=ag.out;omega
     cases hdb:decB Y.toList with
     | none=>
      have h:Hid (unpB s.toList=none):=by
       unfold Hid;rw[R.out,H.out,m,hdb];rfl
      have f:=hv.out;rw[h.out] at f;cases f
     | some x=>
      have bf:Hid (∀u:Value,manyB n (s.toList.drop 2)=(manyB (n-(k+1)) (s.toList.drop E)).map fun q=>((a++[(x,u)]).map (·.1)++q.1,q.2)):=by
       intro u
       rw[H.out,m,hdb,HJ.out]
       cases manyB j (s.toList.drop E) with
       | none=>rfl
       | some q=>simp
      have CD:=fun W=>aB4 Y W be (by unfold Hid;rw[hdb];rfl)
      rw[hdb] at CD
      simp only[Option.isSome_some,xT] at CD
      clear m hj HJ c1 c2 ai aj ak hdb H
      go_wp2_with fail
      refine(z _).mono ?_
      rintro e w3 ⟨rfl,T⟩
      have K3:=z9 (bel K.out T)
      have al:=z9 T
      clear T
      go_wp2_with fail
      refine(z _).mono ?_
      rintro e w4 ⟨rfl,U⟩
      have K4:=z9 (bel K3.out U)
      have am:=z9 (bel al.out U)
      clear U z al K3
      go_wp2_with fail
      refine(CD _).mono ?_
      rintro e w5 ⟨u,rfl,hu,V⟩
      obtain⟨vs,he,X⟩:=hu.now
      subst he
      have K5:=z9 (bel K4.out V)
      have an:=z9 (bel am.out V)
      have bj:=z9 (pI K4.out.size hu (fun g hg=>jE (KW.out.lt g hg).2 am.out.size))
      have bk:Hid (∀y ∈ a,Apart w.heap.size w5 (.slice p0 n0 c0) y):=fun y hy=>(KA.out y hy).below an.out
      have ao:=z9 (own_below KW.out an.out)
      have bl:Hid (vs.oneCell'=true):=by
       obtain⟨_,_,e9,_⟩:=X
       rw[e9];rfl
      obtain⟨⟨I,J⟩,L,M,O,Z⟩:=x
      unfold uP
      simp only
      obtain⟨B,D,F,rfl⟩:∃B D F,vs=.slice B D F:=by
       obtain⟨_,_,e9,_⟩:=X
       exact⟨_,_,_,e9⟩
      have cg:Hid (∀O1,zB w5 (w5.alloc O1)):=fun O1=>(qD _ _).alloc (qC _) O1
      have ap:Hid (∀O1 O2,zB w5 ((w5.alloc O1).alloc O2)):=fun O1 O2=>((qD _ _).alloc (qC _) O1).alloc (by simp) O2
      have bm:Hid (∀O1,∀j y,(flatO [(((I,J),L,M,O,Z),Value.slice B D F)])[j]? =some y->((w5.alloc O1).alloc (.cells #[zI I,zI J,zI L,.string M,zI O,.slice B D F] 97)).cell? (((zV w5):Addr).add j)=some y):=by
       intro O1
       have:=oP (w5.alloc O1) ((I,J),L,M,O,Z) (.slice B D F) 97
       rwa [show(w5.alloc O1).heap.size=w5.heap.size+1 by simp] at this
      have aq:Hid (∀O1 O2,w.heap.size<=((w5.alloc O1).alloc O2).heap.size):=fun O1 O2=>by have:=K5.out.size;simp;omega
      have ac:a.length+1<=maxLen:=by have:=S.out;unfold maxLen;omega
      have ad:(a.length+1)*72<=140737488355328:=by have:=S.out;omega
      clear V CD hu X
      go_wp2_with (at_builtin;refine wpList_append_own_at _ rfl (.tmp 59) (.tmp 61) 50 rfl w.heap.size 97 i0 (.agg #[zI 0,zI 0,zI 0,.string ⟨#[]⟩,zI 0,zS]) 6 72 Tryz.underlying50 hi a7 a8 av rfl (by decide) (.slice p0 n0 c0) a.length (flatO a) rfl ((ao.out.alloc _).alloc _) (zV w5) 1 1 (flatO [(((I,J),L,M,O,Z),Value.slice B D F)]) rfl rfl (bm.out _) (oQ _ _ bl.out) ac ad (aq.out _ _) ?_;intro v9 w9 hown9 hgrow9 _ hat9;have ar:=z9 (sF rfl rfl hown9);have K9:Hid (zB w w9):=aS ao.out ((K5.out.alloc K5.out.size _).alloc (by have:=K5.out.size;simp;omega) _) hgrow9 (aq.out _ _);have bn:Hid (∀y ∈ a++[(((I,J),L,M,O,Z),Value.slice B D F)],Apart w.heap.size w9 v9 y):=(fun y hy=>by(rcases jB.1 hy with hy | hy);(exact((bk.out y hy).below (ap.out _ _)).grown hgrow9 hat9);(rw[qP.1 hy];exact(bj.out.below (ap.out _ _)).grown hgrow9 hat9));obtain⟨p9,N9,c9,bo,_⟩:=aG ar.out;subst bo;clear hown9 hgrow9 hat9)
      go_roundw
      case rel=>exact⟨k+1,E,a++[(((I,J),L,M,O,Z),Value.slice B D F)],by omega,by go_num,rfl,by omega,by omega,⟨_,_,_,rfl⟩,by unfold Hid;rw[qE,ag.out];rfl,ar,bn,bf.out _,K9⟩
      case measure=>simp[intOf];omega
  ·obtain rfl:n=k:=by omega
   have a0:¬(n:Int)<n:=by omega
   have HM:Hid (manyB n (s.toList.drop 2)=some (a.map (·.1),s.toList.drop A)):=by
    have f:=H.out
    rw[Nat.sub_self] at f
    unfold Hid;rw[f];unfold manyB;simp
   by_cases au:A=s.size
   ·have h:Hid (unpB s.toList=some (a.map (·.1))):=by
     unfold Hid;rw[R.out,HM.out,xM (by rw[Om.aJ];omega)]
    have ch:((A:Int)==(s.size:Int))=true:=by rw[au];simp
    have KO:Hid (∀W:World,(∀k,w.heap.size<=k->k<wr.heap.size->W.heap[k]? =wr.heap[k]?)->OpsAt W (.slice p0 n0 c0) (a.map (·.1))):=fun W hW=>oD (fT KW.out hW) (fun y hy=>(KA.out y hy).kept hW)
    clear au
    go_wp2_with fail
    go_ret2
    exact⟨_,by rw[h.out];rfl,(fun l hl=>by rw[h.out] at hl;injection hl with hl;subst hl;exact KO.out),⟨_,_,_,rfl⟩,K.out⟩
   ·have h:Hid (unpB s.toList=none):=by
     unfold Hid;rw[R.out,HM.out]
     cases hdr:s.toList.drop A with
     | nil=>have:=congrArg List.length hdr;rw[xH,Om.aJ] at this;simp at this;omega
     | cons y r=>rfl
    have f:=hv.out;rw[h.out] at f;cases f
end Ok
namespace Ah
open Cm Oz Ii Iq Ae
open La (aC aS own_below)
theorem wJ{w w':World}{B:Nat}{Q:Nat->Prop}{v u:Value}{L:List (Ox × Value)}{s:List Dt}(hr:RowL B w v L)(hs:DtsAt w u s)(hi:In Q u)(hQ:∀g,Q g->g<B)(hB:B<=w.heap.size)(hg:w.grownBy w' v.ownBlock):DtsAt w' u s:=
 bI hs hi fun g hg2=>hg.block g (by have:=hQ g hg2;omega) (fun e=>by
  have h1:=(World.ownsRow.lt hr g e.symm).1
  have:=hQ g hg2
  omega)
theorem aGW(R Q:Nat->Prop)(vl vv:Value)(l:List Ox)(v:List Int)(w:World)(hl:OpsJ R Q w vl l)(hQ:∀g,Q g->g<w.heap.size)(hv:KnAt w vv v)(hv8:v.length=8)(hr:∀o ∈ l,1<=o.1.1/\o.1.1<=8)(h400:l.length<=400):
  Calls Tryz.prog 24 #[vl,vv] w fun e w'=>∃p n c,e=.returned (.slice p n c)/\OpsJ (New w.heap.size w') Q w' (.slice p n c) (lackL l v)/\zB w w':=by
 obtain⟨q,c,rfl,ak,bg,bh,_⟩:=hl;obtain⟨pv,cv,rfl,au⟩:=hv;obtain⟨n,hn⟩:=zx l.length;have ce:n<=400:=by omega
 obtain⟨bv,ov,rfl,al⟩:∃b o,pv=some ⟨b,o,none⟩/\∀j,j<v.length->w.cell? ⟨b,o+j,none⟩=some (zI (v.getD j 0)):=by
  rcases au with e | h
  ·rw[e] at hv8;simp at hv8
  ·exact h
 rw[<-hn,hv8];have HN:=z9 hn.symm;have HV:Hid (∀j,j<8->w.cell? ⟨bv,ov+j,none⟩=some (zI (v.getD j 0))):=fun j hj=>al j (by omega)
 have HI:=z9 ak;have HQ:=z9 hQ;have HR:=z9 hr;obtain⟨i0,hi,bn,bp,aw⟩:=info_parts Ae.jI;clear ak hn bg bh al hr hQ h400 hv8;go_in;go_wp2_with fail;go_loopw [5,6] (fun v7 vi wr=>∃(k:Nat) (L:List (Ox × Value)),k<=n/\vi=zI k/\(∃P N C,v7=.slice P N C)/\Hid (L.length<=k)/\Hid (RowL w.heap.size wr v7 L)/\Hid (∀y ∈ L,DtsAt wr y.2 y.1.2.2.2.2/\In Q y.2)/\Hid (L.map (·.1)=lackL (l.take k) v)/\Hid (zB w wr)) (fun _ vi _=>n-(intOf vi).toNat)
 case atStart=>exact⟨0,[],by omega,rfl,⟨_,_,_,rfl⟩,jW _,jT _ _ _ _,fun y hy=>by simp at hy,rfl,qD _ _⟩
 case round=>
  obtain⟨k,L,hk,rfl,⟨p0,n0,c0,rfl⟩,J,ac,B,K,HB⟩:=hrel;by_cases bt:k<n
  ·have ax:(k:Int)<n:=by omega
   have s:k<l.length:=by rw[HN.out];exact bt
   obtain⟨V,X,rfl,_,hc⟩:=HI.out.some (by intro e;rw[e] at s;simp at s);have am:=hc k s;have E:=HR.out _ (cP s);have t:=wT (v:=v) s;obtain⟨x,hx⟩:=zx (l.getD k oz);rw[<-hx] at am E t;have M:=z9 t;obtain⟨⟨d,f⟩,F,G,H,I⟩:=x;obtain⟨vx,⟨g0,g1,g2,g3,g4,g5⟩,z,an⟩:=am;simp only at g0 g1 g2 g3 g4 g5 z E;obtain⟨Y,Z,cs,rfl⟩:∃pv nv cv,vx=.slice pv nv cv:=by obtain⟨_,_,e9,_⟩:=z;exact⟨_,_,_,e9⟩
   obtain⟨d1,d2⟩:=E;obtain⟨qv,ae⟩:=zx (v.getD (d-1).toNat 0);have O:Hid (lacks v ((d,f),F,G,H,I)= !decide (f<=qv)):=by unfold Hid lacks;rw[ae]
   have xk:wr.cell? ⟨bv,ov+(d.toNat-1),none⟩=some (zI qv):=by
    have:=aA HB.out (HV.out (d.toNat-1) (by omega));rw[ae,show(d-1).toNat=d.toNat-1 by omega];exact this
   have ao:Hid (∀W,zB w W->W.cell? ⟨V,X+k*6,none⟩=some (zI d)/\W.cell? ⟨V,X+k*6+1,none⟩=some (zI f)/\W.cell? ⟨V,X+k*6+2,none⟩=some (zI F)/\W.cell? ⟨V,X+k*6+3,none⟩=some (.string G)/\W.cell? ⟨V,X+k*6+4,none⟩=some (zI H)/\W.cell? ⟨V,X+k*6+5,none⟩=some (.slice Y Z cs)):=fun W hb=>⟨aA hb g0,aA hb g1,aA hb g2,aA hb g3,aA hb g4,aA hb g5⟩
   have bz:Hid (∀W,zB w W->DtsAt W (.slice Y Z cs) I):=fun W hb=>z.below hb
   have ap:=z9 an;obtain⟨a0,a1,a2,a3,a4,a5⟩:=ao.out wr HB.out;have cf:IntKind.i64.wrap (d-1)=d-1:=bG (by omega) (by omega);have cg:0<=d-1:=by omega
   have ch:d-1<8:=by omega
   clear hc hx s z an t g0 g1 g2 g3 g4 g5 ae;by_cases hq:qv<f
   ·have b0:decide (qv<f)=true:=decide_eq_true hq
    have af:Hid (lackL (l.take (k+1)) v=lackL (l.take k) v++[((d,f),F,G,H,I)]):=by
     unfold Hid;rw[M.out,O.out,decide_eq_false (by omega)];rfl
    clear M O;go_wp2_with fail;go_quiet (fail)
    generalize m:World.drewN _ _=wq;have r:Hid (zB w wq):=by rw[<-m];exact aC HB.out _
    have D:Hid (zB wr wq):=by rw[<-m];exact aC (qD _ _) _
    clear m a0 a1 a2 a3 a4 a5 xk;obtain⟨a0,a1,a2,a3,a4,a5⟩:=ao.out wq r.out;have S:=z9 (own_below ac.out D.out);have ag:Hid (∀y ∈ L,DtsAt wq y.2 y.1.2.2.2.2/\In Q y.2):=fun y hy=>⟨(B.out y hy).1.below D.out,(B.out y hy).2⟩
    have b1:=z9 (bz.out wq r.out);have b2:=z9 (oP wq ((d,f),F,G,H,I) (.slice Y Z cs) 97);have A:Hid (∀O1,w.heap.size<=(wq.alloc O1).heap.size):=fun O1=>by have:=r.out.size;simp;omega
    have T:Hid (∀O1,zB wq (wq.alloc O1)):=fun O1=>(qD _ _).alloc (qC _) O1
    have ai:L.length+1<=maxLen:=by have:=J.out;unfold maxLen;omega
    have aj:(L.length+1)*72<=140737488355328:=by have:=J.out;omega
    go_wp2_with (at_builtin;refine wpList_append_own_at _ rfl (.tmp 30) (.tmp 35) 50 rfl w.heap.size 97 i0 (.agg #[zI 0,zI 0,zI 0,.string ⟨#[]⟩,zI 0,zS]) 6 72 Tryz.underlying50 hi bn bp aw rfl (by decide) (.slice p0 n0 c0) L.length (flatO L) rfl (World.ownsRow.alloc S.out _) (zW wq) 1 1 (flatO [(((d,f),F,G,H,I),Value.slice Y Z cs)]) rfl rfl b2.out (aGj _ _ rfl) ai aj (A.out _) ?_;intro v9 w9 hown9 hgrow9 _ hat9;have aq:=z9 (cT rfl rfl hown9);have K9:Hid (zB w w9):=aS S.out (r.out.alloc r.out.size _) hgrow9 (A.out _);have b3:Hid (∀y ∈ L++[(((d,f),F,G,H,I),Value.slice Y Z cs)],DtsAt w9 y.2 y.1.2.2.2.2/\In Q y.2):=(fun y hy=>by(rcases jB.1 hy with hy | hy);(exact⟨wJ (own_below S.out (T.out _)) ((ag.out y hy).1.below (T.out _)) (ag.out y hy).2 HQ.out (A.out _) hgrow9,(ag.out y hy).2⟩);(rw[qP.1 hy];exact⟨wJ (own_below S.out (T.out _)) (b1.out.below (T.out _)) ap.out HQ.out (A.out _) hgrow9,ap.out⟩));obtain⟨p9,N9,c9,b4,_⟩:=aG aq.out;subst b4;clear hown9 hgrow9 hat9);go_roundw
    case rel=>exact⟨k+1,L++[(((d,f),F,G,H,I),Value.slice Y Z cs)],by omega,by go_num,⟨_,_,_,rfl⟩,by unfold Hid;rw[qE];have:=J.out;simp;omega,aq,b3,by unfold Hid;rw[af.out,xL,K.out];rfl,K9⟩
    case measure=>simp[intOf];omega
   ·have b0:decide (qv<f)=false:=decide_eq_false hq
    have af:Hid (lackL (l.take (k+1)) v=lackL (l.take k) v):=by
     unfold Hid;rw[M.out,O.out,decide_eq_true (by omega)];simp
    clear M O;have ci:¬qv<f:=hq;clear hq;go_wp2_with fail;go_quiet (fail)
    generalize m:World.drewN _ _=wq;have r:Hid (zB w wq):=by rw[<-m];exact aC HB.out _
    have D:Hid (zB wr wq):=by rw[<-m];exact aC (qD _ _) _
    clear m a0 a1 a2 a3 a4 a5 xk;go_wp2_with fail;go_roundw
    case rel=>exact⟨k+1,L,by omega,by go_num,⟨_,_,_,rfl⟩,by unfold Hid;have:=J.out;omega,own_below ac.out D.out,fun y hy=>⟨(B.out y hy).1.below D.out,(B.out y hy).2⟩,by unfold Hid;rw[af.out,K.out],r⟩
    case measure=>simp[intOf];omega
  ·obtain rfl:n=k:=by omega
   have ax:¬(n:Int)<n:=by omega
   have b5:Hid (l.take n=l):=by unfold Hid;rw[<-HN.out,yJ]
   go_wp2_with fail;go_ret;rw[b5.out] at K;exact⟨p0,n0,c0,rfl,by rw[<-K.out];exact OpsJ.own ac.out B.out,HB.out⟩
end Ah
namespace Ai
open Hm Um Xp
def aIS (P:Nat→Prop) (w:World) (E:Nat) (S:Dq) (F:Nat→Prop) (L:List Ox) (e:Ending) (w':World):Prop:=
 e=.returned (.tuple #[.int .i64 (takeN S L),.int .i64 (runE S L)])∧∃F',RefAt P w' E (runS S L) F'∧Chg F w w'∧∀g,F' g→F g∨w.heap.size≤g
theorem aA9(P:Nat->Prop)(E:Nat)(S:Dq)(F R:Nat->Prop)(v:Value)(L:List Ox)(w:World)(h:RefAt P w E S F)(ho:OpsJ R P w v L)(hR:∀g,R g->g<w.heap.size/\¬F g)(hsz:∀x ∈ L,x.2.2.1.size<=maxLen):
  Calls Tryz.prog 49 #[.pointer (some ⟨E,0,none⟩),v] w (aIS P w E S F L):=by
 obtain⟨q,c,rfl,af,a8,a9,_⟩:=ho;obtain⟨n,hn⟩:=zx L.length;have ba:n<=maxLen:=by omega
 have bw:(n:Int)<=9223372036854775807:=by unfold maxLen at ba;omega
 rw[<-hn];have HN:=z9 hn.symm;have HI:=z9 af;have HG:=z9 hR;have HP:Hid (∀g,P g->g<w.heap.size/\¬F g):=fun g hg=>⟨h.old g hg,fun e=>(h.lt g e).1 hg⟩
 have bc:=z9 hsz;have ah:=z9 h;clear h af hR hsz hn a8 a9;go_in;go_wp2_with fail;go_loopw [6,7] (fun vm vi wr=>∃(k:Nat) (m:Int) (z:Nat->Prop),k<=n/\vi=zI k/\vm=zI m/\0<=m/\m<=k/\Hid (m=cntN S (L.take k))/\Hid (RefAt P wr E (runS S (L.take k)) z)/\Hid (∀g,z g->F g\/w.heap.size<=g)/\Hid (Chg F w wr)/\Hid (runE S (L.take k)=0)) (fun _ vi _=>n-(intOf vi).toNat)
 case atStart=>exact⟨0,0,F,by omega,rfl,rfl,by omega,by omega,rfl,ah,fun g hg=>qH hg,Chg.refl _ _,rfl⟩
 case round=>
  clear ah;obtain⟨k,m,z,hk,rfl,rfl,bd,bx,A,l,B,f,i⟩:=hrel;by_cases be:k<n
  ·have aq:(k:Int)<n:=by omega
   have a:k<L.length:=by rw[HN.out];exact be
   obtain⟨bo,oo,rfl,_,hc⟩:=(HI.out.stay (f.out.stay HG.out) (f.out.stay HP.out)).some (by intro e;rw[e] at a;simp at a);have ha:=hc k a;have o:=bc.out _ (cP a);obtain⟨D,G⟩:=aAe (S:=S) a i.out;have H:=nH (S:=S) a i.out;have I:=aDL (S:=S) a i.out;obtain⟨x,hx⟩:=zx (L.getD k oz);rw[<-hx] at ha o D G H I;have J:=z9 D;have K:=z9 G;have p:=z9 I;have M:=z9 H;obtain⟨⟨Y,Z⟩,xt,xp,xc,xs⟩:=x;obtain⟨vx,⟨a0,a1,a2,a3,a4,a5⟩,r,aj⟩:=ha;simp only at a0 a1 a2 a3 a4 a5 r o;obtain⟨pv,nv,cv,rfl⟩:∃pv nv cv,vx=.slice pv nv cv:=by obtain⟨_,_,e9,_⟩:=r;exact⟨_,_,_,e9⟩
   obtain⟨Sk,ak⟩:=zx (runS S (L.take k));rw[<-ak] at J K p M l;have C:=Xs.vH P E Sk z Y Z xt xp xc (.slice pv nv cv) xs wr l.out r aj o;clear hc hx a r o D G H I aj ak;go_wp2_with fail;refine C.mono ?_;rintro e w7 ⟨N,t,j,O,Q⟩;have T:=z9 (f.out.next O B.out)
   have U:Hid (∀g,t g->F g\/w.heap.size<=g):=fun g hg=>by
    rcases Q g hg with e | e
    ·exact B.out g e
    ·exact qF (qO f.out.size e)
   obtain⟨bn,V⟩:=zx (isNew Sk ((Y,Z),xt,xp,xc,xs));rw[<-V] at N p;by_cases b:apE Sk ((Y,Z),xt,xp,xc,xs)=0
   ·rw[b] at N;subst N;have s:Hid (RefAt P w7 E (runS S (L.take (k+1))) t):=by unfold Hid;rw[K.out b];exact j
    have al:Hid (runE S (L.take (k+1))=0):=by unfold Hid;rw[J.out,b]
    have am:Hid (cntN S (L.take (k+1))=m+(if bn then 1 else 0)):=by unfold Hid;rw[p.out b,A.out]
    clear j O Q V b C a0 a1 a2 a3 a4 a5;cases bn
    ·go_wp2_with fail;go_roundw
     case rel=>exact⟨k+1,m,t,by omega,by go_num,rfl,bd,by omega,by unfold Hid;rw[am.out];simp,s,U,T,al⟩
     case measure=>simp[intOf];omega
    ·go_wp2_with fail;go_roundw
     case rel=>exact⟨k+1,m+1,t,by omega,by go_num,rfl,by omega,by omega,by unfold Hid;rw[am.out];rfl,s,U,T,al⟩
     case measure=>simp[intOf];omega
   ·obtain⟨z1,z2⟩:=M.out b;have an:=z9 z1;have bk:Hid (takeN S L=0):=by unfold Hid takeN;rw[z1,if_pos b]
    have s:Hid (RefAt P w7 E (runS S L) t):=by unfold Hid;rw[iQ b] at j;rw[z2];exact j
    have HZ:=z9 b;obtain⟨ez,ao⟩:=zx (apE Sk ((Y,Z),xt,xp,xc,xs));rw[<-ao] at N an HZ;have bz:(ez !=0)=true:=by have:=HZ.out;simpa using this
    subst N;clear j O Q V b C a0 a1 a2 a3 a4 a5 z1 z2 ao J K p M;go_wp2_with fail;go_ret2;exact⟨by rw[an.out,bk.out];rfl,t,s.out,T.out,U.out⟩
  ·obtain rfl:n=k:=by omega
   have aq:¬(n:Int)<n:=by omega
   have bm:Hid (L.take n=L):=by unfold Hid;rw[<-HN.out,yJ]
   go_wp2_with fail;go_ret2;rw[bm.out] at l i A;exact⟨by unfold takeN;rw[i.out,A.out,if_neg (by decide)];rfl,z,l.out,f.out,B.out⟩
end Ai
end Go.Proofs.YtjcemlmlfoilmaaGreatDoor
