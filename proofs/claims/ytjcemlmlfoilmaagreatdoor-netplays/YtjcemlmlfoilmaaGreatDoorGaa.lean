import Derived.Test.YtjcemlmlfoilmaaGreatDoorG4
set_option linter.unusedSimpArgs false
set_option linter.unusedVariables false
set_option maxRecDepth 100000
set_option maxHeartbeats 8000000
namespace Go.Proofs.YtjcemlmlfoilmaaGreatDoor
open Go.Proofs.Tryz (prog)
namespace Gaa
open Go.RowKit Ka Om Oa Oz Oc Ia Il Im Hc Hd Kt Kl Gu
open La (bel aD)
open Lj (BookAt)
theorem aG5(k:Int)(w:World)(hg:ET w):Calls prog 5 #[errV k,.int .i64 k] w fun e w'=>e=.returned (.bool true)/\Hid (zB w w'):=by
 have:=sK k k w hg;rw[beq_self_eq_true] at this;exact this
structure Ok' (N:Nt) (n:Nat):Prop where
 gl:Gl N
 us:N.us.length≤100
 len:N.ds.length=n
theorem Ok'.ev{N:Nt}{n:Nat}(h:Ok' N n)(e:Ev):Ok' (evS N e) n:=⟨(h.gl.ev e).1,aIv h.us e,(h.gl.ev e).2.trans h.len⟩
theorem walk(nodes:Int)(p:Option Addr)(c:Nat)(l:List Ev)(w:World)(hin:aC4 w p l)(hl9:l.length<=9223372036854775807)(hg:ET w):
  Calls prog 3 #[.int .i64 nodes,.slice p l.length c] w fun e w'=>e=.returned (.bool true)/\Below w.heap.size w w':=by
 have HG:Hid (∀W,Below w.heap.size w W->ET W):=fun W hb=>Kl.ET.below hg hb
 have CS:Hid (∀k W,Below w.heap.size w W->Calls prog 5 #[errV k,.int .i64 k] W fun e w'=>e=.returned (.bool true)/\Hid (Below W.heap.size W w')):=fun k W hb=>aG5 k W (HG.out W hb)
 have b3:=z9 hin
 obtain⟨T,ad⟩:=zx l.length
 rw[<-ad] at hl9 |-
 have b4:=z9 ad
 clear hin hg ad
 by_cases R:nodes<1\/4<nodes
 ·have CN:=Hz.aIN nodes w R
  have af:nodes<1\/(¬nodes<1/\4<nodes):=by omega
  clear R
  rcases af with q1 | ⟨q1,q2⟩
  all_goals
   go_in
   go_wp2_with fail
   refine CN.mono ?_
   rintro e w1 ⟨rfl,I⟩
   have C:=z9 I
   clear I CN
   go_wp2_with fail
   refine(CS.out 1 _ C.out).mono ?_
   rintro e w2 ⟨rfl,J⟩
   go_wp2_with fail
   go_ret
   exact⟨rfl,bel C.out J.out⟩
 ·obtain⟨n,rfl⟩:∃n:Nat,nodes=n:=⟨nodes.toNat,by omega⟩
  have ag:1<=n:=by omega
  have ah:n<=4:=by omega
  have q1:¬(n:Int)<1:=by omega
  have q2:¬(4:Int)<(n:Int):=by omega
  have CN:=Hz.aHW n w ag ah
  have C0:=CS.out 0
  rw[aD] at C0
  have a9:=Hid.mk' C0
  clear R C0
  go_in
  go_wp2_with fail
  refine CN.mono ?_
  rintro e w1 ⟨X,F,rfl,ba,bb,I⟩
  have C:=z9 I
  have bc:=z9 ba
  have bd:=z9 bb
  clear I CN ba bb
  go_wp2_with fail
  refine(a9.out _ C.out).mono ?_
  rintro e w2 ⟨rfl,J⟩
  go_wp2_with fail
  refine(aIT n w w2 X F (bc.out.below J.out) bd.out (bel C.out J.out) ah).mono ?_
  rintro e w3 ⟨Y,rfl,bf⟩
  have bg:Hid (Ok' (nw n) n):=⟨aJa ah,jW _,by unfold nw;simp⟩
  clear C bc bd J a9
  go_wp2_with fail
  go_loopw [5,8,10] (fun _ _ s10 wr=>∃(k:Nat) (N:Nt),k<=T/\s10=.int .i64 k/\Hid (Tw w wr X N Y N)/\Hid (Ok' N n)) (fun _ _ s10 _=>T-(intOf s10).toNat)
  case atStart=>exact⟨0,nw n,jW _,rfl,bf,bg⟩
  case round=>
   clear bf bg
   obtain⟨k,N,hk,rfl,s,B⟩:=hrel
   by_cases ai:k<T/\k<60
   ·have g1:(k:Int)<(T:Int):=by omega
    have g2:(k:Int)<60:=by omega
    obtain⟨b,o,rfl,hc⟩:=b3.out.some (j:=k) (by rw[<-b4.out];exact ai.1)
    have S:=Hid.mk' hc
    clear hc
    obtain⟨ev,bh⟩:∃ev,l.getD k (0,0,0,0)=ev:=⟨_,rfl⟩
    rw[bh] at S
    obtain⟨U,V,Z,t3⟩:=ev
    dsimp only at S
    have aj:=z9 s.out.bel
    have CR:=aIR s.out B.out.gl B.out.us (U,V,Z,t3)
    have t:Hid (Ok' (evS N (U,V,Z,t3)) n):=B.out.ev _
    obtain⟨EE,ak⟩:∃x,x=evE N (U,V,Z,t3):=⟨_,rfl⟩
    obtain⟨M,hM⟩:∃x,x=evS N (U,V,Z,t3):=⟨_,rfl⟩
    have CX:Hid (∀W,Tw w W X N Y M->Calls prog 8 #[ptr X,evV (U,V,Z,t3)] W fun r w'=>r=.returned (errV EE)/\Hid (Tw w w' X M Y M)):=fun W h=>by
     rw[ak]
     have h9:=aJl h B.out.gl B.out.us (U,V,Z,t3)
     rw[<-hM] at h9
     exact h9
    rw[<-ak,<-hM] at CR
    rw[<-hM] at t
    obtain⟨y0,y1,y2,y3⟩:=S.out wr aj.out
    clear ai bh ak hM
    go_wp2_with fail
    refine CR.mono ?_
    rintro r w4 ⟨rfl,al⟩
    clear CR y0 y1 y2 y3
    have am:=z9 al.out.bel
    obtain⟨y0,y1,y2,y3⟩:=S.out w4 am.out
    go_wp2_with fail
    refine(CX.out w4 al.out).mono ?_
    rintro r w5 ⟨rfl,an⟩
    have ao:=z9 an.out.bel
    clear y0 y1 y2 y3 CX al am
    go_wp2_with fail
    refine(CS.out EE _ ao.out).mono ?_
    rintro r w6 ⟨rfl,i⟩
    have K:=z9 (an.out.below i.out)
    clear an ao i
    obtain⟨pu,cu,ap⟩:=aIc K.out
    have bi:=Hid.mk' ap
    have L:=ap w6 (qD _ _)
    clear ap
    have CU:Hid (∀W,Below w6.heap.size w6 W->Calls prog 9 #[ptr X] W fun e w'=>e=.returned (.int .i64 M.us.length)/\Below W.heap.size W w'):=fun W hb=>aFT (K.out.below hb) t.out.us
    have CA:Hid (∀W,Below w6.heap.size w6 W->Calls prog 10 #[ptr X] W fun e w'=>e=.returned (.bool (sameB M))/\Below W.heap.size W w'):=fun W hb=>aHJ (K.out.below hb) t.out.gl (by rw[t.out.len];exact ag)
    have CB:Hid (∀W,Below w6.heap.size w6 W->Calls prog 11 #[ptr Y] W fun e w'=>e=.returned (.bool (sameB M))/\Below W.heap.size W w'):=fun W hb=>aGI (K.out.below hb) (by rw[t.out.len];exact ag)
    have ca:=t.out.us
    generalize M.us.length=um at L CU ca bi
    generalize sameB M=sb at CA CB
    have dd:(sb !=sb)=false:=by cases sb<;>rfl
    have de:((um:Int) !=(um:Int))=false:=by simp
    go_wp2_with fail
    go_region_held3 (fun W=>W.cell? ⟨Y,1,none⟩=some (.slice pu um cu)) (first | (go_keep;done) | (refine aA aq ?_;(first | assumption | (go_split_ands;assumption))) | (refine aA d ?_;(first | assumption | (go_split_ands;assumption))) | (refine aA f ?_;(first | assumption | (go_split_ands;assumption)))) (first
     | (go_at_call 9;refine(CU.out _ (qD _ w6).drew).mono ?_;rintro e w7 ⟨rfl,f⟩;have y:Hid (Below w6.heap.size w6 w7):=bel (qD _ w6).drew f)
     | (go_at_call 10;refine(CA.out _ y.out).mono ?_;rintro e w8 ⟨rfl,d⟩;have g:=z9 (bel y.out d))
     | (go_at_call 11;refine(CB.out _ g.out).mono ?_;rintro e w9 ⟨rfl,aq⟩;have O:=z9 (bel g.out aq)))
    clear f d aq y g CU CA CB L bi
    have cc:=z9 (K.out.below O.out)
    go_wp2_with fail
    go_roundw
    case rel=>exact⟨k+1,M,by omega,by go_num,cc,t⟩
    case measure=>simp[intOf];omega
   ·have af:¬(k:Int)<(T:Int)\/((k:Int)<(T:Int)/\¬(k:Int)<60):=by omega
    clear ai
    rcases af with g1 | ⟨g1,g2⟩
    all_goals
     go_wp2_with fail
     go_loopw [11,12,13,14,15,16,17] (fun s11 _ _ _ _ _ _ wr=>∃j:Nat,j<=n/\s11=.int .i64 j/\Hid (Tw w wr X N Y N)) (fun s11 _ _ _ _ _ _ _=>n-(intOf s11).toNat)
     case atStart=>exact⟨0,jW _,rfl,s⟩
     case round=>
      clear s
      obtain⟨j,hj,rfl,s⟩:=hrel
      by_cases cd:j<n
      ·have ce:(j:Int)<(n:Int):=by omega
       have ar:j<N.ds.length:=by rw[B.out.len];exact cd
       have P:=aDq s.out B.out.gl (j:Int)
       have z:¬out N.ds.length (j:Int):=by unfold out;omega
       rw[if_neg z,if_neg z,aD,xK] at P
       obtain⟨gd,nd,cn,Ek,pb,nb,cb,po,no,co,hp⟩:=aII s.out ar
       have q:=Hid.mk' hp
       obtain⟨tx,au⟩:=zx (Lf.textR (dq N j).book)
       rw[<-au] at P
       have HI:=z9 hp.inv
       have ck:nd=n:=hp.nd.trans B.out.len
       subst ck
       have RT:Hid (∀W,Below wr.heap.size wr W->Calls prog 14 #[.slice pb nb cb] W fun e w'=>e=.returned (.string tx)/\Below W.heap.size W w'):=fun W hb=>by
        obtain⟨p9,c9,e9,h9,_⟩:=q.out.book W hb
        injection e9 with e1 e2 e3
        subst e1 e2 e3
        have ht:tx=⟨(Bm.text (dq N j).book).toArray⟩:=by rw[au];unfold Lf.textR;rw[if_pos HI.out.book]
        rw[ht]
        exact Mb.gA pb _ cb _ W rfl h9 (Lf.dO HI.out.book).2.2 (by have:=bR HI.out;omega)
       have cm:=Hid.mk' ar
       have CD:Hid (∀W,Below wr.heap.size wr W->Calls prog 13 #[ptr X,.int .i64 j] W fun e w'=>∃D Fd,e=.returned (.tuple #[ptr D,.nilIface])/\Hid (DocAt w' D (dq N j) Fd)/\Hid (Below W.heap.size W w')):=fun W hb=>aI2 (s.out.below hb) j cm.out
       have SB:Hid (∀W v,Below wr.heap.size wr W->BookAt W v (dq N j).book->Calls prog 15 #[v,.slice pb nb cb] W fun e w'=>e=.returned (.bool true)/\Below W.heap.size W w'):=fun W v hb h1=>(Lk.aEB v _ _ _ W h1 (q.out.book W hb) (by have:=bR HI.out;omega)).mono fun e w' ⟨h1,h2⟩=>⟨by rw[h1];simp,h2⟩
       have SO:Hid (∀W v,Below wr.heap.size wr W->OpsAt W v (dq N j).ops->Calls prog 17 #[v,.slice po no co] W fun e w'=>e=.returned (.bool true)/\Below W.heap.size W w'):=fun W v hb h1=>(Ol.aFA v _ _ _ W h1 (q.out.ops W hb) (by have:=HI.out.few;omega) (fun x hx=>qO (bB.1 (aO.1 (HI.out.right x hx)).2.2.2).2.2.2.1 (by decide))).mono fun e w' ⟨h1,h2⟩=>⟨by rw[h1];simp,h2⟩
       clear z hp au ar
       go_wp2_with fail
       refine P.mono ?_
       rintro e w4 ⟨rfl,Q⟩
       have G:=z9 Q
       clear Q P
       go_wp2_with fail
       refine(CD.out w4 G.out).mono ?_
       rintro e w5 ⟨D,Fd,rfl,bj,HB5'⟩
       have HB5:=z9 (bel G.out HB5'.out)
       clear HB5' CD G
       have CB:Hid (∀W,Below w5.heap.size w5 W->Calls prog 16 #[.pointer (some ⟨D,0,none⟩)] W fun e w'=>∃v',e=.returned v'/\BookAt w' v' (dq N j).book/\Below W.heap.size W w'):=fun W hb=>(eJ D _ _ W (bj.out.below hb)).mono fun e w' ⟨v',h1,h2,h3⟩=>⟨v',h1,h2.1,h3⟩
       have CO:Hid (∀W,Below w5.heap.size w5 W->Calls prog 18 #[.pointer (some ⟨D,0,none⟩)] W fun e w'=>∃v',e=.returned v'/\OpsAt w' v' (dq N j).ops/\Below W.heap.size W w'):=fun W hb=>(aDb D _ _ W (bj.out.below hb)).mono fun e w' ⟨v',h1,h2,h3⟩=>⟨v',h1,h2.at,h3⟩
       have x0:=q.out.c0 w5 HB5.out
       have L:=q.out.c1 w5 HB5.out
       have x2:=q.out.c2 w5 HB5.out
       go_wp2_with fail
       refine(RT.out w5 HB5.out).mono ?_
       rintro e w6 ⟨rfl,ax⟩
       have i:=z9 (bel HB5.out ax)
       have ay:=z9 ax
       clear ax x0 L x2 RT
       have x0:=q.out.c0 w6 i.out
       have L:=q.out.c1 w6 i.out
       have x2:=q.out.c2 w6 i.out
       go_wp2_with fail
       go_region_held3 (fun W=>W.cell? ⟨Y,0,none⟩=some (.slice (some ⟨gd,0,none⟩) nd cn)/\W.cell? ⟨gd,j,none⟩=some (ptr Ek)/\W.cell? ⟨Ek,0,none⟩=some (.slice pb nb cb)) (first | (go_keep;done) | (refine⟨aA d ?_,aA d ?_,aA d ?_⟩<;>(first | assumption | (go_split_ands;assumption))) | (refine⟨aA f ?_,aA f ?_,aA f ?_⟩<;>(first | assumption | (go_split_ands;assumption)))) (first
        | (go_at_call 16;refine(CB.out _ ay.out.drew).mono ?_;rintro e w7 ⟨v7,rfl,A,f⟩;obtain⟨p7,n7,c7,rfl⟩:∃p n c,v7=.slice p n c:=(by obtain⟨p,c,e,_⟩:=A;exact⟨_,_,_,e⟩);have y:=z9 (bel i.out.drew f);have bk:=z9 (bel ay.out.drew f);have bl:=z9 A;clear A)
        | (go_at_call 15;refine(SB.out _ _ y.out bl.out).mono ?_;rintro e w8 ⟨rfl,d⟩;have g:=z9 (bel y.out d);have bm:=z9 (bel bk.out d)))
       clear f d bl y bk x0 L x2 i ay CB SB
       have x0:=q.out.c0 w8 g.out
       have L:=q.out.c1 w8 g.out
       have x2:=q.out.c3 w8 g.out
       go_wp2_with fail
       go_region_held3 (fun W=>W.cell? ⟨Y,0,none⟩=some (.slice (some ⟨gd,0,none⟩) nd cn)/\W.cell? ⟨gd,j,none⟩=some (ptr Ek)/\W.cell? ⟨Ek,3,none⟩=some (.slice po no co)) (first | (go_keep;done) | (refine⟨aA d ?_,aA d ?_,aA d ?_⟩<;>(first | assumption | (go_split_ands;assumption))) | (refine⟨aA f ?_,aA f ?_,aA f ?_⟩<;>(first | assumption | (go_split_ands;assumption)))) (first
        | (go_at_call 18;refine(CO.out _ bm.out.drew).mono ?_;rintro e w9 ⟨v9,rfl,A,f⟩;obtain⟨p9,n9,c9,rfl⟩:∃p n c,v9=.slice p n c:=(by obtain⟨p,c,e,_⟩:=A;exact⟨_,_,_,e⟩);have O:=z9 (bel g.out.drew f);have bn:=z9 A;clear A)
        | (go_at_call 17;refine(SO.out _ _ O.out bn.out).mono ?_;rintro e w10 ⟨rfl,d⟩;have b1:=z9 (bel O.out d)))
       clear f d bn O x0 L x2 g bm CO SO
       have b2:=z9 (s.out.below b1.out)
       go_wp2_with fail
       go_roundw
       case rel=>exact⟨j+1,by omega,by go_num,b2⟩
       case measure=>simp[intOf];omega
      ·have ce:¬(j:Int)<(n:Int):=by omega
       have P:=aDq s.out B.out.gl (n:Int)
       have z:out N.ds.length (n:Int):=by unfold out;rw[B.out.len];omega
       rw[if_pos z,if_pos z] at P
       have aj:=z9 s.out.bel
       clear z
       go_wp2_with fail
       refine P.mono ?_
       rintro e w4 ⟨rfl,Q⟩
       have G:=z9 (bel aj.out Q)
       clear Q P
       go_wp2_with fail
       refine(CS.out 1 _ G.out).mono ?_
       rintro e w5 ⟨rfl,HB5⟩
       go_wp2_with fail
       go_ret
       exact⟨rfl,bel G.out HB5.out⟩
end Gaa
end Go.Proofs.YtjcemlmlfoilmaaGreatDoor
