import Derived.Test.YtjcemlmlfoilmaaGreatDoorK3
set_option linter.unusedVariables false
set_option maxRecDepth 100000
set_option maxHeartbeats 8000000
namespace Go.Proofs.YtjcemlmlfoilmaaGreatDoor
open Go.RowKit Om Oc Og Kb Na Oz Oa
namespace Od
open La (aC)
theorem fB(B:Nat)(v:Value)(l:List UInt8)(n:Int)(w:World)(hv:Row w B v l)(hn0:0<=n)(hn1:n<=65535)(hl:l.length<=1000000)(hB:B<=w.heap.size):
  Calls Tryz.prog 46 #[v,.int .i64 n] w fun e w'=>∃v',e=.returned v'/\Row w' B v' (l++b2 n)/\Below B w w'/\B<=w'.heap.size:=by
 obtain⟨p,N,c,rfl,_⟩:=hv.shape
 have j:=z9 hv
 have k:Hid (l.length+1<=1000000000):=by unfold Hid;omega
 have b:Hid (∀c:UInt8,(l++[c]).length+1<=1000000000):=fun c=>by simp;omega
 have m:Hid (n/256=((u8 (n/256)).toNat:Int)):=(bK (by omega) (by omega)).symm
 have o:Hid (n%256=((u8 (n%256)).toNat:Int)):=(bK (by omega) (by omega)).symm
 have q:Hid (∀x y:UInt8,(l++[x])++[y]=l++[x,y]):=fun x y=>by simp
 clear hv hl
 go_in
 go_wp2_with (first
  | (at_builtin;refine aQ w rfl (.tmp 5) (.tmp 9) rfl B (.slice p N c) l _ (u8 (n/256)) _ rfl j.out _ rfl rfl m.out k.out hB ?_;intro v1 w1 hr1 hb1 hs1;obtain⟨r,s,t,rfl,_⟩:=hr1.shape;have d:=z9 hr1;have f:=z9 hb1;clear hr1 hb1)
  | (at_builtin;refine aQ w1 rfl (.tmp 11) (.tmp 15) rfl B (.slice r s t) (l++[u8 (n/256)]) _ (u8 (n%256)) _ rfl d.out _ rfl rfl o.out (b.out _) hs1 ?_;intro v2 w2 hr2 hb2 hs2;have g:=z9 hr2;have h:=z9 (f.out.trans hb2);clear hr2 hb2))
 go_ret
 exact⟨_,rfl,by have:=g.out;rw[q.out] at this;exact this,h.out,hs2⟩
theorem iO(s:ByteArray)(i:Nat)(w:World)(hi:i+1<s.size)(hs:s.size<=maxLen):
  Calls Tryz.prog 72 #[.string s,.int .i64 i] w fun e w'=>e=.returned (.int .i64 (numAt s.toList i))/\zB w w':=by
 have c:=hs;unfold maxLen at c;have d:i<s.size:=by omega
 obtain⟨j,b⟩:=zx (i+1);have p:j<s.size:=by omega
 have f:Hid (((numAt s.toList i:Nat):Int)=(s[i].toNat:Int)*256+(s[j].toNat:Int)):=by
  subst b;unfold Hid numAt;rw[eD s i d,eD s (i+1) hi];omega
 rw[f.out];have g:s[i].toNat<256:=jX _;have h:s[j].toNat<256:=jX _;have k:IntKind.i64.wrap ((i:Int)+1)=(j:Int):=by rw[IntKind.wrap_i64];omega
 have l:IntKind.i64.wrap (s[i].toNat:Int)=(s[i].toNat:Int):=by rw[IntKind.wrap_i64];omega
 have m:IntKind.i64.wrap (s[j].toNat:Int)=(s[j].toNat:Int):=by rw[IntKind.wrap_i64];omega
 have n:IntKind.i64.wrap ((s[i].toNat:Int)*256)=(s[i].toNat:Int)*256:=by rw[IntKind.wrap_i64];omega
 have o:IntKind.i64.wrap ((s[i].toNat:Int)*256+(s[j].toNat:Int))=(s[i].toNat:Int)*256+(s[j].toNat:Int):=by rw[IntKind.wrap_i64];omega
 clear b hi;go_in;go_wp2_with fail;go_quiet (fail)
 go_wp2_with fail;go_ret;exact⟨rfl,aC (qD _ _) _⟩
end Od
namespace Oe
open Cm Od
variable {l:List UInt8}{k n cs:Nat}{s:List Dt}{W:World}
theorem Row.full{w:World}{B:Nat}{v:Value}(h:Row w B v l)(hl:l≠[]):∃g N c,v=.slice (some ⟨g,0,none⟩) N c/\Hid (N=l.length)/\Hid (∀j,j<l.length->w.cell? ⟨g,j,none⟩=some (.int .u8 ((l.getD j 0).toNat:Int))):=by
 obtain⟨p,c,rfl,a,b⟩:=h.slice;obtain⟨g,rfl,_⟩:=a hl;exact⟨g,_,c,rfl,rfl,b g rfl⟩
theorem iZ(hk:k<l.length):sumB (l.take (k+1))=sumB (l.take k)+((l.getD k 0).toNat:Int):=by
 rw[jV,qB hk,qA,qB hk];exact uU _ _
theorem oR(hk:k<s.length):seenB (s.take (k+1))=seenB (s.take k)++(u8 (s.getD k noneD).1::b2 (s.getD k noneD).2):=by
 rw[jV,qB hk,qA,qB hk,nZ];show _++seenB [s[k]]=_
 unfold seenB;simp
theorem aAc{b0 o0:Nat}(h:DtsAt W (.slice (some ⟨b0,o0,none⟩) n cs) s)(hk:k<s.length):DAt W b0 o0 k (s.getD k noneD):=by
 obtain⟨q,c,e,f,_⟩:=h;injection e with e1 e2 e3
 obtain⟨b,o,a,g⟩:=f.some (by intro e;rw[e] at hk;simp at hk);rw[<-e1] at a;injection a with a
 injection a with e5 e6
 subst e5 e6;exact g k hk
theorem sR{ps:Option Addr}(h:DtsAt W (.slice ps n cs) s)(hk:k<s.length):∃b o,ps=some ⟨b,o,none⟩:=by
 obtain⟨q,c,e,d,_⟩:=h;injection e with e1 e2 e3
 obtain⟨b,o,f,g⟩:=d.some (by intro e;rw[e] at hk;simp at hk);exact⟨b,o,by rw[e1,f]⟩
theorem lX(a b t:Int)(p:ByteArray)(c:Int)(vs:Value)(s:List Dt)(w:World)(hd:DtsAt w vs s)(h0:opE ((a,b),t,p,c,s)=0):
  Calls Tryz.prog 47 #[.agg #[.int .i64 a,.int .i64 b,.int .i64 t,.string p,.int .i64 c,vs]] w fun e w'=>e=.returned (.string (fI ((a,b),t,p,c,s)))/\zB w w':=by
 obtain⟨e1,e2,e3,e4⟩:=aO.1 h0
 obtain⟨g1,g2,g3,g4,g5⟩:=bB.1 e4
 simp only at e1 e2 e3 g1 g2 g3 g4 g5
 obtain⟨eg,eh,V,X⟩:=bH.1 e1
 have cg:=Bm.cS e3
 rw[Om.aJ] at cg
 obtain⟨ei,d6⟩:=cg
 obtain⟨ej,ek⟩:=e2
 have a7:∀d ∈ s,dotE d.1 d.2=0:=(dQ.1 g5).1
 have HD:Hid (∀d ∈ s,1<=d.1/\d.1<=8/\1<=d.2/\d.2<=9999):=fun d hd=>bH.1 (a7 d hd)
 obtain⟨ps,cs,ch,_⟩:=id hd
 obtain⟨n,hn⟩:=zx s.length
 rw[<-hn] at ch g4
 have a8:=z9 hn.symm
 subst ch
 clear hn a7 g5 e1 e3 e4 h0
 obtain⟨B,bh⟩:=zx ((w.alloc (.cells #[zI a,zI b,zI t,.string p,zI c,.slice ps n cs] 97)).heap.size)
 have bi:=z9 (Nat.le_of_eq bh)
 have E:Hid (∀W,Below B (w.alloc (.cells #[zI a,zI b,zI t,.string p,zI c,.slice ps n cs] 97)) W->Six W w.heap.size a b t p c (.slice ps n cs)/\DtsAt W (.slice ps n cs) s/\zB w W):=by
  intro W hb
  rw[bh] at hb
  have ci:=bE (qD _ w) hb
  exact⟨(aT w a b t p c (.slice ps n cs) 97).below hb,hd.below ci,ci⟩
 have bj:=fun w=>run_bytes_of_string (P:=Tryz.prog) w 9 86 5 p Tryz.underlying9 Tryz.underlying86 Tryz.underlying5
 have FT:Hid (t=((u8 t).toNat:Int)):=(bK (by omega) (by omega)).symm
 have FA:Hid (a=((u8 a).toNat:Int)):=(bK (by omega) (by omega)).symm
 have FP:Hid ((p.size:Int)=((u8 (p.size:Int)).toNat:Int)):=(bK (by omega) (by omega)).symm
 have el:(p.size:Int)<=12:=by omega
 have em:p.size<=maxLen:=by unfold maxLen;omega
 clear hd bh
 by_cases t1:t=1
 ·subst t1
  obtain⟨en,eo⟩:=g1 rfl
  have FC:Hid (c=((u8 c).toNat:Int)):=(bK (by omega) (by omega)).symm
  have bl:=g3 (by decide)
  subst bl
  clear g1 g2 g3
  go_in
  go_wp2_with (first
   | (at_builtin;refine aQ _ rfl (.tmp 7) (.tmp 11) rfl B (zS) ([]) _ (u8 1) _ rfl (Row.nil _ _) _ rfl (by first | rfl | simp) FT.out (by simp) bi.out ?_;intro v1 w1 hr1 V hs1;obtain⟨p1,N1,c1,rfl,_⟩:=hr1.shape;have ap:=z9 hr1;have Z:=z9 V;obtain⟨⟨h,j,l,m,o,q⟩,_,_⟩:=E.out _ Z.out;clear hr1 V)
   | (at_builtin;refine aQ _ rfl (.tmp 13) (.tmp 18) rfl B (.slice p1 N1 c1) ([]++[u8 1]) _ (u8 a) _ rfl ap.out _ rfl (by first | rfl | simp) FA.out (by simp) hs1 ?_;intro v2 w2 hr2 X hs2;obtain⟨p2,N2,c2,rfl,_⟩:=hr2.shape;have aq:=z9 hr2;have aa:=z9 (Z.out.trans X);clear h j l m o q;obtain⟨⟨h,j,l,m,o,q⟩,_,_⟩:=E.out _ aa.out;clear hr2 X)
   | (go_at_call 46;refine(fB B (.slice p2 N2 c2) ([]++[u8 1]++[u8 a]) b w2 aq.out (by omega) (by omega) (by simp) hs2).mono ?_;rintro e w3 ⟨v3,rfl,H,ab,ar⟩;obtain⟨p3,N3,c3,rfl,_⟩:=H.shape;have au:=z9 H;have ac:=z9 (aa.out.trans ab);clear h j l m o q;obtain⟨⟨h,j,l,m,o,q⟩,_,_⟩:=E.out _ ac.out;clear H ab)
   | (at_builtin;refine aQ _ rfl (.tmp 25) (.tmp 30) rfl B (.slice p3 N3 c3) ([]++[u8 1]++[u8 a]++b2 b) _ (u8 (p.size:Int)) _ rfl au.out _ rfl (by first | rfl | simp) FP.out (by simp[bO]) ar ?_;intro v4 w4 hr4 hb4 hs4;obtain⟨p4,N4,c4,rfl,_⟩:=hr4.shape;have av:=z9 hr4;have ad:=z9 (ac.out.trans hb4);clear h j l m o q;obtain⟨⟨h,j,l,m,o,q⟩,_,_⟩:=E.out _ ad.out;clear hr4 hb4)
   | (at_builtin;refine gH _ rfl (.tmp 32) (.tmp 35) rfl B (.slice p4 N4 c4) ([]++[u8 1]++[u8 a]++b2 b++[u8 (p.size:Int)]) p _ _ rfl av.out _ rfl (by first | rfl | simp) (by simp[bO];omega) hs4 ?_;intro v5 w5 hr5 hb5 hs5;obtain⟨p5,N5,c5,rfl,_⟩:=hr5.shape;have ah:=z9 hr5;have ae:=z9 (ad.out.trans hb5);clear h j l m o q;obtain⟨⟨h,j,l,m,o,q⟩,_,_⟩:=E.out _ ae.out;clear hr5 hb5 bj)
   | (at_builtin;refine aQ _ rfl (.tmp 40) (.tmp 44) rfl B (.slice p5 N5 c5) ([]++[u8 1]++[u8 a]++b2 b++[u8 (p.size:Int)]++p.toList) _ (u8 c) _ rfl ah.out _ rfl (by first | rfl | simp) FC.out (by simp[bO,Om.aJ];omega) hs5 ?_;intro v6 w6 hr6 hb6 ai;obtain⟨p6,R,c6,rfl,_⟩:=hr6.shape;have G:=z9 hr6;have T:=z9 (ae.out.trans hb6);clear h j l m o q;obtain⟨⟨h,j,l,m,o,q⟩,_,_⟩:=E.out _ T.out;clear hr6 hb6))
  obtain⟨g,NN,cc,aw,D,HC⟩:=Row.full G.out (by simp)
  injection aw with hv1 hv2 hv3
  subst hv1 hv2 hv3
  obtain⟨y,I⟩:=zx ([]++[u8 1]++[u8 a]++b2 b++[u8 (p.size:Int)]++p.toList++[u8 c])
  have ay:Hid (y++[u8 (sumB y%253)]=bytesB ((a,b),1,p,c,[])):=by
   unfold Hid;rw[I];unfold bytesB frontB tailB b2
   simp
  have cj:R<=200:=by rw[D.out];simp[bO,Om.aJ];omega
  rw[<-I] at G D HC
  clear I h j l m o q 
  go_loop [5,6] (fun sm i=>∃(k:Nat) (S:Int),k<=R/\i=zI k/\sm=zI S/\0<=S/\S<=255*k/\Hid (S=sumB (y.take k))) (fun _ i=>R-(intOf i).toNat)
  case atStart=>exact⟨0,0,by omega,rfl,rfl,by omega,by omega,rfl⟩
  case round=>
   obtain⟨k,S,hk,rfl,rfl,ck,cl,af⟩:=hrel
   by_cases ag:k<R
   ·have U:(k:Int)<R:=by omega
    have K:k<y.length:=by rw[<-D.out];exact ag
    have F:=HC.out k K
    have A:=iZ K
    obtain⟨x,hx⟩:=zx (y.getD k 0)
    rw[<-hx] at F A
    have az:x.toNat<256:=jX x
    obtain⟨z,hz⟩:∃z:Int,z=(x.toNat:Int):=⟨_,rfl⟩
    rw[<-hz] at F A
    have cm:0<=z:=by omega
    have cn:z<=255:=by omega
    have L:Hid (S+z=sumB (y.take (k+1))):=by unfold Hid;rw[A,af.out]
    clear hx hz az A K
    go_wp2_with fail
    go_round
    case rel=>exact⟨k+1,S+z,by omega,by go_num,by go_num,by omega,by omega,L⟩
    case measure=>simp[intOf];omega
   ·obtain rfl:k=R:=by omega
    have a1:Hid (S=sumB y):=by
     have h9:=af.out
     rw[qW (by rw[<-D.out];exact qC _)] at h9
     exact h9
    have FS:Hid (S%253=((u8 (S%253)).toNat:Int)):=(bK (by omega) (by omega)).symm
    have a2:Hid (y.length+1<=1000000000):=by unfold Hid;rw[<-D.out];omega
    have U:¬(k:Int)<k:=by omega
    go_wp2_with (at_builtin;refine aQ _ rfl (.tmp 94) (.tmp 98) rfl B (.slice (some (zA g)) k c6) y _ (u8 (S%253)) _ rfl G.out _ rfl (by first | rfl | simp) FS.out a2.out ai ?_;intro v9 w9 hr9 hb9 hs9;have M:=hr9.reads (by simp);obtain⟨p9,N9,c9,rfl,_⟩:=hr9.shape;have a3:=z9 (T.out.trans hb9);rw[a1.out,ay.out] at M;obtain⟨T9,O⟩:∃T9:ByteArray,T9=⟨(bytesB ((a,b),1,p,c,[])).toArray⟩:=⟨_,rfl⟩;rw[<-O] at M;have a5:=z9 O;clear O hr9 hb9)
    go_ret
    exact⟨by rw[a5.out];rfl,(E.out _ a3.out).2.2⟩
 by_cases t4:t=4
 case neg=>
  have ep:(t==1)=false:=by simpa using t1
  have eq:(t==4)=false:=by simpa using t4
  have bl:=g3 t4
  subst bl
  have dn:=z9 t1
  have dp:=z9 t4
  clear g1 g2 g3 t1 t4
  go_in
  go_wp2_with (first
   | (at_builtin;refine aQ _ rfl (.tmp 7) (.tmp 11) rfl B (zS) ([]) _ (u8 t) _ rfl (Row.nil _ _) _ rfl (by first | rfl | simp) FT.out (by simp) bi.out ?_;intro v1 w1 hr1 V hs1;obtain⟨p1,N1,c1,rfl,_⟩:=hr1.shape;have ap:=z9 hr1;have Z:=z9 V;obtain⟨⟨h,j,l,m,o,q⟩,_,_⟩:=E.out _ Z.out;clear hr1 V)
   | (at_builtin;refine aQ _ rfl (.tmp 13) (.tmp 18) rfl B (.slice p1 N1 c1) ([]++[u8 t]) _ (u8 a) _ rfl ap.out _ rfl (by first | rfl | simp) FA.out (by simp) hs1 ?_;intro v2 w2 hr2 X hs2;obtain⟨p2,N2,c2,rfl,_⟩:=hr2.shape;have aq:=z9 hr2;have aa:=z9 (Z.out.trans X);clear h j l m o q;obtain⟨⟨h,j,l,m,o,q⟩,_,_⟩:=E.out _ aa.out;clear hr2 X)
   | (go_at_call 46;refine(fB B (.slice p2 N2 c2) ([]++[u8 t]++[u8 a]) b w2 aq.out (by omega) (by omega) (by simp) hs2).mono ?_;rintro e w3 ⟨v3,rfl,H,ab,ar⟩;obtain⟨p3,N3,c3,rfl,_⟩:=H.shape;have au:=z9 H;have ac:=z9 (aa.out.trans ab);clear h j l m o q;obtain⟨⟨h,j,l,m,o,q⟩,_,_⟩:=E.out _ ac.out;clear H ab)
   | (at_builtin;refine aQ _ rfl (.tmp 25) (.tmp 30) rfl B (.slice p3 N3 c3) ([]++[u8 t]++[u8 a]++b2 b) _ (u8 (p.size:Int)) _ rfl au.out _ rfl (by first | rfl | simp) FP.out (by simp[bO]) ar ?_;intro v4 w4 hr4 hb4 hs4;obtain⟨p4,N4,c4,rfl,_⟩:=hr4.shape;have av:=z9 hr4;have ad:=z9 (ac.out.trans hb4);clear h j l m o q;obtain⟨⟨h,j,l,m,o,q⟩,_,_⟩:=E.out _ ad.out;clear hr4 hb4)
   | (at_builtin;refine gH _ rfl (.tmp 32) (.tmp 35) rfl B (.slice p4 N4 c4) ([]++[u8 t]++[u8 a]++b2 b++[u8 (p.size:Int)]) p _ _ rfl av.out _ rfl (by first | rfl | simp) (by simp[bO];omega) hs4 ?_;intro v5 w5 hr5 hb5 hs5;obtain⟨p5,N5,c5,rfl,_⟩:=hr5.shape;have ah:=z9 hr5;have ae:=z9 (ad.out.trans hb5);clear h j l m o q;obtain⟨⟨h,j,l,m,o,q⟩,_,_⟩:=E.out _ ae.out;clear hr5 hb5 bj))
  obtain⟨g,NN,cc,aw,D,HC⟩:=Row.full ah.out (by simp)
  injection aw with hv1 hv2 hv3
  subst hv1 hv2 hv3
  obtain⟨y,I⟩:=zx ([]++[u8 t]++[u8 a]++b2 b++[u8 (p.size:Int)]++p.toList)
  have ay:Hid (y++[u8 (sumB y%253)]=bytesB ((a,b),t,p,c,[])):=by
   unfold Hid;rw[I];unfold bytesB frontB tailB b2
   simp[dn.out,dp.out]
  have cj:N5<=200:=by rw[D.out];simp[bO,Om.aJ];omega
  rw[<-I] at ah D HC
  clear I h j l m o q 
  go_loop [5,6] (fun sm i=>∃(k:Nat) (S:Int),k<=N5/\i=zI k/\sm=zI S/\0<=S/\S<=255*k/\Hid (S=sumB (y.take k))) (fun _ i=>N5-(intOf i).toNat)
  case atStart=>exact⟨0,0,by omega,rfl,rfl,by omega,by omega,rfl⟩
  case round=>
   obtain⟨k,S,hk,rfl,rfl,ck,cl,af⟩:=hrel
   by_cases ag:k<N5
   ·have U:(k:Int)<N5:=by omega
    have K:k<y.length:=by rw[<-D.out];exact ag
    have F:=HC.out k K
    have A:=iZ K
    obtain⟨x,hx⟩:=zx (y.getD k 0)
    rw[<-hx] at F A
    have az:x.toNat<256:=jX x
    obtain⟨z,hz⟩:∃z:Int,z=(x.toNat:Int):=⟨_,rfl⟩
    rw[<-hz] at F A
    have cm:0<=z:=by omega
    have cn:z<=255:=by omega
    have L:Hid (S+z=sumB (y.take (k+1))):=by unfold Hid;rw[A,af.out]
    clear hx hz az A K
    go_wp2_with fail
    go_round
    case rel=>exact⟨k+1,S+z,by omega,by go_num,by go_num,by omega,by omega,L⟩
    case measure=>simp[intOf];omega
   ·obtain rfl:k=N5:=by omega
    have a1:Hid (S=sumB y):=by
     have h9:=af.out
     rw[qW (by rw[<-D.out];exact qC _)] at h9
     exact h9
    have FS:Hid (S%253=((u8 (S%253)).toNat:Int)):=(bK (by omega) (by omega)).symm
    have a2:Hid (y.length+1<=1000000000):=by unfold Hid;rw[<-D.out];omega
    have U:¬(k:Int)<k:=by omega
    go_wp2_with (at_builtin;refine aQ _ rfl (.tmp 94) (.tmp 98) rfl B (.slice (some (zA g)) k c5) y _ (u8 (S%253)) _ rfl ah.out _ rfl (by first | rfl | simp) FS.out a2.out hs5 ?_;intro v9 w9 hr9 hb9 hs9;have M:=hr9.reads (by simp);obtain⟨p9,N9,c9,rfl,_⟩:=hr9.shape;have a3:=z9 (ae.out.trans hb9);rw[a1.out,ay.out] at M;obtain⟨T9,O⟩:∃T9:ByteArray,T9=⟨(bytesB ((a,b),t,p,c,[])).toArray⟩:=⟨_,rfl⟩;rw[<-O] at M;have a5:=z9 O;clear O hr9 hb9)
    go_ret
    exact⟨by rw[a5.out];rfl,(E.out _ a3.out).2.2⟩
 ·subst t4
  have FN:Hid ((n:Int)=((u8 (n:Int)).toNat:Int)):=(bK (by omega) (by omega)).symm
  have er:(n:Int)<=40:=by omega
  clear g1 g2 g3 t1
  go_in
  go_wp2_with (first
   | (at_builtin;refine aQ _ rfl (.tmp 7) (.tmp 11) rfl B (zS) ([]) _ (u8 4) _ rfl (Row.nil _ _) _ rfl (by first | rfl | simp) FT.out (by simp) bi.out ?_;intro v1 w1 hr1 V hs1;obtain⟨p1,N1,c1,rfl,_⟩:=hr1.shape;have ap:=z9 hr1;have Z:=z9 V;obtain⟨⟨h,j,l,m,o,q⟩,_,_⟩:=E.out _ Z.out;clear hr1 V)
   | (at_builtin;refine aQ _ rfl (.tmp 13) (.tmp 18) rfl B (.slice p1 N1 c1) ([]++[u8 4]) _ (u8 a) _ rfl ap.out _ rfl (by first | rfl | simp) FA.out (by simp) hs1 ?_;intro v2 w2 hr2 X hs2;obtain⟨p2,N2,c2,rfl,_⟩:=hr2.shape;have aq:=z9 hr2;have aa:=z9 (Z.out.trans X);clear h j l m o q;obtain⟨⟨h,j,l,m,o,q⟩,_,_⟩:=E.out _ aa.out;clear hr2 X)
   | (go_at_call 46;refine(fB B (.slice p2 N2 c2) ([]++[u8 4]++[u8 a]) b w2 aq.out (by omega) (by omega) (by simp) hs2).mono ?_;rintro e w3 ⟨v3,rfl,H,ab,ar⟩;obtain⟨p3,N3,c3,rfl,_⟩:=H.shape;have au:=z9 H;have ac:=z9 (aa.out.trans ab);clear h j l m o q;obtain⟨⟨h,j,l,m,o,q⟩,_,_⟩:=E.out _ ac.out;clear H ab)
   | (at_builtin;refine aQ _ rfl (.tmp 25) (.tmp 30) rfl B (.slice p3 N3 c3) ([]++[u8 4]++[u8 a]++b2 b) _ (u8 (p.size:Int)) _ rfl au.out _ rfl (by first | rfl | simp) FP.out (by simp[bO]) ar ?_;intro v4 w4 hr4 hb4 hs4;obtain⟨p4,N4,c4,rfl,_⟩:=hr4.shape;have av:=z9 hr4;have ad:=z9 (ac.out.trans hb4);clear h j l m o q;obtain⟨⟨h,j,l,m,o,q⟩,_,_⟩:=E.out _ ad.out;clear hr4 hb4)
   | (at_builtin;refine gH _ rfl (.tmp 32) (.tmp 35) rfl B (.slice p4 N4 c4) ([]++[u8 4]++[u8 a]++b2 b++[u8 (p.size:Int)]) p _ _ rfl av.out _ rfl (by first | rfl | simp) (by simp[bO];omega) hs4 ?_;intro v5 w5 hr5 hb5 hs5;obtain⟨p5,N5,c5,rfl,_⟩:=hr5.shape;have ah:=z9 hr5;have ae:=z9 (ad.out.trans hb5);clear h j l m o q;obtain⟨⟨h,j,l,m,o,q⟩,_,_⟩:=E.out _ ae.out;clear hr5 hb5 bj)
   | (at_builtin;refine aQ _ rfl (.tmp 49) (.tmp 54) rfl B (.slice p5 N5 c5) ([]++[u8 4]++[u8 a]++b2 b++[u8 (p.size:Int)]++p.toList) _ (u8 (n:Int)) _ rfl ah.out _ rfl (by first | rfl | simp) FN.out (by simp[bO,Om.aJ];omega) hs5 ?_;intro v6 w6 hr6 hb6 ai;obtain⟨p6,R,c6,rfl,_⟩:=hr6.shape;have G:=z9 hr6;have T:=z9 (ae.out.trans hb6);clear h j l m o q;obtain⟨⟨h,j,l,m,o,q⟩,_,_⟩:=E.out _ T.out;clear hr6 hb6))
  obtain⟨Q6,a9⟩:∃Q,Q=[]++[u8 4]++[u8 a]++b2 b++[u8 (p.size:Int)]++p.toList++[u8 (n:Int)]:=⟨_,rfl⟩
  have co:=z9 a9
  have cp:Hid (Q6.length<=30):=by rw[a9];unfold Hid;simp[Om.aJ,bO];omega
  have b4:Hid (Row w6 B (.slice p6 R c6) (Q6++seenB (s.take 0))):=by
   have h9:=G.out
   rw[<-a9] at h9
   rw[show seenB (s.take 0)=[] from rfl,vY];exact h9
  clear a9 G h j l m o q
  go_loopw [3,4] (fun v i wr=>∃(k:Nat),k<=n/\i=zI k/\(∃P N C,v=.slice P N C)/\Hid (Row wr B v (Q6++seenB (s.take k)))/\Hid (Below B (w.alloc (.cells #[zI a,zI b,zI 4,.string p,zI c,.slice ps n cs] 97)) wr)/\B<=wr.heap.size) (fun _ i _=>n-(intOf i).toNat)
  case atStart=>exact⟨0,by omega,rfl,⟨_,_,_,rfl⟩,b4,T,ai⟩
  case round=>
   clear b4 T ai
   obtain⟨k,hk,rfl,⟨p6,R,c6,rfl⟩,G,T,ai⟩:=hrel
   obtain⟨⟨h,j,l,m,o,q⟩,b5,_⟩:=E.out _ T.out
   by_cases ag:k<n
   ·have U:(k:Int)<n:=by omega
    have an:k<s.length:=by rw[a8.out];exact ag
    obtain⟨b0,o0,rfl⟩:=sR b5 an
    have hx:=aAc b5 an
    have A:=oR an
    have b6:=HD.out _ (cC an)
    obtain⟨x,b7⟩:=zx (s.getD k noneD)
    rw[<-b7] at hx A b6
    obtain⟨x1,x2⟩:=x
    obtain⟨f1,f2⟩:=hx
    simp only at f1 f2 A b6
    obtain⟨es,et,eu,ev⟩:=b6
    have FX:Hid (x1=((u8 x1).toNat:Int)):=(bK (by omega) (by omega)).symm
    have b8:Hid ((Q6++seenB (s.take k)).length<=200):=by
     unfold Hid;rw[qE,fQ,qQ];have:=cp.out;omega
    have L:Hid (Q6++seenB (s.take (k+1))=(Q6++seenB (s.take k))++[u8 x1]++b2 x2):=by unfold Hid;rw[A];simp
    have dt:=z9 b7
    have du:=z9 an
    clear b7 A b5 an
    obtain⟨Q7,cq⟩:∃Q,Q=Q6++seenB (s.take k):=⟨_,rfl⟩
    rw[<-cq] at G b8 L
    have dv:Hid (Q7.length+1<=1000000000):=by unfold Hid;have:=b8.out;omega
    have dw:Hid ((Q7++[u8 x1]).length<=1000000):=by unfold Hid;have:=b8.out;simp;omega
    clear cq
    go_wp2_with (first
     | (at_builtin;refine aQ _ rfl (.tmp 63) (.tmp 71) rfl B (.slice p6 R c6) Q7 _ (u8 x1) _ rfl G.out _ rfl (by first | rfl | simp) FX.out dv.out ai ?_;intro v7 w7 hr7 hb7 hs7;obtain⟨p7,N7,c7,rfl,_⟩:=hr7.shape;have dx:=z9 hr7;have cr:=z9 (T.out.trans hb7);clear h j l m o q;obtain⟨⟨h,j,l,m,o,q⟩,ct,_⟩:=E.out _ cr.out;have cu:=aAc ct du.out;rw[<-dt.out] at cu;obtain⟨f3,f4⟩:=cu;simp only at f3 f4;clear hr7 hb7 f1 f2 ct)
     | (go_at_call 46;refine(fB B (.slice p7 N7 c7) (Q7++[u8 x1]) x2 w7 dx.out (by omega) (by omega) dw.out hs7).mono ?_;rintro e w8 ⟨v8,rfl,b9,cv,dy⟩;obtain⟨p8,N8,c8,rfl,_⟩:=b9.shape;have cw:=z9 b9;have dz:=z9 (cr.out.trans cv);clear b9 cv))
    rw[<-L.out] at cw
    go_roundw
    case rel=>exact⟨k+1,by omega,by go_num,⟨_,_,_,rfl⟩,cw,dz,dy⟩
    case measure=>simp[intOf];omega
   ·obtain rfl:n=k:=by omega
    have U:¬(n:Int)<n:=by omega
    rw[qW (by rw[a8.out];exact qC _)] at G
    clear ag hk
    go_wp2_with fail
    obtain⟨g,NN,cc,aw,D,HC⟩:=Row.full G.out (by rw[co.out];simp)
    injection aw with hv1 hv2 hv3
    subst hv1 hv2 hv3
    obtain⟨y,I⟩:=zx (Q6++seenB s)
    have ay:Hid (y++[u8 (sumB y%253)]=bytesB ((a,b),4,p,c,s)):=by
     unfold Hid;rw[I,co.out];unfold bytesB frontB tailB b2
     simp[a8.out]
    have cj:R<=200:=by rw[D.out];rw[qE,fQ,a8.out];have:=cp.out;omega
    rw[<-I] at G D HC
    clear I h j l m o q 
    go_loop [5,6] (fun sm i=>∃(k:Nat) (S:Int),k<=R/\i=zI k/\sm=zI S/\0<=S/\S<=255*k/\Hid (S=sumB (y.take k))) (fun _ i=>R-(intOf i).toNat)
    case atStart=>exact⟨0,0,by omega,rfl,rfl,by omega,by omega,rfl⟩
    case round=>
     obtain⟨k,S,hk,rfl,rfl,ck,cl,af⟩:=hrel
     by_cases ag:k<R
     ·have U:(k:Int)<R:=by omega
      have K:k<y.length:=by rw[<-D.out];exact ag
      have F:=HC.out k K
      have A:=iZ K
      obtain⟨x,hx⟩:=zx (y.getD k 0)
      rw[<-hx] at F A
      have az:x.toNat<256:=jX x
      obtain⟨z,hz⟩:∃z:Int,z=(x.toNat:Int):=⟨_,rfl⟩
      rw[<-hz] at F A
      have cm:0<=z:=by omega
      have cn:z<=255:=by omega
      have L:Hid (S+z=sumB (y.take (k+1))):=by unfold Hid;rw[A,af.out]
      clear hx hz az A K
      go_wp2_with fail
      go_round
      case rel=>exact⟨k+1,S+z,by omega,by go_num,by go_num,by omega,by omega,L⟩
      case measure=>simp[intOf];omega
     ·obtain rfl:k=R:=by omega
      have a1:Hid (S=sumB y):=by
       have h9:=af.out
       rw[qW (by rw[<-D.out];exact qC _)] at h9
       exact h9
      have FS:Hid (S%253=((u8 (S%253)).toNat:Int)):=(bK (by omega) (by omega)).symm
      have a2:Hid (y.length+1<=1000000000):=by unfold Hid;rw[<-D.out];omega
      have U:¬(k:Int)<k:=by omega
      go_wp2_with (at_builtin;refine aQ _ rfl (.tmp 94) (.tmp 98) rfl B (.slice (some (zA g)) k c6) y _ (u8 (S%253)) _ rfl G.out _ rfl (by first | rfl | simp) FS.out a2.out ai ?_;intro v9 w9 hr9 hb9 hs9;have M:=hr9.reads (by simp);obtain⟨p9,N9,c9,rfl,_⟩:=hr9.shape;have a3:=z9 (T.out.trans hb9);rw[a1.out,ay.out] at M;obtain⟨T9,O⟩:∃T9:ByteArray,T9=⟨(bytesB ((a,b),4,p,c,s)).toArray⟩:=⟨_,rfl⟩;rw[<-O] at M;have a5:=z9 O;clear O hr9 hb9)
      go_ret
      exact⟨by rw[a5.out];rfl,(E.out _ a3.out).2.2⟩
end Oe
namespace Oh
open Od Oe Oi Ob
open La (bel iR own_below)
def Z6:Array Value:=#[.int .i64 0,.int .i64 0,.int .i64 0,.string ⟨#[]⟩,.int .i64 0,.slice none 0 0]
theorem pH{w w5:World}{A B:Array Value}{t:TypeId}(hb:Below ((w.alloc (.cells A t)).alloc (.cells B t)).heap.size ((w.alloc (.cells A t)).alloc (.cells B t)) w5):
  w5.heap[w.heap.size]? =some (.cells A t (0,0))/\w5.heap[w.heap.size+1]? =some (.cells B t (0,0))/\zB w w5/\w.heap.size+2<=w5.heap.size:=by
 refine⟨?_, ?_,bel ((zb w _).alloc (by simp) _) hb, ?_⟩
 ·rw[hb.block _ (by simp;omega)];have:=heap_alloc_old (w.alloc (.cells A t)) (.cells B t) (show w.heap.size<_ by simp);exact this.trans (heap_alloc_new w _)
 ·rw[hb.block _ (by simp)];have:=heap_alloc_new (w.alloc (.cells A t)) (.cells B t);rwa [show(w.alloc (.cells A t)).heap.size=w.heap.size+1 by simp] at this
 ·have:=hb.size;simp at this;omega
def six6 (w:World) (g:Nat) (x0 x1 x2 x3 x4 x5:Value):World:=(((((w.setCell ⟨g,0,none⟩ x0).setCell ⟨g,1,none⟩ x1).setCell ⟨g,2,none⟩ x2).setCell ⟨g,3,none⟩ x3).setCell ⟨g,4,none⟩ x4).setCell ⟨g,5,none⟩ x5
variable {s:List UInt8}(w:World)(g:Nat)(x0 x1 x2 x3 x4 x5:Value)
theorem dT(k:Nat)(h:k≠g):(six6 w g x0 x1 x2 x3 x4 x5).heap[k]? =w.heap[k]? :=by
 unfold six6;rw[set_block _ _ _ _ h,set_block _ _ _ _ h,set_block _ _ _ _ h,set_block _ _ _ _ h,set_block _ _ _ _ h,set_block _ _ _ _ h]
theorem eN:(six6 w g x0 x1 x2 x3 x4 x5).heap.size=w.heap.size:=by
 simp[six6,World.setCell]
theorem dP{w0 w:World}{g B:Nat}(hb:Below B w0 w)(hg:B<=g)(x0 x1 x2 x3 x4 x5:Value):Below B w0 (six6 w g x0 x1 x2 x3 x4 x5):=
 (((((hb.setCell (p:=(zA g)) hg x0).setCell (p:=⟨g,1,none⟩) hg x1).setCell (p:=⟨g,2,none⟩) hg x2).setCell (p:=⟨g,3,none⟩) hg x3).setCell (p:=⟨g,4,none⟩) hg x4).setCell (p:=⟨g,5,none⟩) hg x5
theorem aK{W W':World}{k:Nat}{o:Obj}(hb:zB W W')(h:W.heap[k]? =some o):W'.heap[k]? =some o:=by
 rw[hb.block k (by
  rcases xR k W.heap.size with e | e
  ·exact e
  ·rw[jQ e] at h;cases h)]
 exact h
theorem aH3(hv:(decB s).isSome=true):6+(s.getD 4 0).toNat<=s.length:=by
 obtain⟨o,d⟩:=Option.isSome_iff_exists.1 hv;obtain⟨a,f⟩:=cU.1 d;obtain⟨_,_,b⟩:=iW a;have g:=Bm.cS (aO.1 a).2.2.1;rw[Om.aJ] at g;have e:=bK (n:=(o.2.2.1.size:Int)) (by omega) (by omega);have c:=gE o;rw[f] at b c;rw[b,c];omega
theorem aHi(hv:(decB s).isSome=true)(h4:(readB s).2.1=4):(((s.drop (5+(s.getD 4 0).toNat)).headD 0).toNat:Int)=(readB s).2.2.2.2.length:=by
 obtain⟨o,g⟩:=Option.isSome_iff_exists.1 hv;obtain⟨a,b⟩:=cU.1 g;obtain⟨c,_,d⟩:=iW a;have h:=Bm.cS (aO.1 a).2.2.1;rw[Om.aJ] at h;have e:=bK (n:=(o.2.2.1.size:Int)) (by omega) (by omega);have j:=(bB.1 (aO.1 a).2.2.2).2.2.2.1;rw[b] at c d;rw[c] at h4 |-;have i:(s.getD 4 0).toNat=o.2.2.1.toList.length:=by rw[d,Om.aJ];omega
 rw[i,<-b];unfold bytesB frontB tailB;rw[if_neg (by rw[h4];decide),if_pos h4,show 5+o.2.2.1.toList.length=o.2.2.1.toList.length+1+1+1+1+1 by omega];simp only[jJ,List.drop_succ_cons,vC,vJ,List.drop_left];exact bK (by omega) (by omega)
theorem aB4(s:ByteArray)(w:World)(hs:s.size <=maxLen)(hv:Hid ((decB s.toList).isSome=true)):
  Calls Tryz.prog 73 #[.string s] w fun e w'=>∃u,e=.returned (.tuple #[u,.bool (decB s.toList).isSome]) /\ Kept w.heap.size w' u ((decB s.toList).getD oz) /\ zB w w':=by
 have hm:=hs;unfold maxLen at hm;by_cases h5:s.size<5
 ·have F:Hid (decB s.toList=none):=by unfold Hid decB;rw[if_pos (qH (by rw[Om.aJ];exact h5))]
  have h:=hv.out;rw[F.out] at h;cases h
 have h4:4<s.size:=by omega
 have h0:0<s.size:=by omega
 have h1:1<s.size:=by omega
 have d3:s[4].toNat<256:=jX _;have hz:¬(s.size:Int)<5:=by omega
 by_cases h6:s.size<5+s[4].toNat
 ·have F:Hid (decB s.toList=none):=by unfold Hid decB;rw[if_pos (qF (by rw[Om.aJ,eD s 4 h4];exact h6))]
  have h:=hv.out;rw[F.out] at h;cases h
 have d4:¬(s.size:Int)<5+(s[4].toNat:Int):=by omega
 have d5:s[0].toNat<256:=jX _;have d6:s[1].toNat<256:=jX _;obtain⟨E,hE⟩:∃E:Nat,(5:Int)+(s[4].toNat:Int)=(E:Int):=⟨5+s[4].toNat,by omega⟩;have d7:5 <=E:=by omega
 have cb:E <=s.size:=by omega
 have ds:(5:Int) <=E:=by omega
 have dt:(E:Int) <=s.size:=by omega
 obtain⟨t,ht⟩:∃t:Int,(s[0].toNat:Int)=t:=⟨_,rfl⟩;obtain⟨a,ha⟩:∃a:Int,(s[1].toNat:Int)=a:=⟨_,rfl⟩;obtain⟨b,hb⟩:∃b:Int,((numAt s.toList 2:Nat):Int)=b:=⟨_,rfl⟩;obtain⟨P,hP⟩:∃P,s.extract 5 E=P:=⟨_,rfl⟩;obtain⟨y,hR⟩:∃y,s.extract E s.size=y:=⟨_,rfl⟩;have a1:=aHu s E a b t P y h4 hE ht ha hb hP hR cb;have cc:y.size=s.size-E:=by rw[<- hR,size_extract s E s.size (qC _)]
 have bs:P.size <=maxLen:=by rw[<- hP,size_extract s 5 E cb];omega
 have cz:y.size <=maxLen:=by omega
 have CN:=fun W=>iO s 2 W (by omega) hs
 rw[hb] at CN;clear hb;have c1:=z9 cc;clear cc;by_cases d8:y.size=0
 ·have h:=aH3 hv.out;rw[Om.aJ,eD s 4 h4] at h;have h8:=c1.out;omega
 have c3:0<y.size:=by omega
 have d9:(0:Int)<y.size:=by omega
 have ea:y[0].toNat<256:=jX _;have a2:=eD y 0 c3;by_cases t1:t=1
 ·have c4:(t==1)=true:=by simpa using t1
  have cd:(t==4)=false:=by rw[t1];rfl
  obtain⟨c,hc⟩:∃c:Int,(y[0].toNat:Int)=c:=⟨_,rfl⟩
  have HX:Hid (readB s.toList=((a,b),t,P,c,[])):=by
   unfold Hid;rw[a1];unfold letterIn seenIn;rw[if_pos t1,if_neg (by rw[t1];decide), <- rS,a2,hc]
  clear a1 a2 t1;go_in;go_wp2_with fail;refine(CN _).mono ?_;rintro e w5 ⟨rfl,al⟩;obtain⟨am,an,M,N⟩:=pH al;have ao:=z9 am;have O:=z9 an;have K5:=z9 M;have bm:=z9 N;clear al am an M N CN;have o0:w5.cell? ⟨w.heap.size+1,0,none⟩=some (zI a):=cell_of O.out rfl;have o1:w5.cell? ⟨w.heap.size+1,1,none⟩=some (zI 0):=cell_of O.out rfl;have o2:w5.cell? ⟨w.heap.size+1,2,none⟩=some (zI t):=cell_of O.out rfl;have o3:w5.cell? ⟨w.heap.size+1,3,none⟩=some (.string ⟨#[]⟩):=cell_of O.out rfl;have o4:w5.cell? ⟨w.heap.size+1,4,none⟩=some (zI 0):=cell_of O.out rfl;have X:w5.cell? ⟨w.heap.size+1,5,none⟩=some (.slice none 0 0):=cell_of O.out rfl;have a5:w5.frozen? ⟨w.heap.size+1,0,none⟩=false:=aI O.out;have a6:w5.frozen? ⟨w.heap.size+1,1,none⟩=false:=aI O.out;have a7:w5.frozen? ⟨w.heap.size+1,2,none⟩=false:=aI O.out;have a8:w5.frozen? ⟨w.heap.size+1,3,none⟩=false:=aI O.out;have a9:w5.frozen? ⟨w.heap.size+1,4,none⟩=false:=aI O.out;have ba:w5.frozen? ⟨w.heap.size+1,5,none⟩=false:=aI O.out;go_wp2_with fail;have Q:Hid (((((w5.setCell ⟨w.heap.size+1,1,none⟩ (zI b)).setCell ⟨w.heap.size+1,3,none⟩ (.string P)).setCell ⟨w.heap.size+1,4,none⟩ (zI c))).heap[w.heap.size+1]? =some (.cells #[zI a,zI b,zI t,.string P,zI c,.slice none 0 0] 97 (0,0))):=setCell_heap (setCell_heap (setCell_heap O.out));have S:Hid (((((w5.setCell ⟨w.heap.size+1,1,none⟩ (zI b)).setCell ⟨w.heap.size+1,3,none⟩ (.string P)).setCell ⟨w.heap.size+1,4,none⟩ (zI c))).heap[w.heap.size]? =some (.cells Z6 97 (0,0))):=by unfold Hid;rw[set_block _ _ _ _ (by simp),set_block _ _ _ _ (by simp),set_block _ _ _ _ (by simp)];exact ao.out
  have T:Hid (zB w ((((w5.setCell ⟨w.heap.size+1,1,none⟩ (zI b)).setCell ⟨w.heap.size+1,3,none⟩ (.string P)).setCell ⟨w.heap.size+1,4,none⟩ (zI c)))):=((K5.out.setCell (p:=⟨w.heap.size+1,1,none⟩) (by simp) _).setCell (p:=⟨w.heap.size+1,3,none⟩) (by simp) _).setCell (p:=⟨w.heap.size+1,4,none⟩) (by simp) _;obtain⟨w7,U⟩:=zx (((w5.setCell ⟨w.heap.size+1,1,none⟩ (zI b)).setCell ⟨w.heap.size+1,3,none⟩ (.string P)).setCell ⟨w.heap.size+1,4,none⟩ (zI c));rw[<- U] at Q S T;rw[<- U];have KO:=Q;have KR:=S;have K7:=T;have HV:Hid (∀W,(∀k,w.heap.size+2 <=k -> k<w7.heap.size -> W.heap[k]? =w7.heap[k]?) -> DtsAt W (.slice none 0 0) []):=fun W _=>DtsAt.nil W
  clear Q S T ao K5 O o0 o1 o2 o3 o4 X a5 a6 a7 a8 a9 ba U;have CO:=dR a b t P (c) (.slice none 0 0) ([]) w7 bs (HV.out w7 (fun _ _ _=>rfl));by_cases B:opE ((a,b),t,P,c,[])=0
  case neg=>
   have F:Hid (decB s.toList=none):=by
    unfold Hid decB;split
    ·rfl
    ·rw[HX.out,if_neg (fun e=>B e.1)]
   have h:=hv.out;rw[F.out] at h;cases h
  rw[B] at CO;refine CO.mono ?_;rintro e w8 ⟨rfl,g⟩;have bb:=z9 (bel K7.out g);have aw:=z9 (aK g KR.out);have O:=z9 (aK g KO.out);have ap:=z9 g.size;have aq:=z9 g.block;have o0:w8.cell? ⟨w.heap.size+1,0,none⟩=some (zI a):=cell_of O.out rfl;have o1:w8.cell? ⟨w.heap.size+1,1,none⟩=some (zI b):=cell_of O.out rfl;have o2:w8.cell? ⟨w.heap.size+1,2,none⟩=some (zI t):=cell_of O.out rfl;have o3:w8.cell? ⟨w.heap.size+1,3,none⟩=some (.string P):=cell_of O.out rfl;have o4:w8.cell? ⟨w.heap.size+1,4,none⟩=some (zI (c)):=cell_of O.out rfl;have X:w8.cell? ⟨w.heap.size+1,5,none⟩=some (.slice none 0 0):=cell_of O.out rfl;have CB:=lX a b t P (c) (.slice none 0 0) ([]) w8 (HV.out w8 (fun k _ L=>aq.out k L)) B;obtain⟨T8,V⟩:=zx (fI ((a,b),t,P,c,[]));rw[<- V] at CB;have ar:Hid (T8.toList=bytesB ((a,b),t,P,c,[])):=by unfold Hid;rw[V,cK]
  have bc:=z9 B;clear g CO V B;go_wp2_with fail;refine CB.mono ?_;rintro e w9 ⟨rfl,q⟩;have bd:=z9 (bel bb.out q);have R:=z9 (aK q aw.out);have r0:w9.cell? ⟨w.heap.size,0,none⟩=some (zI 0):=cell_of R.out rfl;have r1:w9.cell? ⟨w.heap.size,1,none⟩=some (zI 0):=cell_of R.out rfl;have r2:w9.cell? ⟨w.heap.size,2,none⟩=some (zI 0):=cell_of R.out rfl;have r3:w9.cell? ⟨w.heap.size,3,none⟩=some (.string ⟨#[]⟩):=cell_of R.out rfl;have r4:w9.cell? ⟨w.heap.size,4,none⟩=some (zI 0):=cell_of R.out rfl;have r5:w9.cell? ⟨w.heap.size,5,none⟩=some (.slice none 0 0):=cell_of R.out rfl;have ce:w9.frozen? ⟨w.heap.size,0,none⟩=false:=aI R.out;have cf:w9.frozen? ⟨w.heap.size,1,none⟩=false:=aI R.out;have cg:w9.frozen? ⟨w.heap.size,2,none⟩=false:=aI R.out;have ch:w9.frozen? ⟨w.heap.size,3,none⟩=false:=aI R.out;have ci:w9.frozen? ⟨w.heap.size,4,none⟩=false:=aI R.out;have cj:w9.frozen? ⟨w.heap.size,5,none⟩=false:=aI R.out;have r:=z9 (aK q O.out);have be:Hid (∀k,w.heap.size+2 <=k -> k<w7.heap.size -> w9.heap[k]? =w7.heap[k]?):=fun k _ L=>(q.block k (jE L ap.out)).trans (aq.out k L)
  have bf:=z9 (qO ap.out q.size);clear o0 o1 o2 o3 o4 X;have x0:w9.cell? ⟨w.heap.size+1,0,none⟩=some (zI a):=cell_of r.out rfl;have z:w9.cell? ⟨w.heap.size+1,1,none⟩=some (zI b):=cell_of r.out rfl;have o:w9.cell? ⟨w.heap.size+1,2,none⟩=some (zI t):=cell_of r.out rfl;have x3:w9.cell? ⟨w.heap.size+1,3,none⟩=some (.string P):=cell_of r.out rfl;have x4:w9.cell? ⟨w.heap.size+1,4,none⟩=some (zI (c)):=cell_of r.out rfl;have x5:w9.cell? ⟨w.heap.size+1,5,none⟩=some (.slice none 0 0):=cell_of r.out rfl;clear CB q;by_cases H:T8.toList=s.toList
  ·have F:Hid (decB s.toList=some ((a,b),t,P,c,[])):=cU.2 ⟨bc.out,by rw[<- ar.out];exact H⟩;have b0:(T8.toList==s.toList)=true:=by simpa using H
   have bg:Hid (∀x0 z o x3 x4 x5 W,(∀k,w.heap.size <=k -> k<(six6 w9 w.heap.size x0 z o x3 x4 x5).heap.size -> W.heap[k]? =(six6 w9 w.heap.size x0 z o x3 x4 x5).heap[k]?) -> DtsAt W (.slice none 0 0) ([])):=fun x0 z o x3 x4 x5 W hW=>HV.out _ (fun k hk1 K=>(hW k (by omega) (by rw[eN];exact jE K bf.out)).trans ((dT _ _ _ _ _ _ _ _ _ (by omega)).trans (be.out k hk1 K)))
   clear H;go_wp2_with fail;refine bodyPost_ret (v:=.tuple #[uP ((a,b),t,P,c,[]) (.slice none 0 0),.bool true]) ?_ rfl ⟨_,by rw[F.out];rfl,by rw[F.out];exact fun W hW=>⟨_,rfl,bg.out _ _ _ _ _ _ W hW⟩, ?_⟩
   ·simp[results,Tryz.results73,uP,go_sem,asAddr,Result.andThen,r0,r1,r2,r3,r4,r5]
   ·exact dP bd.out (qC _) _ _ _ _ _ _
  ·have F:Hid (decB s.toList=none):=by
    unfold Hid decB;split
    ·rfl
    ·rw[HX.out,if_neg (fun e=>H (ar.out.trans e.2))]
   have h:=hv.out;rw[F.out] at h;cases h
 have c4:(t==1)=false:=by simpa using t1
 by_cases t4:t=4
 case neg=>
  have cd:(t==4)=false:=by simpa using t4
  have HX:Hid (readB s.toList=((a,b),t,P,0,[])):=by
   unfold Hid;rw[a1];unfold letterIn seenIn;rw[if_neg t1,if_neg t4]
  clear a1 a2 t1 t4;go_in;go_wp2_with fail;refine(CN _).mono ?_;rintro e w5 ⟨rfl,al⟩;obtain⟨am,an,M,N⟩:=pH al;have ao:=z9 am;have O:=z9 an;have K5:=z9 M;have bm:=z9 N;clear al am an M N CN;have o0:w5.cell? ⟨w.heap.size+1,0,none⟩=some (zI a):=cell_of O.out rfl;have o1:w5.cell? ⟨w.heap.size+1,1,none⟩=some (zI 0):=cell_of O.out rfl;have o2:w5.cell? ⟨w.heap.size+1,2,none⟩=some (zI t):=cell_of O.out rfl;have o3:w5.cell? ⟨w.heap.size+1,3,none⟩=some (.string ⟨#[]⟩):=cell_of O.out rfl;have o4:w5.cell? ⟨w.heap.size+1,4,none⟩=some (zI 0):=cell_of O.out rfl;have X:w5.cell? ⟨w.heap.size+1,5,none⟩=some (.slice none 0 0):=cell_of O.out rfl;have a5:w5.frozen? ⟨w.heap.size+1,0,none⟩=false:=aI O.out;have a6:w5.frozen? ⟨w.heap.size+1,1,none⟩=false:=aI O.out;have a7:w5.frozen? ⟨w.heap.size+1,2,none⟩=false:=aI O.out;have a8:w5.frozen? ⟨w.heap.size+1,3,none⟩=false:=aI O.out;have a9:w5.frozen? ⟨w.heap.size+1,4,none⟩=false:=aI O.out;have ba:w5.frozen? ⟨w.heap.size+1,5,none⟩=false:=aI O.out;go_wp2_with fail;have Q:Hid ((((w5.setCell ⟨w.heap.size+1,1,none⟩ (zI b)).setCell ⟨w.heap.size+1,3,none⟩ (.string P))).heap[w.heap.size+1]? =some (.cells #[zI a,zI b,zI t,.string P,zI 0,.slice none 0 0] 97 (0,0))):=setCell_heap (setCell_heap O.out);have S:Hid ((((w5.setCell ⟨w.heap.size+1,1,none⟩ (zI b)).setCell ⟨w.heap.size+1,3,none⟩ (.string P))).heap[w.heap.size]? =some (.cells Z6 97 (0,0))):=by unfold Hid;rw[set_block _ _ _ _ (by simp),set_block _ _ _ _ (by simp)];exact ao.out
  have T:Hid (zB w (((w5.setCell ⟨w.heap.size+1,1,none⟩ (zI b)).setCell ⟨w.heap.size+1,3,none⟩ (.string P)))):=(K5.out.setCell (p:=⟨w.heap.size+1,1,none⟩) (by simp) _).setCell (p:=⟨w.heap.size+1,3,none⟩) (by simp) _;obtain⟨w7,U⟩:=zx ((w5.setCell ⟨w.heap.size+1,1,none⟩ (zI b)).setCell ⟨w.heap.size+1,3,none⟩ (.string P));rw[<- U] at Q S T;rw[<- U];have KO:=Q;have KR:=S;have K7:=T;have HV:Hid (∀W,(∀k,w.heap.size+2 <=k -> k<w7.heap.size -> W.heap[k]? =w7.heap[k]?) -> DtsAt W (.slice none 0 0) []):=fun W _=>DtsAt.nil W
  clear Q S T ao K5 O o0 o1 o2 o3 o4 X a5 a6 a7 a8 a9 ba U;have CO:=dR a b t P (0) (.slice none 0 0) ([]) w7 bs (HV.out w7 (fun _ _ _=>rfl));by_cases B:opE ((a,b),t,P,0,[])=0
  case neg=>
   have F:Hid (decB s.toList=none):=by
    unfold Hid decB;split
    ·rfl
    ·rw[HX.out,if_neg (fun e=>B e.1)]
   have h:=hv.out;rw[F.out] at h;cases h
  rw[B] at CO;refine CO.mono ?_;rintro e w8 ⟨rfl,g⟩;have bb:=z9 (bel K7.out g);have aw:=z9 (aK g KR.out);have O:=z9 (aK g KO.out);have ap:=z9 g.size;have aq:=z9 g.block;have o0:w8.cell? ⟨w.heap.size+1,0,none⟩=some (zI a):=cell_of O.out rfl;have o1:w8.cell? ⟨w.heap.size+1,1,none⟩=some (zI b):=cell_of O.out rfl;have o2:w8.cell? ⟨w.heap.size+1,2,none⟩=some (zI t):=cell_of O.out rfl;have o3:w8.cell? ⟨w.heap.size+1,3,none⟩=some (.string P):=cell_of O.out rfl;have o4:w8.cell? ⟨w.heap.size+1,4,none⟩=some (zI (0)):=cell_of O.out rfl;have X:w8.cell? ⟨w.heap.size+1,5,none⟩=some (.slice none 0 0):=cell_of O.out rfl;have CB:=lX a b t P (0) (.slice none 0 0) ([]) w8 (HV.out w8 (fun k _ L=>aq.out k L)) B;obtain⟨T8,V⟩:=zx (fI ((a,b),t,P,0,[]));rw[<- V] at CB;have ar:Hid (T8.toList=bytesB ((a,b),t,P,0,[])):=by unfold Hid;rw[V,cK]
  have bc:=z9 B;clear g CO V B;go_wp2_with fail;refine CB.mono ?_;rintro e w9 ⟨rfl,q⟩;have bd:=z9 (bel bb.out q);have R:=z9 (aK q aw.out);have r0:w9.cell? ⟨w.heap.size,0,none⟩=some (zI 0):=cell_of R.out rfl;have r1:w9.cell? ⟨w.heap.size,1,none⟩=some (zI 0):=cell_of R.out rfl;have r2:w9.cell? ⟨w.heap.size,2,none⟩=some (zI 0):=cell_of R.out rfl;have r3:w9.cell? ⟨w.heap.size,3,none⟩=some (.string ⟨#[]⟩):=cell_of R.out rfl;have r4:w9.cell? ⟨w.heap.size,4,none⟩=some (zI 0):=cell_of R.out rfl;have r5:w9.cell? ⟨w.heap.size,5,none⟩=some (.slice none 0 0):=cell_of R.out rfl;have ce:w9.frozen? ⟨w.heap.size,0,none⟩=false:=aI R.out;have cf:w9.frozen? ⟨w.heap.size,1,none⟩=false:=aI R.out;have cg:w9.frozen? ⟨w.heap.size,2,none⟩=false:=aI R.out;have ch:w9.frozen? ⟨w.heap.size,3,none⟩=false:=aI R.out;have ci:w9.frozen? ⟨w.heap.size,4,none⟩=false:=aI R.out;have cj:w9.frozen? ⟨w.heap.size,5,none⟩=false:=aI R.out;have r:=z9 (aK q O.out);have be:Hid (∀k,w.heap.size+2 <=k -> k<w7.heap.size -> w9.heap[k]? =w7.heap[k]?):=fun k _ L=>(q.block k (jE L ap.out)).trans (aq.out k L)
  have bf:=z9 (qO ap.out q.size);clear o0 o1 o2 o3 o4 X;have x0:w9.cell? ⟨w.heap.size+1,0,none⟩=some (zI a):=cell_of r.out rfl;have z:w9.cell? ⟨w.heap.size+1,1,none⟩=some (zI b):=cell_of r.out rfl;have o:w9.cell? ⟨w.heap.size+1,2,none⟩=some (zI t):=cell_of r.out rfl;have x3:w9.cell? ⟨w.heap.size+1,3,none⟩=some (.string P):=cell_of r.out rfl;have x4:w9.cell? ⟨w.heap.size+1,4,none⟩=some (zI (0)):=cell_of r.out rfl;have x5:w9.cell? ⟨w.heap.size+1,5,none⟩=some (.slice none 0 0):=cell_of r.out rfl;clear CB q;by_cases H:T8.toList=s.toList
  ·have F:Hid (decB s.toList=some ((a,b),t,P,0,[])):=cU.2 ⟨bc.out,by rw[<- ar.out];exact H⟩;have b0:(T8.toList==s.toList)=true:=by simpa using H
   have bg:Hid (∀x0 z o x3 x4 x5 W,(∀k,w.heap.size <=k -> k<(six6 w9 w.heap.size x0 z o x3 x4 x5).heap.size -> W.heap[k]? =(six6 w9 w.heap.size x0 z o x3 x4 x5).heap[k]?) -> DtsAt W (.slice none 0 0) ([])):=fun x0 z o x3 x4 x5 W hW=>HV.out _ (fun k hk1 K=>(hW k (by omega) (by rw[eN];exact jE K bf.out)).trans ((dT _ _ _ _ _ _ _ _ _ (by omega)).trans (be.out k hk1 K)))
   clear H;go_wp2_with fail;refine bodyPost_ret (v:=.tuple #[uP ((a,b),t,P,0,[]) (.slice none 0 0),.bool true]) ?_ rfl ⟨_,by rw[F.out];rfl,by rw[F.out];exact fun W hW=>⟨_,rfl,bg.out _ _ _ _ _ _ W hW⟩, ?_⟩
   ·simp[results,Tryz.results73,uP,go_sem,asAddr,Result.andThen,r0,r1,r2,r3,r4,r5]
   ·exact dP bd.out (qC _) _ _ _ _ _ _
  ·have F:Hid (decB s.toList=none):=by
    unfold Hid decB;split
    ·rfl
    ·rw[HX.out,if_neg (fun e=>H (ar.out.trans e.2))]
   have h:=hv.out;rw[F.out] at h;cases h
 have cd:(t==4)=true:=by simpa using t4
 obtain⟨m,c5⟩:∃m:Nat,(y[0].toNat:Int)=(m:Int):=⟨_,rfl⟩;obtain⟨C,bn⟩:=zx (threes m y.toList.tail)
 have HX:Hid (readB s.toList=((a,b),t,P,0,C)):=by
  unfold Hid;rw[a1];unfold letterIn seenIn;rw[if_neg t1,if_pos t4, <- rS,a2,show y[0].toNat=m by omega, <- bn]
 have ck:Hid (C.length=min m ((y.size-1)/3)):=by
  unfold Hid;rw[bn,mD,List.length_tail,Om.aJ]
 have c6:Hid (∀k,k<C.length -> C.getD k noneD=(((y.toList.getD (1+3*k) 0).toNat:Int),((numAt y.toList (2+3*k):Nat):Int))):=by
  intro k L;rw[bn] at L |-;rw[wM m _ k L];unfold numAt;rw[tail_at,tail_at,tail_at,show 3*k+1=1+3*k by omega,show 1+3*k+1=2+3*k by omega]
 obtain⟨n,hn⟩:=zx C.length;have HN:=z9 hn;have c8:n <=m:=by rw[hn,ck.out];omega
 have dn:n <=255:=by omega
 have cl:Hid (∀k,k<n↔k<m /\ 4+3*k <=y.size):=by intro k;rw[hn,ck.out];omega
 have da:Hid (n=m):=by
  have h:=aHi hv.out (by rw[HX.out];exact t4);rw[HX.out] at h;have h8:y.toList=s.toList.drop E:=by rw[<- hR,dU]
  rw[eD s 4 h4,show 5+s[4].toNat=E by omega, <- h8, <- rS,a2] at h;have h7:(C.length:Int)=m:=by rw[<- h];exact c5
  unfold Hid;omega
 clear a1 a2 t1 t4 bn hn c8;go_in;go_wp2_with fail;refine(CN _).mono ?_;rintro e w5 ⟨rfl,al⟩;obtain⟨am,an,M,N⟩:=pH al;have ao:=z9 am;have O:=z9 an;have K5:=z9 M;have bm:=z9 N;clear al am an M N CN;have o0:w5.cell? ⟨w.heap.size+1,0,none⟩=some (zI a):=cell_of O.out rfl;have o1:w5.cell? ⟨w.heap.size+1,1,none⟩=some (zI 0):=cell_of O.out rfl;have o2:w5.cell? ⟨w.heap.size+1,2,none⟩=some (zI t):=cell_of O.out rfl;have o3:w5.cell? ⟨w.heap.size+1,3,none⟩=some (.string ⟨#[]⟩):=cell_of O.out rfl;have o4:w5.cell? ⟨w.heap.size+1,4,none⟩=some (zI 0):=cell_of O.out rfl;have X:w5.cell? ⟨w.heap.size+1,5,none⟩=some (.slice none 0 0):=cell_of O.out rfl;have a5:w5.frozen? ⟨w.heap.size+1,0,none⟩=false:=aI O.out;have a6:w5.frozen? ⟨w.heap.size+1,1,none⟩=false:=aI O.out;have a7:w5.frozen? ⟨w.heap.size+1,2,none⟩=false:=aI O.out;have a8:w5.frozen? ⟨w.heap.size+1,3,none⟩=false:=aI O.out;have a9:w5.frozen? ⟨w.heap.size+1,4,none⟩=false:=aI O.out;have ba:w5.frozen? ⟨w.heap.size+1,5,none⟩=false:=aI O.out;go_wp2_with fail;have Q:Hid (((w5.setCell ⟨w.heap.size+1,1,none⟩ (zI b)).setCell ⟨w.heap.size+1,3,none⟩ (.string P)).heap[w.heap.size+1]? =some (.cells #[zI a,zI b,zI t,.string P,zI 0,.slice none 0 0] 97 (0,0))):=setCell_heap (setCell_heap O.out);have S:Hid (((w5.setCell ⟨w.heap.size+1,1,none⟩ (zI b)).setCell ⟨w.heap.size+1,3,none⟩ (.string P)).heap[w.heap.size]? =some (.cells Z6 97 (0,0))):=by unfold Hid;rw[set_block _ _ _ _ (by simp),set_block _ _ _ _ (by simp)];exact ao.out
 have T:Hid (zB w ((w5.setCell ⟨w.heap.size+1,1,none⟩ (.int .i64 b)).setCell ⟨w.heap.size+1,3,none⟩ (.string P))):=(K5.out.setCell (p:=⟨w.heap.size+1,1,none⟩) (by simp) _).setCell (p:=⟨w.heap.size+1,3,none⟩) (by simp) _;have b1:Hid (w.heap.size+2 <=((w5.setCell ⟨w.heap.size+1,1,none⟩ (.int .i64 b)).setCell ⟨w.heap.size+1,3,none⟩ (.string P)).heap.size):=by have:=bm.out;unfold Hid;simpa[World.setCell] using this
 obtain⟨w7,U⟩:=zx ((w5.setCell ⟨w.heap.size+1,1,none⟩ (.int .i64 b)).setCell ⟨w.heap.size+1,3,none⟩ (.string P));rw[<- U] at Q S T b1;rw[<- U];clear ao K5 O o0 o1 o2 o3 o4 X a5 a6 a7 a8 a9 ba U bm;obtain⟨i0,hi,db,dc,cr⟩:=info_parts tD;go_loopw [7] (fun i wr=>∃(k:Nat) (v:Value),k <=n /\ i=.int .i64 k /\ (∃Y Z c0,v=.slice Y Z c0) /\ Hid (wr.heap[w.heap.size]? =some (.cells Z6 97 (0,0))) /\ Hid (wr.heap[w.heap.size+1]? =some (.cells #[.int .i64 a,.int .i64 b,.int .i64 t,.string P,.int .i64 0,v] 97 (0,0))) /\ Hid (wr.ownsRow (w.heap.size+2) 80 2 v (C.take k).length (flatD (C.take k))) /\ Hid (zB w wr) /\ Hid (w.heap.size+2 <=wr.heap.size)) (fun i _=>n-(intOf i).toNat)
 case atStart=>exact⟨0,.slice none 0 0,by omega,rfl,⟨_,_,_,rfl⟩,S,Q,jT _ _ _ _,T,b1⟩
 case round=>
  clear S Q T b1;obtain⟨k,v,L,rfl,⟨Y,Z,c0,rfl⟩,KR,KO,KW,K7,KZ⟩:=hrel;by_cases cm:k<n
  ·obtain⟨cn,eb⟩:=(cl.out k).1 cm;have dz:(k:Int)<m:=by omega
   have d0:(4:Int)+3*(k:Int) <=y.size:=by omega
   obtain⟨q1,ec⟩:∃q1:Nat,(1:Int)+3*(k:Int)=(q1:Int):=⟨1+3*k,by omega⟩;obtain⟨q2,ed⟩:∃q2:Nat,(2:Int)+3*(k:Int)=(q2:Int):=⟨2+3*k,by omega⟩;have cu:q1<y.size:=by omega
   have cv:q2+1<y.size:=by omega
   have ee:y[q1].toNat<256:=jX _;obtain⟨z,dd⟩:∃z:Int,(y[q1].toNat:Int)=z:=⟨_,rfl⟩;obtain⟨o,b2⟩:∃o:Int,((numAt y.toList q2:Nat):Int)=o:=⟨_,rfl⟩
   have de:Hid (C.take (k+1)=C.take k++[(z,o)]):=by
    have K:k<C.length:=by rw[<- HN.out];exact cm
    have h:=c6.out k K;rw[show 1+3*k=q1 by omega,show 2+3*k=q2 by omega,eD y q1 cu,dd,b2,qA,qB K] at h;unfold Hid;rw[jV,qB K];simp only[xT] at h;rw[h];rfl
   have b3:=fun W=>iO y q2 W cv cz
   rw[b2] at b3;clear b2;go_wp2_with fail;refine(b3 _).mono ?_;rintro e w8 ⟨rfl,g⟩;have ak:zB wr w8:=bE (qD _ wr) g;have aw:=z9 (aK ak KR.out);have O:=z9 (aK ak KO.out);have ef:=z9 (own_below KW.out ak);have K8:=z9 (bel K7.out ak);have d1:wr.heap.size+1 <=w8.heap.size:=by have:=g.size;simpa using this
   have E2:Hid (w8.heap[wr.heap.size]? =some (.cells #[.int .i64 z,.int .i64 0] 80 (0,0))):=aK g (heap_alloc_new wr _);have dg:Hid (wr.heap.size<w8.heap.size /\ w.heap.size+2 <=wr.heap.size):=⟨by omega,KZ.out⟩;have g0:w8.cell? ⟨wr.heap.size,0,none⟩=some (.int .i64 z):=cell_of E2.out rfl;have g1:w8.cell? ⟨wr.heap.size,1,none⟩=some (.int .i64 0):=cell_of E2.out rfl;have eg:w8.frozen? ⟨wr.heap.size,1,none⟩=false:=aI E2.out;have eh:¬w.heap.size+1=wr.heap.size:=by have:=KZ.out;omega
   have X:(w8.setCell ⟨wr.heap.size,1,none⟩ (.int .i64 o)).cell? ⟨w.heap.size+1,5,none⟩=some (.slice Y Z c0):=by
    rw[qN _ _ _ _ (by intro e;injection e;omega)];exact cell_of O.out rfl
   have b4:Hid ((w8.setCell ⟨wr.heap.size,1,none⟩ (.int .i64 o)).ownsRow (w.heap.size+2) 80 2 (.slice Y Z c0) (C.take k).length (flatD (C.take k))):=by
    refine own_at KW.out ?_;intro j hj1 hj2;rw[set_block _ _ _ _ (by show j≠wr.heap.size;omega)];exact ak.block j hj2
   have b9:(C.take k).length+1 <=maxLen:=by rw[qQ];unfold maxLen;omega
   have ca:((C.take k).length+1)*16 <=140737488355328:=by rw[qQ];omega
   have dh:Hid (∀j u,(flatD [(z,o)])[j]? =some u -> ((w8.setCell ⟨wr.heap.size,1,none⟩ (.int .i64 o)).alloc (.cells #[.int .i64 z,.int .i64 o] 80)).cell? ((⟨w8.heap.size,0,none⟩:Addr).add j)=some u):=by
    have:=rR (w8.setCell ⟨wr.heap.size,1,none⟩ (.int .i64 o)) z o 80;rwa [show(w8.setCell ⟨wr.heap.size,1,none⟩ (.int .i64 o)).heap.size=w8.heap.size by simp[World.setCell]] at this
   have bo:Hid (w.heap.size+2 <=((w8.setCell ⟨wr.heap.size,1,none⟩ (.int .i64 o)).alloc (.cells #[.int .i64 z,.int .i64 o] 80)).heap.size):=by
    have:=KZ.out;unfold Hid;simp[World.setCell];omega
   have di:Hid (zB w ((w8.setCell ⟨wr.heap.size,1,none⟩ (.int .i64 o)).alloc (.cells #[.int .i64 z,.int .i64 o] 80))):=(K8.out.setCell (p:=⟨wr.heap.size,1,none⟩) K7.out.size _).alloc (by have:=K8.out.size;simpa[World.setCell] using this) _
   have dj:Hid (∀j,j<w.heap.size+2 -> ((w8.setCell ⟨wr.heap.size,1,none⟩ (.int .i64 o)).alloc (.cells #[.int .i64 z,.int .i64 o] 80)).heap[j]? =w8.heap[j]?):=by
    intro j hj;have h:=dg.out;rw[heap_alloc_old _ _ (by simp[World.setCell];omega),set_block _ _ _ _ (by show j≠wr.heap.size;omega)]
   clear g ak b3;go_wp2_with (at_builtin;refine wpList_append_own_at _ rfl (.tmp 96) (.tmp 98) 95 rfl (w.heap.size+2) 80 i0 (.agg #[.int .i64 0,.int .i64 0]) 2 16 Tryz.underlying95 hi db dc cr rfl (by decide) (.slice Y Z c0) (C.take k).length (flatD (C.take k)) rfl (b4.out.alloc _) ⟨w8.heap.size,0,none⟩ 1 1 (flatD [(z,o)]) rfl rfl dh.out (lM _) b9 ca bo.out ?_;intro v9 w9 hown9 hgrow9 _ hat9;have b5:=z9 (lH rfl rfl hown9);have K9:=z9 (di.out.grown hgrow9 (by have:=bo.out;omega) (fun j hj=>by have:=iR b4.out j hj;omega));have co:Hid (∀j,j<w.heap.size+2 -> w9.heap[j]? =w8.heap[j]?):=fun j hj=>(hgrow9.block j (by have:=bo.out;omega) (fun e=>by have:=iR b4.out j e.symm;omega)).trans (dj.out j hj);have dk:=z9 (qO bo.out hgrow9.size);have O9:Hid (w9.heap[w.heap.size+1]? =some (.cells #[.int .i64 a,.int .i64 b,.int .i64 t,.string P,.int .i64 0,.slice Y Z c0] 97 (0,0))):=(co.out _ (by omega)).trans O.out;have y5:w9.cell? ⟨w.heap.size+1,5,none⟩=some (.slice Y Z c0):=cell_of O9.out rfl;have ei:w9.frozen? ⟨w.heap.size+1,5,none⟩=false:=aI O9.out;obtain⟨p9,N9,c9,dl,_⟩:=aG b5.out;subst dl;clear hown9 hgrow9 hat9 X);rw[<- de.out] at b5;go_roundw
   case rel=>exact⟨k+1,_,by omega,by go_num,⟨_,_,_,rfl⟩,by unfold Hid;rw[set_block _ _ _ _ (by simp)];exact(co.out _ (by omega)).trans aw.out,setCell_heap O9.out,own_at b5.out (fun j hj _=>set_block _ _ _ _ (by show j≠w.heap.size+1;omega)),K9.out.setCell (p:=⟨w.heap.size+1,5,none⟩) (by simp) _,by have:=dk.out;unfold Hid;simpa[World.setCell] using this⟩
   case measure=>simp[intOf];omega
  ·obtain rfl:n=k:=by omega
   have dm:=cl.out n
   have HV:Hid (∀W,(∀k,w.heap.size+2 <=k -> k<wr.heap.size -> W.heap[k]? =wr.heap[k]?) -> DtsAt W (.slice Y Z c0) C):=by
    intro W hW;have h:=gO (own_at KW.out hW);rwa [qW (by rw[<- HN.out];exact qC _)] at h
   by_cases cn:(n:Int)<m
   ·exact absurd cn (by rw[da.out];omega)
   ·clear dm;have o0:wr.cell? ⟨w.heap.size+1,0,none⟩=some (.int .i64 a):=cell_of KO.out rfl;have o1:wr.cell? ⟨w.heap.size+1,1,none⟩=some (.int .i64 b):=cell_of KO.out rfl;have o2:wr.cell? ⟨w.heap.size+1,2,none⟩=some (.int .i64 t):=cell_of KO.out rfl;have o3:wr.cell? ⟨w.heap.size+1,3,none⟩=some (.string P):=cell_of KO.out rfl;have o4:wr.cell? ⟨w.heap.size+1,4,none⟩=some (.int .i64 0):=cell_of KO.out rfl;have X:wr.cell? ⟨w.heap.size+1,5,none⟩=some (.slice Y Z c0):=cell_of KO.out rfl;go_wp2_with fail;clear o0 o1 o2 o3 o4 X;have CO:=dR a b t P (0) (.slice Y Z c0) (C) wr bs (HV.out wr (fun _ _ _=>rfl));by_cases B:opE ((a,b),t,P,0,C)=0
    case neg=>
     have F:Hid (decB s.toList=none):=by
      unfold Hid decB;split
      ·rfl
      ·rw[HX.out,if_neg (fun e=>B e.1)]
     have h:=hv.out;rw[F.out] at h;cases h
    rw[B] at CO;refine CO.mono ?_;rintro e w8 ⟨rfl,g⟩;have bb:=z9 (bel K7.out g);have aw:=z9 (aK g KR.out);have O:=z9 (aK g KO.out);have ap:=z9 g.size;have aq:=z9 g.block;have o0:w8.cell? ⟨w.heap.size+1,0,none⟩=some (.int .i64 a):=cell_of O.out rfl;have o1:w8.cell? ⟨w.heap.size+1,1,none⟩=some (.int .i64 b):=cell_of O.out rfl;have o2:w8.cell? ⟨w.heap.size+1,2,none⟩=some (.int .i64 t):=cell_of O.out rfl;have o3:w8.cell? ⟨w.heap.size+1,3,none⟩=some (.string P):=cell_of O.out rfl;have o4:w8.cell? ⟨w.heap.size+1,4,none⟩=some (.int .i64 (0)):=cell_of O.out rfl;have X:w8.cell? ⟨w.heap.size+1,5,none⟩=some (.slice Y Z c0):=cell_of O.out rfl;have CB:=lX a b t P (0) (.slice Y Z c0) (C) w8 (HV.out w8 (fun k _ L=>aq.out k L)) B;obtain⟨T8,V⟩:=zx (fI ((a,b),t,P,0,C));rw[<- V] at CB;have ar:Hid (T8.toList=bytesB ((a,b),t,P,0,C)):=by unfold Hid;rw[V,cK]
    have bc:=z9 B;clear g CO V B;go_wp2_with fail;refine CB.mono ?_;rintro e w9 ⟨rfl,q⟩;have bd:=z9 (bel bb.out q);have R:=z9 (aK q aw.out);have r0:w9.cell? ⟨w.heap.size,0,none⟩=some (.int .i64 0):=cell_of R.out rfl;have r1:w9.cell? ⟨w.heap.size,1,none⟩=some (.int .i64 0):=cell_of R.out rfl;have r2:w9.cell? ⟨w.heap.size,2,none⟩=some (.int .i64 0):=cell_of R.out rfl;have r3:w9.cell? ⟨w.heap.size,3,none⟩=some (.string ⟨#[]⟩):=cell_of R.out rfl;have r4:w9.cell? ⟨w.heap.size,4,none⟩=some (.int .i64 0):=cell_of R.out rfl;have r5:w9.cell? ⟨w.heap.size,5,none⟩=some (.slice none 0 0):=cell_of R.out rfl;have ce:w9.frozen? ⟨w.heap.size,0,none⟩=false:=aI R.out;have cf:w9.frozen? ⟨w.heap.size,1,none⟩=false:=aI R.out;have cg:w9.frozen? ⟨w.heap.size,2,none⟩=false:=aI R.out;have ch:w9.frozen? ⟨w.heap.size,3,none⟩=false:=aI R.out;have ci:w9.frozen? ⟨w.heap.size,4,none⟩=false:=aI R.out;have cj:w9.frozen? ⟨w.heap.size,5,none⟩=false:=aI R.out;have r:=z9 (aK q O.out);have be:Hid (∀k,w.heap.size+2 <=k -> k<wr.heap.size -> w9.heap[k]? =wr.heap[k]?):=fun k _ L=>(q.block k (jE L ap.out)).trans (aq.out k L)
    have bf:=z9 (qO ap.out q.size);clear o0 o1 o2 o3 o4 X;have x0:w9.cell? ⟨w.heap.size+1,0,none⟩=some (.int .i64 a):=cell_of r.out rfl;have z:w9.cell? ⟨w.heap.size+1,1,none⟩=some (.int .i64 b):=cell_of r.out rfl;have o:w9.cell? ⟨w.heap.size+1,2,none⟩=some (.int .i64 t):=cell_of r.out rfl;have x3:w9.cell? ⟨w.heap.size+1,3,none⟩=some (.string P):=cell_of r.out rfl;have x4:w9.cell? ⟨w.heap.size+1,4,none⟩=some (.int .i64 (0)):=cell_of r.out rfl;have x5:w9.cell? ⟨w.heap.size+1,5,none⟩=some (.slice Y Z c0):=cell_of r.out rfl;clear CB q;by_cases H:T8.toList=s.toList
    ·have F:Hid (decB s.toList=some ((a,b),t,P,0,C)):=cU.2 ⟨bc.out,by rw[<- ar.out];exact H⟩;have b0:(T8.toList==s.toList)=true:=by simpa using H
     have bg:Hid (∀x0 z o x3 x4 x5 W,(∀k,w.heap.size <=k -> k<(six6 w9 w.heap.size x0 z o x3 x4 x5).heap.size -> W.heap[k]? =(six6 w9 w.heap.size x0 z o x3 x4 x5).heap[k]?) -> DtsAt W (.slice Y Z c0) (C)):=fun x0 z o x3 x4 x5 W hW=>HV.out _ (fun k hk1 K=>(hW k (by omega) (by rw[eN];exact jE K bf.out)).trans ((dT _ _ _ _ _ _ _ _ _ (by omega)).trans (be.out k hk1 K)))
     clear H;go_wp2_with fail;refine bodyPost_ret (v:=.tuple #[uP ((a,b),t,P,0,C) (.slice Y Z c0),.bool true]) ?_ rfl ⟨_,by rw[F.out];rfl,by rw[F.out];exact fun W hW=>⟨_,rfl,bg.out _ _ _ _ _ _ W hW⟩, ?_⟩
     ·simp[results,Tryz.results73,uP,go_sem,asAddr,Result.andThen,r0,r1,r2,r3,r4,r5]
     ·exact dP bd.out (qC _) _ _ _ _ _ _
    ·have F:Hid (decB s.toList=none):=by
      unfold Hid decB;split
      ·rfl
      ·rw[HX.out,if_neg (fun e=>H (ar.out.trans e.2))]
     have h:=hv.out;rw[F.out] at h;cases h
end Oh
namespace Oj
open Od Oe
open La (bel)
theorem pE{l:List Ox}{k:Nat}(hk:k<l.length):eachB (l.take (k+1))=eachB (l.take k)++(b2 (bytesB (l.getD k oz)).length++bytesB (l.getD k oz)):=by
 rw[jV,qB hk,qA,qB hk,nT];show _++eachB [l[k]]=_
 unfold eachB;simp
theorem kS:∀(l:List Ox),(∀o ∈ l,opE o=0)->(eachB l).length<=142*l.length
 | [],_=>by simp[eachB]
 | o::l,h=>by
  have h1:=kS l (fun x hx=>h x (jO _ hx))
  have h2:=(lA (h o (xA ..))).2
  rw[iM,qE,qE,bO,qV]
  omega
theorem aHb(v:Value)(l:List Ox)(w:World)(h:OpsAt w v l)(h0:∀o ∈ l,opE o=0)(hn1:l.length<=400):
  Calls Tryz.prog 23 #[v] w fun e w'=>e=.returned (.string ⟨(packB l).toArray⟩)/\zB w w':=by
 obtain⟨p,c,rfl,F,_⟩:=h;obtain⟨n,s⟩:∃n,l.length=n:=⟨_,rfl⟩;rw[s] at hn1;rw[s];have V:=z9 s;have HI:=z9 F;have H0:=z9 h0;have G:Hid (packB l=b2 (n:Int)++eachB l):=by unfold Hid packB;rw[s]
 clear s F h0;have be:(n:Int)<=400:=by omega
 go_in;go_wp2_with fail;refine(fB w.heap.size (zS) [] (n:Int) w (Row.nil _ _) (by omega) (by omega) (by simp) (qC _)).mono ?_;rintro e w1 ⟨v1,rfl,t,H,I⟩;obtain⟨p1,N1,c1,rfl,_⟩:=t.shape;have J:=z9 t;have K:=z9 H;clear t H;go_wp2_with fail;go_loopw [3,4] (fun u i wr=>∃(k:Nat),k<=n/\i=zI k/\(∃P N C,u=.slice P N C)/\Hid (Row wr w.heap.size u (b2 (n:Int)++eachB (l.take k)))/\Hid (zB w wr)/\w.heap.size<=wr.heap.size) (fun _ i _=>n-(intOf i).toNat)
 case atStart=>exact⟨0,by omega,rfl,⟨_,_,_,rfl⟩,J,K,I⟩
 case round=>
  clear J K I;obtain⟨k,hk,rfl,⟨p1,N1,c1,rfl⟩,D,X,bm⟩:=hrel;by_cases L:k<n
  ·have Y:(k:Int)<n:=by omega
   obtain⟨b,o,rfl,hc⟩:=HI.out.some (by intro e;have:=V.out;rw[e] at this;simp at this;omega);have m:k<l.length:=by rw[V.out];exact L
   have ha:=(hc k m).below X.out;have q:=H0.out _ (cP m);have r:=pE m;obtain⟨x,hx⟩:=zx (l.getD k oz);rw[<-hx] at ha q r;obtain⟨⟨Z,xb⟩,xt,xp,xc,xs⟩:=x;obtain⟨vs,⟨a0,a1,a2,a3,a4,a5⟩,hd⟩:=ha;simp only at a0 a1 a2 a3 a4 a5 hd;have CB:=lX Z xb xt xp xc vs xs wr hd q;have y:=lA q;obtain⟨T,j⟩:=zx (fI ((Z,xb),xt,xp,xc,xs));have M:T.toList=bytesB ((Z,xb),xt,xp,xc,xs):=by rw[j,cK]
   rw[<-M,Om.aJ] at y r;have aw:=z9 r;have bc:T.size<=140:=y.2;have ax:(T.size:Int)<=140:=by omega
   have bn:T.size<=maxLen:=by unfold maxLen;omega
   have ay:Hid ((eachB (l.take k)).length<=60000):=by
    unfold Hid;have:=kS (l.take k) (fun o ho=>H0.out o (vT ho));rw[qQ] at this;omega
   have z:=fun w=>run_bytes_of_string (P:=Tryz.prog) w 9 86 5 T Tryz.underlying9 Tryz.underlying86 Tryz.underlying5
   rw[<-j] at CB;obtain⟨Q,E⟩:=zx (b2 (n:Int)++eachB (l.take k))
   have HQ:Hid (b2 (n:Int)++eachB (l.take (k+1))=(Q++b2 (T.size:Int))++T.toList):=by
    unfold Hid;rw[aw.out,E];simp
   have O:Hid (Q.length<=60002):=by unfold Hid;rw[E,qE,bO];have:=ay.out;omega
   have ah:Hid ((Q++b2 (T.size:Int)).length+T.size<=1000000000):=by unfold Hid;rw[qE,bO];have:=O.out;omega
   rw[<-E] at D;clear hc hx q r j M y hd m E;go_wp2_with fail;refine CB.mono ?_;rintro e w2 ⟨rfl,A⟩;have a6:=z9 (D.out.below A);have R:=z9 (bel X.out A);have a7:w.heap.size<=w2.heap.size:=R.out.size;clear A CB a0 a1 a2 a3 a4 a5;go_wp2_with fail;refine(fB w.heap.size (.slice p1 N1 c1) Q (T.size:Int) w2 a6.out (by omega) (by omega) (by have:=O.out;omega) a7).mono ?_;rintro e w3 ⟨v3,rfl,B,S,a8⟩;obtain⟨p3,N3,c3,rfl,_⟩:=B.shape;have a9:=z9 B;have ba:=z9 (R.out.trans S);clear B S;go_wp2_with (at_builtin;refine gH _ rfl (.tmp 24) (.tmp 26) rfl w.heap.size (.slice p3 N3 c3) (Q++b2 (T.size:Int)) T _ _ rfl a9.out _ rfl (by first | rfl | simp) ah.out a8 ?_;intro v4 w4 hr4 hb4 hs4;obtain⟨p4,N4,c4,rfl,_⟩:=hr4.shape;have U:=z9 hr4;have bb:=z9 (ba.out.trans hb4);clear hr4 hb4 z);rw[<-HQ.out] at U;go_roundw
   case rel=>exact⟨k+1,by omega,by go_num,⟨_,_,_,rfl⟩,U,bb,hs4⟩
   case measure=>simp[intOf];omega
  ·obtain rfl:n=k:=by omega
   have Y:¬(n:Int)<n:=by omega
   rw[qW (by rw[V.out];exact qC _),<-G.out] at D;have z:=D.out.reads (by rw[G.out];simp[b2]);obtain⟨T,j⟩:∃T:ByteArray,T=⟨(packB l).toArray⟩:=⟨_,rfl⟩;rw[<-j] at z;have HT:=z9 j;clear j L hk;go_wp2_with fail;go_ret;exact⟨by rw[HT.out];rfl,X.out⟩
end Oj
end Go.Proofs.YtjcemlmlfoilmaaGreatDoor
