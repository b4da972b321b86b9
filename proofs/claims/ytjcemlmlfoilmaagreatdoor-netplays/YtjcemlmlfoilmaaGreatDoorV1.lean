import Derived.Test.YtjcemlmlfoilmaaGreatDoorJ8
import Derived.Deep.AppendLies
import Derived.Lib.AppendStr
set_option linter.unusedVariables false
set_option maxRecDepth 100000
set_option maxHeartbeats 8000000
namespace Go.Proofs.YtjcemlmlfoilmaaGreatDoor
open Go.RowKit Om Oc Ka Kb Oz Ov
open Go.Proofs.Tryz (prog)
namespace Vd
def Grew (w w':World) (v v':Value):Prop:=w.grownBy w' v.ownBlock∧(v'.ownBlock=v.ownBlock∨∀k,v'.ownBlock=some k→w.heap.size≤k)
theorem Grew.trans{w w1 w2:World}{v v1 v2:Value}(h:Grew w w1 v v1)(k:Grew w1 w2 v1 v2):Grew w w2 v v2:=by
 obtain⟨g,e⟩:=h;obtain⟨b,a⟩:=k;refine⟨⟨b.os.trans g.os,b.tape.trans g.tape,b.output.trans g.output,qO g.size b.size,fun j hj hne=> ?_⟩, ?_⟩
 ·refine(b.block j (jE hj g.size) ?_).trans (g.block j hj hne);intro e3;rcases e with e | e
  ·exact hne (e3.trans e)
  ·have:=e j e3.symm;omega
 ·rcases a with a | a
  ·rcases e with e | e
   ·exact qH (a.trans e)
   ·exact qF fun j hj=>e j (a.symm.trans hj)
  ·exact qF fun j hj=>qO g.size (a j hj)
theorem Grew.alloc(w:World)(v:Value)(o:Obj):Grew w (w.alloc o) v v:=⟨World.grownBy_alloc w o _,qH rfl⟩
theorem Grew.drew{w w':World}{v v':Value}(h:Grew w w' v v'):Grew w w'.drew v v':=⟨⟨h.1.os,h.1.tape,h.1.output,h.1.size,h.1.block⟩,h.2⟩
variable {w':World}{v v':Value}{l:List UInt8}{k:Nat}{ops:Array Oper}{o:Oper}{a:Act}{Q:Exit->Act->World->Prop}(B:Nat)(w:World)
theorem Grew.below{w:World}{B:Nat}(h:Grew w w' v v')(hr:Row w B v l)(hB:B<=w.heap.size):Below B w w':=
 ⟨h.1.os,h.1.tape,h.1.output,h.1.size,fun k hk=>h.1.block k (by omega) (fun e=>by have:=(World.ownsRow.lt hr k e.symm).1;omega)⟩
theorem Grew.ne{w:World}(h:Grew w w' v v')(hk:k<w.heap.size)(hne:some k≠v.ownBlock):some k≠v'.ownBlock:=by
 intro e;rcases h.2 with h | h
 ·exact hne (e.trans h)
 ·have:=h k e.symm;omega
theorem Grew.cell{w w':World}{v v':Value}(h:Grew w w' v v'){p:Addr}{u:Value}(hc:w.cell? p=some u)(hne:some p.block≠v.ownBlock):w'.cell? p=some u:=h.1.cell hc hne
theorem aAf(x y:Value)(t:TypeId):(w.alloc (.cells #[x,y] t)).cell? ⟨w.heap.size,0,none⟩=some x/\(w.alloc (.cells #[x,y] t)).cell? ⟨w.heap.size,1,none⟩=some y:=by
 constructor<;>(simp only[World.cell?,(heap_alloc_new w (.cells #[x,y] t))];rfl)
theorem aBI{rest:List Oper}(wr:World)(hgd:o.guard=none)(sO xO:Operand)(ho:o.op=.call { callee:=.builtin .append,args:=#[sO,xO],argTypes:=#[86,86] })(B:Nat)(v:Value)(l:List UInt8)(x y:Int)(c d:UInt8)(t:TypeId)(hs:a.eval sO=v)(hown:Row wr B v l)(h0:Nat)(hx:a.eval xO=.slice (some ⟨h0,0,none⟩) 2 2)(hh:h0=wr.heap.size)(hc:x=(c.toNat:Int))(hd:y=(d.toNat:Int))(hlen:l.length+2<=1000000000)(hB:B<=wr.heap.size)(h:∀v' w',Row w' B v' (l++[c,d])->Grew wr w' v v'->wpList prog ops Q rest (a.put o.dst v') w'):
  wpList prog ops Q (o::rest) a (wr.alloc (.cells #[.int .u8 x,.int .u8 y] t)):=by
 subst hh;obtain⟨i,m,b,f,g⟩:=info_parts uB;obtain⟨n,p⟩:=aAf wr (.int .u8 x) (.int .u8 y) t;refine wpList_append_own_at _ hgd sO xO 86 ho B 5 i (.int .u8 0) 1 1 Tryz.underlying86 m b f g rfl (by decide) v l.length (bc l) hs (Row.alloc hown _) (zW wr) 2 2 (bc [c,d]) hx rfl ?_ (aB0 _) (by unfold maxLen;omega) (by omega) (by simp;omega) ?_
 ·intro j u hu;obtain⟨q,rfl⟩:=pS hu;rw[eL];rcases j with _ | _ | j
  ·rw[n,hc];rfl
  ·rw[p,hd];rfl
  ·simp at q;omega
 ·intro v' w' hown' hg _ hat;refine h v' w' ?_ ((Grew.alloc wr v _).trans ⟨hg, ?_⟩)
  ·unfold Row;rw[qE,lK];exact hown'
  ·rcases hat with e | e
   ·exact qH e
   ·refine qF fun k hk=> ?_
    rw[e] at hk;injection hk with hk;omega
theorem aEo{W:World}{K:Act->World->Prop}{E:Prop}(hgd:o.guard=none)(sO xO:Operand)(ho:o.op=.call { callee:=.builtin .append,args:=#[sO,xO],argTypes:=#[86,86] })(B:Nat)(v:Value)(l:List UInt8)(x:Int)(c:UInt8)(hs:a.eval sO=v)(h0:Nat)(hx:a.eval xO=.slice (some ⟨h0,0,none⟩) 1 1)(hc:x=(c.toNat:Int))(hlen:l.length+1<=1000000000)(hown:Row W B v l)(hB:B<=W.heap.size)(hcell:W.cell? ⟨h0,0,none⟩=some (.int .u8 x))(h:∀v' w',Row w' B v' (l++[c])->Grew W w' v v'->K (a.put o.dst v') w'):
  if Region.wanted o (yielded ops a.tmps)=true then Oper.wp prog o a W K Q else E:=by
 have g:Region.wanted o (yielded ops a.tmps)=true:=by simp[Region.wanted,hgd]
 rw[if_pos g];obtain⟨i,m,b,d,f⟩:=info_parts uB
 obtain⟨v',w',n,p,q,_,r⟩:=run_append_own_at (P:=prog) W B 86 o.type 5 i (.int .u8 0) 1 1 Tryz.underlying86 m b d f rfl (by decide) v l.length (bc l) hown (zA h0) 1 1 (bc [c]) rfl (by
  intro j u hu;obtain⟨s,rfl⟩:=pS hu;rw[eL];rcases j with _ | j
  ·rw[hcell,hc];rfl
  ·simp at s) (aB0 _) (by unfold maxLen;omega) (by omega) hB
 unfold Oper.wp execOp;simp only[ho,resolve,invoke,builtin,jZ,vB,vU,xN,jY,vM,hs,hx,n];refine h v' w' ?_ ⟨q, ?_⟩
 ·unfold Row;rw[qE,lK];exact p
 ·rcases r with e | e
  ·exact qH e
  ·refine qF fun k hk=> ?_
   rw[e] at hk;injection hk with hk;omega
theorem gS(v:Value)(l:List UInt8)(n:Int)(w:World)(hv:Row w B v l)(hn0:0<=n)(hn1:n<=65535)(hl:l.length<=1000000)(hB:B<=w.heap.size):
  Calls prog 110 #[v,.int .i64 n] w fun e w'=>∃v',e=.returned v'/\Row w' B v' (l++b2 n)/\Grew w w' v v':=by
 obtain⟨p,N,c,rfl,_⟩:=hv.shape;have f:=z9 hv;have g:Hid (l.length+2<=1000000000):=by unfold Hid;omega
 have h:Hid (n/256=((u8 (n/256)).toNat:Int)):=(bK (by omega) (by omega)).symm;have i:Hid (n%256=((u8 (n%256)).toNat:Int)):=(bK (by omega) (by omega)).symm;clear hv hl;go_in;go_wp2_with (at_builtin;refine aBI w rfl (.tmp 5) (.tmp 11) rfl B (.slice p N c) l _ _ (u8 (n/256)) (u8 (n%256)) _ rfl f.out _ rfl rfl h.out i.out g.out hB ?_;intro v1 w1 hr1 hg1;have b:=z9 hr1;have d:=z9 hg1;clear hr1 hg1);go_ret;exact⟨_,rfl,b.out,d.out⟩
theorem fA(v:Value)(l:List UInt8)(a n:Int)(w:World)(hv:Row w B v l)(ha0:0 <=a)(ha1:a <=255)(hn0:0 <=n)(hn1:n <=65535)(hl:l.length <=999999)(hB:B <=w.heap.size):
  Calls prog 143 #[v,.agg #[.int .i64 a,.int .i64 n]] w fun e w'=>∃v',e=.returned v' /\ Row w' B v' (l++(u8 a::b2 n)) /\ Below B w w' /\ B <=w'.heap.size:=by
 obtain⟨p,N,c,rfl,_⟩:=hv.shape
 have I:Hid (Row w B (.slice p N c) l):=hv
 have G:Hid (l.length+1 <=1000000000):=by unfold Hid;omega
 have r:Hid ((l++[u8 a]).length <=1000000):=by unfold Hid;simp;omega
 have H:Hid (IntKind.u8.wrap a=((u8 a).toNat:Int)):=aIk (by omega)
 have q:Hid (some w.heap.size≠(Value.slice p N c).ownBlock):=fun e=>by have:=(World.ownsRow.lt hv w.heap.size e.symm).2;omega
 have s:Hid (∀W v1,Grew w W (.slice p N c) v1 -> Below B w W /\ B <=W.heap.size):=fun W v1 h=>⟨h.below hv hB,qO hB h.1.size⟩
 have t:Hid (∀X Y,Row ((w.alloc X).alloc Y).drew B (.slice p N c) l):=fun X Y=>show Row ((w.alloc X).alloc Y) B (.slice p N c) l from Row.alloc (Row.alloc hv X) Y
 have y:Hid (∀X Y,Grew w ((w.alloc X).alloc Y).drew (.slice p N c) (.slice p N c)):=fun X Y=>((Grew.alloc w _ X).trans (Grew.alloc _ _ Y)).drew
 have j:Hid (∀X Y,B <=((w.alloc X).alloc Y).drew.heap.size):=fun X Y=>by simp;omega
 have z:Hid (∀X Y,w.heap.size<((w.alloc X).alloc Y).drew.heap.size):=fun X Y=>by simp;omega
 have A:Hid (∀X x,((w.alloc X).alloc (.cells #[x] 5)).drew.cell? (zV w)=some x):=fun X x=>by
  have:=aC3 (w.alloc X) x 5
  rwa [show(w.alloc X).heap.size=w.heap.size+1 by simp] at this
 have C:Hid (l++[u8 a]++b2 n=l++(u8 a::b2 n)):=by unfold Hid;rw[vJ];rfl
 clear hv hl
 go_in
 go_wp2_with fail
 go_region_held3 (fun W=>W.cell? (zW w)=some (zI a) /\ W.cell? ⟨w.heap.size,1,none⟩=some (zI n)) (first | (go_keep;done) | (refine⟨d.cell ?_ k.out,d.cell ?_ k.out⟩<;>(go_split_ands;assumption)) | (refine⟨hg1.cell ?_ q.out,hg1.cell ?_ q.out⟩<;>(go_split_ands;assumption))) (first
  | ((refine aEo (by rfl) (.tmp 5) (.tmp 9) (by rfl) B (.slice p N c) l _ (u8 a) (by rfl) (w.heap.size+1) (by rfl) H.out G.out (t.out _ _) (j.out _ _) (A.out _ _) ?_;intro v1 w1 hr1 hg1;have k:Hid (some w.heap.size≠v1.ownBlock):=hg1.ne (z.out _ _) q.out;have D:Hid (B <=w1.heap.size):=qO (j.out _ _) hg1.1.size))
  | (go_at_call 110;refine(gS B v1 (l++[u8 a]) n _ hr1 hn0 hn1 r.out D.out).mono ?_;rintro e w2 ⟨E,rfl,m,d⟩))
 all_goals
  have F:Hid (Row w2 B E (l++(u8 a::b2 n))):=by unfold Hid;rw[<- C.out];exact m
  have o:Hid (Grew w w2 (.slice p N c) E):=((y.out _ _).trans hg1).trans d
  clear hr1 m hg1 d
  go_wp2_with fail
  go_ret
  exact⟨_,rfl,F.out,(s.out _ _ o.out).1,(s.out _ _ o.out).2⟩
theorem Row.full{w:World}{B:Nat}(h:Row w B v l)(hl:l≠[]):∃g N c,v=.slice (some ⟨g,0,none⟩) N c/\Hid (N=l.length)/\Hid (∀j,j<l.length->w.cell? ⟨g,j,none⟩=some (.int .u8 ((l.getD j 0).toNat:Int))):=by
 obtain⟨p,c,rfl,a,b⟩:=h.slice;obtain⟨g,rfl,_⟩:=a hl;exact⟨g,_,c,rfl,rfl,b g rfl⟩
theorem iZ(hk:k<l.length):sumB (l.take (k+1))=sumB (l.take k)+((l.getD k 0).toNat:Int):=by
 rw[jV,qB hk,qA,qB hk];exact uU _ _
theorem yK(v:Value)(LL:List UInt8)(w:World)(hv:Row w B v LL)(hne:LL≠[])(hl:LL.length<=1000000):
  Calls prog 144 #[v] w fun e w'=>e=.returned (.int .u8 ((u8 (sumB LL%253)).toNat:Int))/\w'=w:=by
 obtain⟨g,N,c,rfl,f,C⟩:=Row.full hv hne;have F:N<=1000000:=by rw[f.out];exact hl
 clear hv hne hl;go_in;go_wp2_with fail;go_loop [3,8] (fun sm i=>∃(k:Nat) (S:Int),k<=N/\i=zI k/\sm=zI S/\0<=S/\S<=255*k/\Hid (S=sumB (LL.take k))) (fun _ i=>N-(intOf i).toNat)
 case atStart=>exact⟨0,0,by omega,rfl,rfl,by omega,by omega,rfl⟩
 case round=>
  obtain⟨k,S,K,rfl,rfl,G,H,l⟩:=hrel;by_cases q:k<N
  ·have m:(k:Int)<N:=by omega
   have h:k<LL.length:=by rw[<-f.out];exact q
   have b:=C.out k h;have d:=iZ h;obtain⟨x,r⟩:=zx (LL.getD k 0);rw[<-r] at b d;have s:x.toNat<256:=jX x;obtain⟨z,t⟩:∃z:Int,z=(x.toNat:Int):=⟨_,rfl⟩;rw[<-t] at b d;have I:0<=z:=by omega
   have J:z<=255:=by omega
   have n:Hid (S+z=sumB (LL.take (k+1))):=by unfold Hid;rw[d,l.out]
   clear r t s d h;go_wp2_with fail;go_round
   case rel=>exact⟨k+1,S+z,by omega,by go_num,by go_num,by omega,by omega,n⟩
   case measure=>simp[intOf];omega
  ·obtain rfl:k=N:=by omega
   have y:Hid (S=sumB LL):=by
    have A:=l.out;rw[qW (by rw[<-f.out];exact qC _)] at A;exact A
   have E:Hid (S%253=((u8 (S%253)).toNat:Int)):=(bK (by omega) (by omega)).symm;have m:¬(k:Int)<k:=by omega
   go_wp2_with fail;go_ret;exact⟨by rw[<-y.out,<-E.out];rfl,rfl⟩
end Vd
namespace Ve
open Cm Na Vc Vd
open La (aD aH aS)
variable {s:List Dt}{k n cs:Nat}{W:World}(a b t:Int)(p:ByteArray)(w:World)(c:Int)
theorem Row.one(B:Nat)(x:Int)(c:UInt8)(hx:x=(c.toNat:Int))(hB:B<=w.heap.size):Row (w.alloc (.cells #[.int .u8 x] 5)) B (.slice (some ⟨w.heap.size,0,none⟩) 1 1) [c]:=by
 subst hx;refine⟨rfl,.inr ⟨w.heap.size,1,_,rfl,hB,heap_alloc_new w _,qC _,by unfold maxLen;omega,rfl,rfl⟩⟩
theorem gJ{ops:Array Oper}{rest:List Oper}{o:Oper}{a:Act}{Q:Exit->Act->World->Prop}(hgd:o.guard=none)(sO xO:Operand)(ho:o.op=.call { callee:=.builtin .append,args:=#[sO,xO],argTypes:=#[86,9] })(B:Nat)(v:Value)(l:List UInt8)(s:ByteArray)(hs:a.eval sO=v)(hown:Row w B v l)(hx:a.eval xO=.string s)(hlen:l.length+s.size<=1000000000)(hB:B<=w.heap.size)(h:∀v' w',Row w' B v' (l++s.toList)->Below B w w'->B<=w'.heap.size->wpList prog ops Q rest (a.put o.dst v') w'):
  wpList prog ops Q (o::rest) a w:=by
 obtain⟨f,g,b,c,d⟩:=info_parts uB;refine Lib.wpList_append_own_string w hgd sO xO 86 9 ho B 5 f Tryz.underlying86 Tryz.underlying9 g b c d v l.length (bc l) hs hown s hx (by unfold maxLen;omega) (by omega) hB ?_;intro v' w' hown' hg _;refine h v' w' ?_ (aS hown (qD _ _) hg hB) (qO hB hg.size);unfold Row;rw[qE,lK,Om.aJ];have e:bc s.toList=Lib.strCells s:=by unfold bc Lib.strCells;rw[ByteArray.toList_eq]
 rw[e];exact hown'
theorem oR(hk:k<s.length):seenB (s.take (k+1))=seenB (s.take k)++(u8 (s.getD k noneD).1::b2 (s.getD k noneD).2):=by
 rw[jV,qB hk,qA,qB hk,nZ];show _++seenB [s[k]]=_
 unfold seenB;simp
theorem aAc{b0 o0:Nat}(h:DtsAt W (.slice (some ⟨b0,o0,none⟩) n cs) s)(hk:k<s.length):DAt W b0 o0 k (s.getD k noneD):=by
 obtain⟨q,c,e,f,_⟩:=h;injection e with e1 e2 e3
 obtain⟨b,o,a,g⟩:=f.some (by intro e;rw[e] at hk;simp at hk);rw[<-e1] at a;injection a with a
 injection a with e5 e6
 subst e5 e6;exact g k hk
theorem sR{ps:Option Addr}(h:DtsAt W (.slice ps n cs) s)(hk:k<s.length):∃b o,ps=some ⟨b,o,none⟩:=by
 obtain⟨q,c,e,d,_⟩:=h;injection e with e1 e2 e3
 obtain⟨b,o,f,g⟩:=d.some (by intro e;rw[e] at hk;simp at hk);exact⟨b,o,by rw[e1,f]⟩
theorem aAp(v:Value)(s:List Dt)(w:World)(hd:DtsAt w v s)(hp:p.size<=maxLen)(h0:¬opE ((a,b),t,p,c,s)=0):
  Calls prog 111 #[.agg #[.int .i64 a,.int .i64 b,.int .i64 t,.string p,.int .i64 c,v]] w fun e w'=>e=.returned (.tuple #[.string ⟨#[]⟩,errV (opE ((a,b),t,p,c,s))])/\zB w w':=by
 obtain⟨f,g,j,_⟩:=id hd;obtain⟨n,l⟩:=zx s.length;rw[<-l] at j;subst j;have r:Hid (∀O,DtsAt (w.alloc O) (.slice f n g) s):=fun O=>hd.below (zb w O)
 have C:Hid (∀W,DtsAt W (.slice f n g) s->Calls prog 108 #[.agg #[zI a,zI b,zI t,.string p,zI c,.slice f n g]] W fun e w'=>e=.returned (errV (opE ((a,b),t,p,c,s)))/\zB W w'):=fun W h=>cM a b t p c _ s W h hp
 rw[aH h0] at C;rw[aH h0];obtain⟨k,i⟩:=zx (opE ((a,b),t,p,c,s));rw[<-i] at C;rw[<-i];clear hd l h0 i;go_in;go_wp2_with fail;refine(C.out _ (r.out _)).mono ?_;rintro e w2 ⟨rfl,d⟩;have m:=z9 ((oW d).2);clear d;go_wp2_with fail;go_ret2;exact⟨rfl,m.out⟩
theorem zY(vs:Value)(s:List Dt)(w:World)(hd:DtsAt w vs s)(h0:opE ((a,b),t,p,c,s)=0):
  Calls prog 111 #[.agg #[.int .i64 a,.int .i64 b,.int .i64 t,.string p,.int .i64 c,vs]] w fun e w'=>e=.returned (.tuple #[.string (fI ((a,b),t,p,c,s)),.nilIface])/\zB w w':=by
 obtain⟨e1,e2,e3,e4⟩:=aO.1 h0
 obtain⟨g1,g2,g3,g4,g5⟩:=bB.1 e4
 simp only at e1 e2 e3 g1 g2 g3 g4 g5
 obtain⟨dd,de,df,G⟩:=bH.1 e1
 have bp:=Bm.cS e3
 rw[Om.aJ] at bp
 obtain⟨dg,cv⟩:=bp
 obtain⟨dh,di⟩:=e2
 have au:∀d ∈ s,dotE d.1 d.2=0:=(dQ.1 g5).1
 have HD:Hid (∀d ∈ s,1<=d.1/\d.1<=8/\1<=d.2/\d.2<=9999):=fun d hd=>bH.1 (au d hd)
 have ce:p.size<=maxLen:=by unfold maxLen;omega
 obtain⟨K,J,bq,_⟩:=id hd
 obtain⟨n,hn⟩:=zx s.length
 rw[<-hn] at bq g4
 have av:=z9 hn.symm
 subst bq
 have C:Hid (∀W,DtsAt W (.slice K n J) s->Calls prog 108 #[.agg #[zI a,zI b,zI t,.string p,zI c,.slice K n J]] W fun e w'=>e=.returned .nilIface/\zB W w'):=by
  intro W h;have:=cM a b t p c _ s W h ce;rwa [h0,aD] at this
 obtain⟨B,a4⟩:=zx ((w.alloc (.cells #[zI a,zI b,zI t,.string p,zI c,.slice K n J] 97)).heap.size)
 have ad:=z9 a4
 have F:Hid (∀W,Below B (w.alloc (.cells #[zI a,zI b,zI t,.string p,zI c,.slice K n J] 97)) W->Six W w.heap.size a b t p c (.slice K n J)/\DtsAt W (.slice K n J) s/\zB w W):=by
  intro W hb
  rw[a4] at hb
  have bs:=bE (qD _ w) hb
  exact⟨(aT w a b t p c (.slice K n J) 97).below hb,hd.below bs,bs⟩
 have FT:Hid (t=((u8 t).toNat:Int)):=(bK (by omega) (by omega)).symm
 have FP:Hid ((p.size:Int)=((u8 (p.size:Int)).toNat:Int)):=(bK (by omega) (by omega)).symm
 have a5:Hid (∀O,DtsAt (w.alloc O) (.slice K n J) s):=fun O=>hd.below ((qD _ w).alloc (qC _) O)
 have dj:(p.size:Int)<=12:=by omega
 have a6:0<=a:=by omega
 have ap:a<=255:=by omega
 have a7:0<=b:=by omega
 have aq:b<=65535:=by omega
 clear hd a4 hn au g5 e1 e3 e4 h0
 by_cases t1:t=1
 case pos=>
  subst t1
  obtain⟨dk,dl⟩:=g1 rfl
  have FC:Hid (c=((u8 c).toNat:Int)):=(bK (by omega) (by omega)).symm
  have a9:=g3 (by decide)
  subst a9
  clear g1 g2 g3
  go_in
  go_wp2_with fail
  refine(C.out _ (a5.out _)).mono ?_
  rintro e w2 ⟨rfl,G⟩
  have A:Hid (Below B (w.alloc (.cells #[zI a,zI b,zI 1,.string p,zI c,.slice K n J] 97)) w2):=by rw[ad.out];exact G
  have D:Hid (B<=w2.heap.size):=by rw[ad.out];exact G.size
  obtain⟨⟨m,o,q,r,y,z⟩,_,_⟩:=F.out _ A.out
  have R:Hid (Row (w2.alloc (.cells #[.int .u8 1] 5)) B (.slice (some (zW w2)) 1 1) [u8 1]):=Row.one w2 B _ _ FT.out D.out
  have E:Hid (Below B w2 (w2.alloc (.cells #[.int .u8 1] 5))/\B<=(w2.alloc (.cells #[.int .u8 1] 5)).heap.size):=⟨(qD _ _).alloc D.out _,by have:=D.out;simp;omega⟩
  obtain⟨⟨k0,k1,_,_,_,_⟩,_,_⟩:=F.out _ (A.out.trans E.out.1)
  clear G C
  go_wp2_with fail
  refine(fA B _ [u8 1] a b _ R.out a6 ap a7 aq (by simp) E.out.2).mono ?_
  rintro e w3 ⟨v3,rfl,H,S,ag⟩
  obtain⟨p3,N3,c3,rfl,_⟩:=H.shape
  have ah:=z9 H
  have T:Hid (Below B (w.alloc (.cells #[zI a,zI b,zI 1,.string p,zI c,.slice K n J] 97)) w3):=(A.out.trans E.out.1).trans S
  clear H S m o q r y z k0 k1 R E A D
  obtain⟨⟨m,o,q,r,y,z⟩,_,_⟩:=F.out _ T.out
  go_wp2_with (first
   | (at_builtin;refine aQ _ rfl (.tmp 20) (.tmp 25) rfl B (.slice p3 N3 c3) ([u8 1]++(u8 a::b2 b)) _ (u8 (p.size:Int)) _ rfl ah.out _ rfl (by first | rfl | simp) FP.out (by simp[bO]) ag ?_;intro v4 w4 hr4 hb4 hs4;obtain⟨p4,N4,c4,rfl,_⟩:=hr4.shape;have ai:=z9 hr4;have U:=z9 (T.out.trans hb4);clear m o q r y z;obtain⟨⟨m,o,q,r,y,z⟩,_,_⟩:=F.out _ U.out;clear hr4 hb4)
   | (at_builtin;refine gJ _ rfl (.tmp 27) (.tmp 29) rfl B (.slice p4 N4 c4) ([u8 1]++(u8 a::b2 b)++[u8 (p.size:Int)]) p rfl ai.out rfl (by simp[bO];omega) hs4 ?_;intro v5 w5 hr5 hb5 hs5;obtain⟨p5,N5,c5,rfl,_⟩:=hr5.shape;have ae:=z9 hr5;have V:=z9 (U.out.trans hb5);clear m o q r y z;obtain⟨⟨m,o,q,r,y,z⟩,_,_⟩:=F.out _ V.out;clear hr5 hb5)
   | (at_builtin;refine aQ _ rfl (.tmp 35) (.tmp 39) rfl B (.slice p5 N5 c5) ([u8 1]++(u8 a::b2 b)++[u8 (p.size:Int)]++p.toList) _ (u8 c) _ rfl ae.out _ rfl (by first | rfl | simp) FC.out (by simp[bO,Om.aJ];omega) hs5 ?_;intro v6 w6 hr6 hb6 Z;obtain⟨p6,N6,c6,rfl,_⟩:=hr6.shape;have I:=z9 hr6;have L:=z9 (V.out.trans hb6);clear m o q r y z;clear hr6 hb6))
  obtain⟨g,j⟩:=zx ([u8 1]++(u8 a::b2 b)++[u8 (p.size:Int)]++p.toList++[u8 c])
  have am:Hid (g++[u8 (sumB g%253)]=bytesB ((a,b),1,p,c,[])):=by
   unfold Hid;rw[j];unfold bytesB frontB tailB b2
   simp
  have aa:Hid (g≠[]):=by unfold Hid;rw[j];simp
  have X:Hid (g.length<=1000000):=by unfold Hid;rw[j];simp[bO,Om.aJ];omega
  have ab:Hid (g.length+1<=1000000000):=by unfold Hid;have:=X.out;omega
  have Y:Hid (Row w6 B (.slice p6 N6 c6) g):=by rw[j];exact I.out
  clear j I
  go_wp2_with fail
  refine(yK B _ g _ Y.out aa.out X.out).mono ?_
  rintro e w8 ⟨rfl,hw⟩
  subst w8
  go_wp2_with (at_builtin;refine aQ _ rfl (.tmp 61) (.tmp 64) rfl B (.slice p6 N6 c6) g _ (u8 (sumB g%253)) _ rfl Y.out _ rfl (by first | rfl | simp) rfl ab.out Z ?_;intro v9 w9 hr9 hb9 hs9;have ac:=hr9.reads (by simp);obtain⟨p9,N9,c9,rfl,_⟩:=hr9.shape;have an:=z9 (L.out.trans hb9);rw[am.out] at ac;clear hr9 hb9)
  go_ret2
  exact⟨rfl,(F.out _ an.out).2.2⟩
 by_cases t4:t=4
 case neg=>
  have dm:(t==1)=false:=by simpa using t1
  have dn:(t==4)=false:=by simpa using t4
  have a9:=g3 t4
  subst a9
  have ck:=z9 t1
  have cl:=z9 t4
  clear g1 g2 g3 t1 t4
  go_in
  go_wp2_with fail
  refine(C.out _ (a5.out _)).mono ?_
  rintro e w2 ⟨rfl,G⟩
  have A:Hid (Below B (w.alloc (.cells #[zI a,zI b,zI t,.string p,zI c,.slice K n J] 97)) w2):=by rw[ad.out];exact G
  have D:Hid (B<=w2.heap.size):=by rw[ad.out];exact G.size
  obtain⟨⟨m,o,q,r,y,z⟩,_,_⟩:=F.out _ A.out
  have R:Hid (Row (w2.alloc (.cells #[.int .u8 t] 5)) B (.slice (some (zW w2)) 1 1) [u8 t]):=Row.one w2 B _ _ FT.out D.out
  have E:Hid (Below B w2 (w2.alloc (.cells #[.int .u8 t] 5))/\B<=(w2.alloc (.cells #[.int .u8 t] 5)).heap.size):=⟨(qD _ _).alloc D.out _,by have:=D.out;simp;omega⟩
  obtain⟨⟨k0,k1,_,_,_,_⟩,_,_⟩:=F.out _ (A.out.trans E.out.1)
  clear G C
  go_wp2_with fail
  refine(fA B _ [u8 t] a b _ R.out a6 ap a7 aq (by simp) E.out.2).mono ?_
  rintro e w3 ⟨v3,rfl,H,S,ag⟩
  obtain⟨p3,N3,c3,rfl,_⟩:=H.shape
  have ah:=z9 H
  have T:Hid (Below B (w.alloc (.cells #[zI a,zI b,zI t,.string p,zI c,.slice K n J] 97)) w3):=(A.out.trans E.out.1).trans S
  clear H S m o q r y z k0 k1 R E A D
  obtain⟨⟨m,o,q,r,y,z⟩,_,_⟩:=F.out _ T.out
  go_wp2_with (first
   | (at_builtin;refine aQ _ rfl (.tmp 20) (.tmp 25) rfl B (.slice p3 N3 c3) ([u8 t]++(u8 a::b2 b)) _ (u8 (p.size:Int)) _ rfl ah.out _ rfl (by first | rfl | simp) FP.out (by simp[bO]) ag ?_;intro v4 w4 hr4 hb4 hs4;obtain⟨p4,N4,c4,rfl,_⟩:=hr4.shape;have ai:=z9 hr4;have U:=z9 (T.out.trans hb4);clear m o q r y z;obtain⟨⟨m,o,q,r,y,z⟩,_,_⟩:=F.out _ U.out;clear hr4 hb4)
   | (at_builtin;refine gJ _ rfl (.tmp 27) (.tmp 29) rfl B (.slice p4 N4 c4) ([u8 t]++(u8 a::b2 b)++[u8 (p.size:Int)]) p rfl ai.out rfl (by simp[bO];omega) hs4 ?_;intro v5 w5 hr5 hb5 hs5;obtain⟨p5,N5,c5,rfl,_⟩:=hr5.shape;have ae:=z9 hr5;have V:=z9 (U.out.trans hb5);clear m o q r y z;obtain⟨⟨m,o,q,r,y,z⟩,_,_⟩:=F.out _ V.out;clear hr5 hb5))
  obtain⟨g,j⟩:=zx ([u8 t]++(u8 a::b2 b)++[u8 (p.size:Int)]++p.toList)
  have am:Hid (g++[u8 (sumB g%253)]=bytesB ((a,b),t,p,c,[])):=by
   unfold Hid;rw[j];unfold bytesB frontB tailB b2
   simp[ck.out,cl.out]
  have aa:Hid (g≠[]):=by unfold Hid;rw[j];simp
  have X:Hid (g.length<=1000000):=by unfold Hid;rw[j];simp[bO,Om.aJ];omega
  have ab:Hid (g.length+1<=1000000000):=by unfold Hid;have:=X.out;omega
  have Y:Hid (Row w5 B (.slice p5 N5 c5) g):=by rw[j];exact ae.out
  clear j ae
  go_wp2_with fail
  refine(yK B _ g _ Y.out aa.out X.out).mono ?_
  rintro e w8 ⟨rfl,hw⟩
  subst w8
  go_wp2_with (at_builtin;refine aQ _ rfl (.tmp 61) (.tmp 64) rfl B (.slice p5 N5 c5) g _ (u8 (sumB g%253)) _ rfl Y.out _ rfl (by first | rfl | simp) rfl ab.out hs5 ?_;intro v9 w9 hr9 hb9 hs9;have ac:=hr9.reads (by simp);obtain⟨p9,N9,c9,rfl,_⟩:=hr9.shape;have an:=z9 (V.out.trans hb9);rw[am.out] at ac;clear hr9 hb9)
  go_ret2
  exact⟨rfl,(F.out _ an.out).2.2⟩
 subst t4
 have FN:Hid ((n:Int)=((u8 (n:Int)).toNat:Int)):=(bK (by omega) (by omega)).symm
 clear g1 g2 g3 t1
 go_in
 go_wp2_with fail
 refine(C.out _ (a5.out _)).mono ?_
 rintro e w2 ⟨rfl,G⟩
 have A:Hid (Below B (w.alloc (.cells #[zI a,zI b,zI 4,.string p,zI c,.slice K n J] 97)) w2):=by rw[ad.out];exact G
 have D:Hid (B<=w2.heap.size):=by rw[ad.out];exact G.size
 obtain⟨⟨m,o,q,r,y,z⟩,_,_⟩:=F.out _ A.out
 have R:Hid (Row (w2.alloc (.cells #[.int .u8 4] 5)) B (.slice (some (zW w2)) 1 1) [u8 4]):=Row.one w2 B _ _ FT.out D.out
 have E:Hid (Below B w2 (w2.alloc (.cells #[.int .u8 4] 5))/\B<=(w2.alloc (.cells #[.int .u8 4] 5)).heap.size):=⟨(qD _ _).alloc D.out _,by have:=D.out;simp;omega⟩
 obtain⟨⟨k0,k1,_,_,_,_⟩,_,_⟩:=F.out _ (A.out.trans E.out.1)
 clear G C
 go_wp2_with fail
 refine(fA B _ [u8 4] a b _ R.out a6 ap a7 aq (by simp) E.out.2).mono ?_
 rintro e w3 ⟨v3,rfl,H,S,ag⟩
 obtain⟨p3,N3,c3,rfl,_⟩:=H.shape
 have ah:=z9 H
 have T:Hid (Below B (w.alloc (.cells #[zI a,zI b,zI 4,.string p,zI c,.slice K n J] 97)) w3):=(A.out.trans E.out.1).trans S
 clear H S m o q r y z k0 k1 R E A D
 obtain⟨⟨m,o,q,r,y,z⟩,_,_⟩:=F.out _ T.out
 go_wp2_with (first
  | (at_builtin;refine aQ _ rfl (.tmp 20) (.tmp 25) rfl B (.slice p3 N3 c3) ([u8 4]++(u8 a::b2 b)) _ (u8 (p.size:Int)) _ rfl ah.out _ rfl (by first | rfl | simp) FP.out (by simp[bO]) ag ?_;intro v4 w4 hr4 hb4 hs4;obtain⟨p4,N4,c4,rfl,_⟩:=hr4.shape;have ai:=z9 hr4;have U:=z9 (T.out.trans hb4);clear m o q r y z;obtain⟨⟨m,o,q,r,y,z⟩,_,_⟩:=F.out _ U.out;clear hr4 hb4)
  | (at_builtin;refine gJ _ rfl (.tmp 27) (.tmp 29) rfl B (.slice p4 N4 c4) ([u8 4]++(u8 a::b2 b)++[u8 (p.size:Int)]) p rfl ai.out rfl (by simp[bO];omega) hs4 ?_;intro v5 w5 hr5 hb5 hs5;obtain⟨p5,N5,c5,rfl,_⟩:=hr5.shape;have ae:=z9 hr5;have V:=z9 (U.out.trans hb5);clear m o q r y z;obtain⟨⟨m,o,q,r,y,z⟩,_,_⟩:=F.out _ V.out;clear hr5 hb5)
  | (at_builtin;refine aQ _ rfl (.tmp 43) (.tmp 48) rfl B (.slice p5 N5 c5) ([u8 4]++(u8 a::b2 b)++[u8 (p.size:Int)]++p.toList) _ (u8 (n:Int)) _ rfl ae.out _ rfl (by first | rfl | simp) FN.out (by simp[bO,Om.aJ];omega) hs5 ?_;intro v6 w6 hr6 hb6 Z;obtain⟨p6,N6,c6,rfl,_⟩:=hr6.shape;have I:=z9 hr6;have L:=z9 (V.out.trans hb6);clear m o q r y z;obtain⟨⟨m,o,q,r,y,z⟩,_,_⟩:=F.out _ L.out;clear hr6 hb6))
 obtain⟨Q6,aw⟩:∃Q,Q=[u8 4]++(u8 a::b2 b)++[u8 (p.size:Int)]++p.toList++[u8 (n:Int)]:=⟨_,rfl⟩
 have bt:=z9 aw
 have bu:Hid (Q6.length<=30):=by rw[aw];unfold Hid;simp[Om.aJ,bO];omega
 have bj:Hid (Row w6 B (.slice p6 N6 c6) (Q6++seenB (s.take 0))):=by
  have h9:=I.out
  rw[<-aw] at h9
  rw[show seenB (s.take 0)=[] from rfl,vY];exact h9
 clear aw I m o q r y z
 go_loopw [5,53] (fun v i wr=>∃(k:Nat),k<=n/\i=zI k/\(∃P N C,v=.slice P N C)/\Hid (Row wr B v (Q6++seenB (s.take k)))/\Hid (Below B (w.alloc (.cells #[zI a,zI b,zI 4,.string p,zI c,.slice K n J] 97)) wr)/\B<=wr.heap.size) (fun _ i _=>n-(intOf i).toNat)
 case atStart=>exact⟨0,by omega,rfl,⟨_,_,_,rfl⟩,bj,L,Z⟩
 case round=>
  clear bj L Z
  obtain⟨k,hk,rfl,⟨p6,N6,c6,rfl⟩,I,L,Z⟩:=hrel
  obtain⟨_,ax,_⟩:=F.out _ L.out
  by_cases bv:k<n
  ·have ca:(k:Int)<n:=by omega
   have ao:k<s.length:=by rw[av.out];exact bv
   obtain⟨b0,o0,rfl⟩:=sR ax ao
   have hx:=aAc ax ao
   have ay:=oR ao
   have bk:=HD.out _ (cC ao)
   obtain⟨x,bw⟩:=zx (s.getD k noneD)
   rw[<-bw] at hx ay bk
   obtain⟨x1,x2⟩:=x
   obtain⟨f1,f2⟩:=hx
   simp only at f1 f2 ay bk
   obtain⟨dp,dq,dr,ds⟩:=bk
   have bx:Hid ((Q6++seenB (s.take k)).length<=999999):=by
    unfold Hid;rw[qE,fQ,qQ];have:=bu.out;omega
   have bl:Hid (Q6++seenB (s.take (k+1))=(Q6++seenB (s.take k))++(u8 x1::b2 x2)):=by unfold Hid;rw[ay];simp
   clear bw ay ax ao
   obtain⟨Q7,bz⟩:∃Q,Q=Q6++seenB (s.take k):=⟨_,rfl⟩
   rw[<-bz] at I bx bl
   clear bz
   have b1:Hid (∀O,Row (wr.alloc O) B (.slice p6 N6 c6) Q7):=fun O=>Row.alloc I.out O
   have bm:Hid (∀O,Below B wr (wr.alloc O)/\B<=(wr.alloc O).heap.size):=fun O=>⟨(qD _ _).alloc Z O,by simp;omega⟩
   go_wp2_with fail
   refine(fA B _ Q7 x1 x2 _ (b1.out _) (by omega) (by omega) (by omega) (by omega) bx.out (bm.out _).2).mono ?_
   rintro e w8 ⟨v8,rfl,bn,b3,cr⟩
   obtain⟨p8,N8,c8,rfl,_⟩:=bn.shape
   have ct:Hid (Row w8 B (.slice p8 N8 c8) (Q6++seenB (s.take (k+1)))):=by unfold Hid;rw[bl.out];exact bn
   have cu:Hid (Below B (w.alloc (.cells #[zI a,zI b,zI 4,.string p,zI c,.slice (some ⟨b0,o0,none⟩) n J] 97)) w8):=(L.out.trans (bm.out _).1).trans b3
   clear bn b3 b1 bm
   go_wp2_with fail
   go_roundw
   case rel=>exact⟨k+1,by omega,by go_num,⟨_,_,_,rfl⟩,ct,cu,cr⟩
   case measure=>simp[intOf];omega
  ·obtain rfl:n=k:=by omega
   have ca:¬(n:Int)<n:=by omega
   rw[qW (by rw[av.out];exact qC _)] at I
   clear bv hk ax
   obtain⟨g,j⟩:=zx (Q6++seenB s)
   have am:Hid (g++[u8 (sumB g%253)]=bytesB ((a,b),4,p,c,s)):=by
    unfold Hid;rw[j];rw[bt.out];unfold bytesB frontB tailB b2
    simp[av.out]
   have aa:Hid (g≠[]):=by unfold Hid;rw[j,bt.out];simp
   have X:Hid (g.length<=1000000):=by unfold Hid;rw[j];rw[qE,fQ,av.out];have:=bu.out;omega
   have ab:Hid (g.length+1<=1000000000):=by unfold Hid;have:=X.out;omega
   have Y:Hid (Row wr B (.slice p6 N6 c6) g):=by rw[j];exact I.out
   clear j I
   go_wp2_with fail
   refine(yK B _ g _ Y.out aa.out X.out).mono ?_
   rintro e w8 ⟨rfl,hw⟩
   subst w8
   go_wp2_with (at_builtin;refine aQ _ rfl (.tmp 61) (.tmp 64) rfl B (.slice p6 N6 c6) g _ (u8 (sumB g%253)) _ rfl Y.out _ rfl (by first | rfl | simp) rfl ab.out Z ?_;intro v9 w9 hr9 hb9 hs9;have ac:=hr9.reads (by simp);obtain⟨p9,N9,c9,rfl,_⟩:=hr9.shape;have an:=z9 (L.out.trans hb9);rw[am.out] at ac;clear hr9 hb9)
   go_ret2
   exact⟨rfl,(F.out _ an.out).2.2⟩
theorem gK:aB3:=by
 intro a b t p c v s w hd hp;by_cases d:opE ((a,b),t,p,c,s)=0
 ·have:=zY a b t p c v s w hd d;rw[d,aD];unfold encS;rw[if_pos d];exact this
 ·have:=aAp a b t p c v s w hd hp d;unfold encS;rw[if_neg d];exact this
end Ve
namespace Vf
open Oa Vd Ve
open La (aD aH)
theorem pE{l:List Ox}{k:Nat}(hk:k<l.length):eachB (l.take (k+1))=eachB (l.take k)++(b2 (bytesB (l.getD k oz)).length++bytesB (l.getD k oz)):=by
 rw[jV,qB hk,qA,qB hk,nT];show _++eachB [l[k]]=_
 unfold eachB;simp
theorem rX{w w':World}{B:Nat}{v v':Value}{l:List UInt8}(h:Grew w w' v v')(hr:Row w B v l)(hB:B<=w.heap.size):Below B w w'/\B<=w'.heap.size:=⟨h.below hr hB,qO hB h.1.size⟩
theorem aEl:aGT:=by
 intro v l w h hsz;obtain⟨p,c,rfl,M,_⟩:=h;obtain⟨n,H⟩:∃n,l.length=n:=⟨_,rfl⟩;rw[H];by_cases j:400<n
 ·have s:Hid (errV (packE l)=.iface 59 (zI 4)/\packS l=⟨#[]⟩):=by
   have e:packE l=4:=by unfold packE;rw[H,if_pos j]
   refine⟨by rw[e];rfl, ?_⟩;unfold packS;rw[e,if_neg (by decide)]
  rw[s.out.1,s.out.2];have hz:(400:Int)<n:=by omega
  clear H M hsz j;go_in;go_wp2_with fail;go_ret2;exact⟨rfl,qD _ _⟩
 have b7:n<=400:=by omega
 have ac:Hid (packE l=firstE l):=by unfold Hid packE;rw[H,if_neg j]
 have Y:=z9 H;have HI:=z9 M;have HZ:=z9 hsz;have ad:Hid (packB l=b2 (n:Int)++eachB l):=by unfold Hid packB;rw[H]
 have hz:¬(400:Int)<n:=by omega
 clear H M hsz j;have bz:(n:Int)<=400:=by omega
 go_in;go_wp2_with fail;refine(gS w.heap.size (zS) [] (n:Int) w (Row.nil _ _) (by omega) (by omega) (by simp) (qC _)).mono ?_;rintro e w1 ⟨v1,rfl,R,ae⟩;obtain⟨af,ag⟩:=rX ae (Row.nil w w.heap.size) (qC _);obtain⟨p1,N1,c1,rfl,_⟩:=R.shape;have ah:=z9 R;have ai:=z9 af;clear R af ae;go_wp2_with fail;go_loopw [4,18] (fun u i wr=>∃(k:Nat),k<=n/\i=zI k/\(∃P N C,u=.slice P N C)/\Hid (Row wr w.heap.size u (b2 (n:Int)++eachB (l.take k)))/\Hid (zB w wr)/\w.heap.size<=wr.heap.size/\Hid ((eachB (l.take k)).length<=142*k)/\Hid (firstE (l.drop k)=firstE l)) (fun _ i _=>n-(intOf i).toNat)
 case atStart=>exact⟨0,by omega,rfl,⟨_,_,_,rfl⟩,ah,ai,ag,by simp[Hid,eachB],rfl⟩
 case round=>
  clear ah ai ag;obtain⟨k,hk,rfl,⟨p1,N1,c1,rfl⟩,Z,HK,b8,aj,HF⟩:=hrel;by_cases ak:k<n
  ·have a8:(k:Int)<n:=by omega
   obtain⟨b,o,rfl,hc⟩:=HI.out.some (by intro e;have:=Y.out;rw[e] at this;simp at this;omega);have f:k<l.length:=by rw[Y.out];exact ak
   have ha:=(hc k f).below HK.out;have t:=HZ.out _ (cP f);have y:=pE f;have z:=aCn f;obtain⟨x,hx⟩:=zx (l.getD k oz);rw[<-hx] at ha t y z;obtain⟨⟨A,B⟩,D,E,F,r⟩:=x;obtain⟨vs,⟨a0,a1,a2,a3,a4,a5⟩,S⟩:=ha;simp only at a0 a1 a2 a3 a4 a5 S t;obtain⟨pv,cv,al,_⟩:=id S;obtain⟨nv,am⟩:=zx r.length;rw[<-am] at al;subst al;clear am;have K:=fun O=>gK A B D E F _ r (wr.alloc O) (S.below ((qD _ wr).alloc (qC _) O)) t
   by_cases a:opE ((A,B),D,E,F,r)=0
   ·have U:=lA a;obtain⟨T,I⟩:=zx (fI ((A,B),D,E,F,r));have an:T.toList=bytesB ((A,B),D,E,F,r):=by rw[I,cK]
    have G:encS ((A,B),D,E,F,r)=T:=by unfold encS;rw[if_pos a,I]
    rw[G,a,aD] at K;rw[<-an,Om.aJ] at U y;have ao:=z9 y;have bu:T.size<=140:=U.2;have bn:(T.size:Int)<=140:=by omega
    have b9:T.size<=maxLen:=by unfold maxLen;omega
    have bo:Hid (firstE (l.drop (k+1))=firstE l):=by
     unfold Hid;rw[<-HF.out,z,if_neg (by simpa using a)]
    have bh:Hid ((eachB (l.take (k+1))).length<=142*(k+1)):=by
     unfold Hid;rw[ao.out,qE,qE,bO,Om.aJ];have:=aj.out;omega
    obtain⟨Q,hQ⟩:=zx (b2 (n:Int)++eachB (l.take k))
    have HQ:Hid (b2 (n:Int)++eachB (l.take (k+1))=(Q++b2 (T.size:Int))++T.toList):=by
     unfold Hid;rw[ao.out,hQ];simp
    have ap:Hid (Q.length<=60002):=by unfold Hid;rw[hQ,qE,bO];have:=aj.out;omega
    have bj:Hid (Q.length<=1000000):=by unfold Hid;have:=ap.out;omega
    have bk:Hid ((Q++b2 (T.size:Int)).length+T.size<=1000000000):=by unfold Hid;rw[qE,bO];have:=ap.out;omega
    rw[<-hQ] at Z;clear hc hx a y I an U S f hQ G z t;go_wp2_with fail;refine(K _).mono ?_;rintro e w2 ⟨rfl,hb2⟩;have hb2':=bE HK.out hb2;have aq:Hid (Row w2 w.heap.size (.slice p1 N1 c1) Q):=(Row.alloc Z.out _).below hb2;have V:=z9 hb2';have ar:w.heap.size<=w2.heap.size:=hb2'.size;clear hb2 hb2' K a0 a1 a2 a3 a4 a5;go_wp2_with fail;refine(gS w.heap.size (.slice p1 N1 c1) Q (T.size:Int) w2 aq.out (by omega) (by omega) bj.out ar).mono ?_;rintro e w3 ⟨v3,rfl,X,au⟩;obtain⟨av,bp⟩:=rX au aq.out ar;obtain⟨p3,N3,c3,rfl,_⟩:=X.shape;have bq:=z9 X;have br:=z9 (V.out.trans av);clear X av au;go_wp2_with (at_builtin;refine gJ _ rfl (.tmp 33) (.tmp 34) rfl w.heap.size (.slice p3 N3 c3) (Q++b2 (T.size:Int)) T rfl bq.out rfl bk.out bp ?_;intro v4 w4 hr4 hb4 hs4;obtain⟨p4,N4,c4,rfl,_⟩:=hr4.shape;have aw:=z9 hr4;have bs:=z9 (br.out.trans hb4);clear hr4 hb4);rw[<-HQ.out] at aw;go_roundw
    case rel=>exact⟨k+1,by omega,by go_num,⟨_,_,_,rfl⟩,aw,bs,hs4,bh,bo⟩
    case measure=>simp[intOf];omega
   ·obtain⟨q,hq⟩:=zx (opE ((A,B),D,E,F,r));have G:encS ((A,B),D,E,F,r)=⟨#[]⟩:=by unfold encS;rw[if_neg a]
    rw[G,aH a,<-hq] at K
    have s:Hid (errV (packE l)=.iface 59 (zI q)/\packS l=⟨#[]⟩):=by
     have e:packE l=opE ((A,B),D,E,F,r):=by rw[ac.out,<-HF.out,z,if_pos a]
     refine⟨by rw[e,aH a,hq], ?_⟩;unfold packS;rw[e,if_neg a]
    clear hc hx a y S f G z t hq;go_wp2_with fail;refine(K _).mono ?_;rintro e w2 ⟨rfl,hb2⟩;have V:=z9 (bE HK.out hb2);clear hb2 K a0 a1 a2 a3 a4 a5;go_wp2_with fail;go_ret2;exact⟨by rw[s.out.1,s.out.2];rfl,V.out⟩
  ·obtain rfl:n=k:=by omega
   have a8:¬(n:Int)<n:=by omega
   rw[qW (by rw[Y.out];exact qC _),<-ad.out] at Z;have ax:=Z.out.reads (by rw[ad.out];simp[b2])
   have s:Hid (errV (packE l)=.nilIface/\packS l=⟨(packB l).toArray⟩):=by
    have h9:=HF.out;rw[xM (by rw[Y.out];exact qC _)] at h9;have e:packE l=0:=by rw[ac.out,<-h9];rfl
    refine⟨by rw[e];exact aD, ?_⟩;unfold packS;rw[e,if_pos rfl]
   rw[<-s.out.2] at ax;obtain⟨T,I⟩:=zx (packS l);rw[<-I] at ax;have HT:=z9 I;clear I ak hk;go_wp2_with fail;go_ret2;exact⟨by rw[s.out.1,<-HT.out];rfl,HK.out⟩
end Vf
end Go.Proofs.YtjcemlmlfoilmaaGreatDoor
