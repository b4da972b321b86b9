import Derived.Test.YtjcemlmlfoilmaaGreatDoorJ12
set_option linter.unusedVariables false
set_option maxRecDepth 100000
set_option maxHeartbeats 8000000
namespace Go.Proofs.YtjcemlmlfoilmaaGreatDoor
open Go.RowKit Cm Ka Na Om Oa Oz Oi Hm Ia Ic Ie If Ih Ii
open Go.Proofs.Tryz (prog)
namespace Ik
open Oc Ij
open La (bel aD aH own_below)
theorem mX{ops:Array Oper}{o:Oper}{a:Act}{W:World}{K:Act->World->Prop}{Q:Exit->Act->World->Prop}{E:Prop}{R:Value->World->Prop}(hgd:o.guard=none)(F:FuncId)(x:Operand)(T:TypeId)(ho:o.op=.call { callee:=.value (.func F),args:=#[x],argTypes:=#[T] })(v0:Value)(hx:a.eval x=v0)(hcf:∀args W,(callFunc F args).run prog W=.ok (.enter F args) W)(hC:Calls prog F #[v0] W fun e w'=>∃v,e=.returned v/\R v w')(h:∀v w',R v w'->K (a.put o.dst v) w'):
  if Region.wanted o (yielded ops a.tmps)=true then Oper.wp prog o a W K Q else E:=by
 have b:Region.wanted o (yielded ops a.tmps)=true:=by simp[Region.wanted,hgd]
 rw[if_pos b]
 have c:(execOp a.eval o).run prog W=.ok (.enter F #[v0]) W:=by
  have d:a.eval (.func F)=.func (.func F) #[] #[]:=rfl;unfold execOp;simp only[ho,resolve,invoke,xN,jY,vM,hx,d];exact hcf _ _
 unfold Oper.wp;rw[c,Oper.upon_enter];refine hC.mono ?_;rintro e w' ⟨v,rfl,f⟩;exact h v w' f
theorem aBv{w w':World}{D:Nat}{o:Obj}{r:Option Nat}(h:w.heap[D]? =some o)(hg:w.grownBy w' r)(hne:r=some D->False):w'.heap[D]? =some o:=by
 rw[hg.block D (qG.1 h).1 (fun e=>hne e.symm)];exact h
theorem aCC(args:Array Value)(W:World):(callFunc 39 args).run prog W=.ok (.enter 39 args) W:=by
 first | kernel_rfl | simp[callFunc,go_sem,Tryz.func39]
variable (m:Mem)(S:Dq)(G F:Nat->Prop)(a b t:Int)(p:ByteArray)(c:Int)(vs:Value)(s:List Dt)(w:World)
theorem zZ(h:DocOk w m S G)(hd:DtsAt w vs s)(hp:p.size<=maxLen)(k:Int)(ho:opE ((a,b),t,p,c,s)=k)(h0:k≠0):
  Calls prog 105 #[.pointer (some ⟨m.D,0,none⟩),.agg #[.int .i64 a,.int .i64 b,.int .i64 t,.string p,.int .i64 c,vs]] w (BePost w S G ((a,b),t,p,c,s)):=by
 have j:Hid (zB w ((w.alloc (.cells #[zI a,zI b,zI t,.string p,zI c,vs] 97)).alloc (.cells #[zS,zS,zS] 90))):=((qD _ w).alloc (qC _) _).alloc (by simp) _;have q:Hid (Six ((w.alloc (.cells #[zI a,zI b,zI t,.string p,zI c,vs] 97)).alloc (.cells #[zS,zS,zS] 90)) w.heap.size a b t p c vs):=(aT w a b t p c vs 97).below ((qD _ _).alloc (qC _) _);have n:Hid (Ct ((w.alloc (.cells #[zI a,zI b,zI t,.string p,zI c,vs] 97)).alloc (.cells #[zS,zS,zS] 90)) (w.heap.size+1)):=pQ w _;have f:Hid (∀W,zB w W->Calls prog 108 #[.agg #[zI a,zI b,zI t,.string p,zI c,vs]] W fun e w'=>e=.returned (errV (opE ((a,b),t,p,c,s)))/\zB W w'):=fun W hb=>Vc.cM a b t p c vs s W (hd.below hb) hp
 have r:Hid (isNew S ((a,b),t,p,c,s)=false):=by unfold Hid isNew;rw[ho,decide_eq_false h0];rfl
 have y:Hid (errV (apE S ((a,b),t,p,c,s))=.iface 59 (zI k)):=by unfold Hid apE;rw[ho,if_pos h0,aH h0]
 rw[ho] at f;simp only[aH h0] at f;obtain⟨D,l⟩:=zx m.D;have E:=z9 l;rw[<-l];clear h hd hp ho h0 l;go_in;obtain⟨F,H,I,J,K,L⟩:=q.out;go_wp2_with fail;refine(f.out _ j.out).mono ?_;rintro e w2 ⟨rfl,g⟩;have o:=z9 (bel j.out g);have d:=z9 (aK g n.out);clear g f;have z:=aB d.out (i:=0) (u:=zS) rfl;have A:=aB d.out (i:=1) (u:=zS) rfl;have B:=aB d.out (i:=2) (u:=zS) rfl;have M:=aF d.out (i:=0);have N:=aF d.out (i:=1);have O:=aF d.out (i:=2);go_wp2_with fail;try simp only[Exit.inBlock,Exit.then]
 refine bodyPost_ret (v:=.tuple #[.agg #[zS,zS,zS],.bool false,.iface 59 (zI k)]) ?_ rfl (BePost.no r.out y.out (eR o.out (by omega) _ _ _));simp[results,Tryz.results105,go_sem,asAddr,Result.andThen,z,A,B]
theorem zD(h:DocOk w m S G)(hd:DtsAt w vs s)(hp:p.size<=maxLen)(ho:opE ((a,b),t,p,c,s)=0)(hk:Dm.hasB S.known a b=true)(hkn:b<=kn S a):
  Calls prog 105 #[.pointer (some ⟨m.D,0,none⟩),.agg #[.int .i64 a,.int .i64 b,.int .i64 t,.string p,.int .i64 c,vs]] w (BePost w S G ((a,b),t,p,c,s)):=by
 have j:Hid (zB w ((w.alloc (.cells #[zI a,zI b,zI t,.string p,zI c,vs] 97)).alloc (.cells #[zS,zS,zS] 90))):=((qD _ w).alloc (qC _) _).alloc (by simp) _;have q:Hid (Six ((w.alloc (.cells #[zI a,zI b,zI t,.string p,zI c,vs] 97)).alloc (.cells #[zS,zS,zS] 90)) w.heap.size a b t p c vs):=(aT w a b t p c vs 97).below ((qD _ _).alloc (qC _) _);have r:Hid (Ct ((w.alloc (.cells #[zI a,zI b,zI t,.string p,zI c,vs] 97)).alloc (.cells #[zS,zS,zS] 90)) (w.heap.size+1)):=pQ w _;have f:Hid (∀W,zB w W->Calls prog 108 #[.agg #[zI a,zI b,zI t,.string p,zI c,vs]] W fun e w'=>e=.returned (errV (opE ((a,b),t,p,c,s)))/\zB W w'):=fun W hb=>Vc.cM a b t p c vs s W (hd.below hb) hp
 have K:Hid (isNew S ((a,b),t,p,c,s)=false):=by
  unfold Hid;cases h9:isNew S ((a,b),t,p,c,s)
  ·rfl
  ·have:=(aZ.1 h9).2.1;simp only at this;omega
 have L:Hid (errV (apE S ((a,b),t,p,c,s))=.nilIface):=by unfold Hid apE;rw[if_neg (by simpa using ho),if_pos hkn];rfl
 have k:Hid (∀W,zB w W->Calls prog 132 #[.pointer (some ⟨m.D,0,none⟩),.agg #[zI a,zI b]] W fun e w'=>e=.returned (.bool true)/\zB W w'):=fun W hb=>by
  have:=fN m S G a b W (h.mem.below hb);rw[hk] at this;exact this
 rw[ho] at f;simp only[aD] at f;obtain⟨D,n⟩:=zx m.D;have P:=z9 n;rw[<-n];rw[<-n] at k;clear h hd hp ho hk hkn n;go_in;obtain⟨z,A,B,C,E,F⟩:=q.out;go_wp2_with fail;refine(f.out _ j.out).mono ?_;rintro e w2 ⟨rfl,g⟩;have o:=z9 (bel j.out g);have H:=z9 (aK g r.out);have I:=z9 (q.out.below g);clear g z A B C E F f q j;obtain⟨z,A,B,C,E,F⟩:=I.out;go_wp2_with fail;refine(k.out w2 o.out).mono ?_;rintro e w3 ⟨rfl,l⟩;have J:=z9 (bel o.out l);have d:=z9 (aK l H.out);clear l k;have M:=aB d.out (i:=0) (u:=zS) rfl;have N:=aB d.out (i:=1) (u:=zS) rfl;have O:=aB d.out (i:=2) (u:=zS) rfl;have Q:=aF d.out (i:=0);have R:=aF d.out (i:=1);have T:=aF d.out (i:=2);go_wp2_with fail;try simp only[Exit.inBlock,Exit.then]
 refine bodyPost_ret (v:=.tuple #[.agg #[zS,zS,zS],.bool false,.nilIface]) ?_ rfl (BePost.no K.out L.out (eR J.out (by omega) _ _ _));simp[results,Tryz.results105,go_sem,asAddr,Result.andThen,M,N,O]
theorem xF(h:DocOk w m S G)(hd:DtsAt w vs s)(hp:p.size<=maxLen)(ho:opE ((a,b),t,p,c,s)=0)(hk:Dm.hasB S.known a b=false)(ha:Dm.oZ S.known a b=6)(hkn:kn S a<b-1):
  Calls prog 105 #[.pointer (some ⟨m.D,0,none⟩),.agg #[.int .i64 a,.int .i64 b,.int .i64 t,.string p,.int .i64 c,vs]] w (BePost w S G ((a,b),t,p,c,s)):=by
 have A:Hid (zB w ((w.alloc (.cells #[zI a,zI b,zI t,.string p,zI c,vs] 97)).alloc (.cells #[zS,zS,zS] 90))):=((qD _ w).alloc (qC _) _).alloc (by simp) _
 have Z:Hid (Six ((w.alloc (.cells #[zI a,zI b,zI t,.string p,zI c,vs] 97)).alloc (.cells #[zS,zS,zS] 90)) w.heap.size a b t p c vs):=(aT w a b t p c vs 97).below ((qD _ _).alloc (qC _) _)
 have ab:Hid (Ct ((w.alloc (.cells #[zI a,zI b,zI t,.string p,zI c,vs] 97)).alloc (.cells #[zS,zS,zS] 90)) (w.heap.size+1)):=pQ w _
 have l:Hid (∀W,zB w W->Calls prog 108 #[.agg #[zI a,zI b,zI t,.string p,zI c,vs]] W fun e w'=>e=.returned (errV (opE ((a,b),t,p,c,s)))/\zB W w'):=fun W hb=>Vc.cM a b t p c vs s W (hd.below hb) hp
 have HN:Hid (isNew S ((a,b),t,p,c,s)=false):=by
  unfold Hid
  cases h9:isNew S ((a,b),t,p,c,s)
  ·rfl
  ·have:=(aZ.1 h9).2.1;simp only at this;omega
 have HE:Hid (errV (apE S ((a,b),t,p,c,s))=.iface 59 (zI 6)):=by unfold Hid apE;rw[if_neg (by simpa using ho),if_neg (show¬b<=kn S a by omega),if_pos hkn];rfl
 have C:Hid (∀W,zB w W->Calls prog 132 #[.pointer (some ⟨m.D,0,none⟩),.agg #[zI a,zI b]] W fun e w'=>e=.returned (.bool false)/\zB W w'):=fun W hb=>by
  have:=fN m S G a b W (h.mem.below hb)
  rw[hk] at this;exact this
 rw[ho] at l
 simp only[aD] at l
 obtain⟨E,M,F,o⟩:∃p n c,m.vk=.slice p n c:=by obtain⟨p,c,e,_⟩:=h.mem.known;exact⟨_,_,_,e⟩
 obtain⟨po,no,co,r⟩:∃p n c,m.vo=.slice p n c:=by obtain⟨L,_,e,_⟩:=h.mem.ops;obtain⟨p,n,c,k,_⟩:=aG e;exact⟨p,n,c,k⟩
 obtain⟨pb,nb,cb,V⟩:∃p n c,m.vb=.slice p n c:=by obtain⟨p,c,e,_⟩:=h.mem.book;exact⟨_,_,_,e⟩
 obtain⟨pm,nm,cm,X⟩:∃p n c,m.vm=.slice p n c:=by obtain⟨p,c,e,_⟩:=h.mem.marks;exact⟨_,_,_,e⟩
 have ax:=z9 r
 have ay:=z9 o
 have az:Hid (no=S.ops.length):=by
  obtain⟨L,_,e,_⟩:=h.mem.ops
  obtain⟨p,n,c,k,e3⟩:=aG e
  rw[r] at k
  injection k with _ k _
  exact k.trans e3.out
 have Y:Hid (∀W,zB w W->W.heap[m.D]? =some (.cells #[.slice pb nb cb,.slice pm nm cm,.slice E M F,.slice po no co,.map (some m.B)] 93)):=fun W hb=>by
  have:=(h.mem.below hb).blk
  rw[o,r,V,X] at this;exact this
 have ad:Hid (∀W,zB w W->Calls prog 133 #[.slice E M F,.agg #[zI a,zI b]] W fun e w'=>e=.returned (.tuple #[zS,.iface 59 (zI 6)])/\zB W w'):=fun W hb=>by
  obtain⟨q,cc,e,hi⟩:=h.mem.known
  rw[o] at e
  injection e with e1 k e3
  subst e1 k e3
  exact Dd.aI1 E _ F S.known a b W rfl (hi.below hb) (by rw[ha];decide) 6 ha
 obtain⟨D,N⟩:=zx m.D
 have HD:=z9 N
 rw[<-N]
 rw[<-N] at C Y
 clear h hd hp ho hk hkn ha N o r V X
 go_in
 obtain⟨O,P,Q,R,T,U⟩:=Z.out
 go_wp2_with fail
 refine(l.out _ A.out).mono ?_
 rintro e w2 ⟨rfl,y⟩
 have H:=z9 (bel A.out y)
 have ae:=z9 (aK y ab.out)
 have I:=z9 (Z.out.below y)
 clear y O P Q R T U l Z A
 obtain⟨O,P,Q,R,T,U⟩:=I.out
 go_wp2_with fail
 refine(C.out w2 H.out).mono ?_
 rintro e w3 ⟨rfl,z⟩
 have J:=z9 (bel H.out z)
 have af:=z9 (aK z ae.out)
 have ag:=z9 (I.out.below z)
 clear z O P Q R T U C I H
 obtain⟨O,P,Q,R,T,U⟩:=ag.out
 have d2:=aB (Y.out w3 J.out) (i:=2) (u:=.slice E M F) rfl
 go_wp2_with fail
 go_region_held3 (fun W=>W.cell? ⟨D,2,none⟩=some (.slice E M F)/\W.cell? (zW w)=some (zI a)/\W.cell? ⟨w.heap.size,1,none⟩=some (zI b)) (first | (go_keep;done) | (refine⟨aA g ?_,aA g ?_,aA g ?_⟩<;>(go_split_ands;assumption))) (first
  | (go_at_call 133;refine(ad.out _ J.out.drew).mono ?_;rintro e w4 ⟨rfl,g⟩;have ah:=z9 (bel J.out.drew g);have j:=z9 (aK (gQ g) af.out)))
 all_goals
  clear g
  have c0:=aB j.out (i:=0) (u:=zS) rfl
  have c1:=aB j.out (i:=1) (u:=zS) rfl
  have c2:=aB j.out (i:=2) (u:=zS) rfl
  have f0:=aF j.out (i:=0)
  have f1:=aF j.out (i:=1)
  have f2:=aF j.out (i:=2)
  go_wp2_with fail
  try simp only[Exit.inBlock,Exit.then]
  refine bodyPost_ret (v:=.tuple #[.agg #[zS,zS,zS],.bool false,.iface 59 (zI 6)]) ?_ rfl (BePost.no HN.out HE.out (eR ah.out (by omega) _ _ _))
  simp[results,Tryz.results105,go_sem,asAddr,Result.andThen,c0,c1,c2]
theorem aBG(G:Nat -> Prop)(a b t:Int)(p:ByteArray)(c:Int)(vs:Value)(s:List Dt)(w:World)(h:DocOk w m S G)(hd:DtsAt w vs s)(hp:p.size <=maxLen)(ho:opE ((a,b),t,p,c,s)=0)(hk:Dm.hasB S.known a b=false)(ha:Dm.oZ S.known a b=0)(hkn:kn S a+1=b)(hfull:400 <=S.ops.length):
  Calls prog 105 #[.pointer (some ⟨m.D,0,none⟩),.agg #[.int .i64 a,.int .i64 b,.int .i64 t,.string p,.int .i64 c,vs]] w (BePost w S G ((a,b),t,p,c,s)):=by
 have O:Hid (zB w ((w.alloc (.cells #[zI a,zI b,zI t,.string p,zI c,vs] 97)).alloc (.cells #[zS,zS,zS] 90))):=((qD _ w).alloc (qC _) _).alloc (by simp) _
 have H6:Hid (Six ((w.alloc (.cells #[zI a,zI b,zI t,.string p,zI c,vs] 97)).alloc (.cells #[zS,zS,zS] 90)) w.heap.size a b t p c vs):=(aT w a b t p c vs 97).below ((qD _ _).alloc (qC _) _)
 have al:Hid (Ct ((w.alloc (.cells #[zI a,zI b,zI t,.string p,zI c,vs] 97)).alloc (.cells #[zS,zS,zS] 90)) (w.heap.size+1)):=pQ w _
 have o:Hid (∀W,zB w W -> Calls prog 108 #[.agg #[zI a,zI b,zI t,.string p,zI c,vs]] W fun e w'=>e=.returned (errV (opE ((a,b),t,p,c,s))) /\ zB W w'):=fun W hb=>Vc.cM a b t p c vs s W (hd.below hb) hp
 have HN:Hid (isNew S ((a,b),t,p,c,s)=false):=by
  unfold Hid
  cases h9:isNew S ((a,b),t,p,c,s)
  ·rfl
  ·have:=(aZ.1 h9).2.2.1;omega
 have HE:Hid (errV (apE S ((a,b),t,p,c,s))=.iface 59 (zI 4)):=by unfold Hid apE;rw[if_neg (by simpa using ho),if_neg (show¬b <=kn S a by omega),if_neg (show¬kn S a<b-1 by omega),if_pos hfull];rfl
 have P:Hid (∀W,zB w W -> Calls prog 132 #[.pointer (some ⟨m.D,0,none⟩),.agg #[zI a,zI b]] W fun e w'=>e=.returned (.bool false) /\ zB W w'):=fun W hb=>by
  have:=fN m S G a b W (h.mem.below hb)
  rw[hk] at this;exact this
 rw[ho] at o
 simp only[aD] at o
 obtain⟨E,Q,F,r⟩:∃p n c,m.vk=.slice p n c:=by obtain⟨p,c,e,_⟩:=h.mem.known;exact⟨_,_,_,e⟩
 obtain⟨po,R,co,y⟩:∃p n c,m.vo=.slice p n c:=by obtain⟨L,_,e,_⟩:=h.mem.ops;obtain⟨p,n,c,l,_⟩:=aG e;exact⟨p,n,c,l⟩
 obtain⟨pb,nb,cb,aa⟩:∃p n c,m.vb=.slice p n c:=by obtain⟨p,c,e,_⟩:=h.mem.book;exact⟨_,_,_,e⟩
 obtain⟨pm,nm,cm,ab⟩:∃p n c,m.vm=.slice p n c:=by obtain⟨p,c,e,_⟩:=h.mem.marks;exact⟨_,_,_,e⟩
 have a4:Hid (m.vo=.slice po R co):=y
 have a5:Hid (m.vk=.slice E Q F):=r
 have am:Hid (R=S.ops.length):=by
  obtain⟨L,_,e,_⟩:=h.mem.ops
  obtain⟨p,n,c,l,e3⟩:=aG e
  rw[y] at l
  injection l with _ l _
  exact l.trans e3.out
 have T:Hid (∀W,zB w W -> W.heap[m.D]? =some (.cells #[.slice pb nb cb,.slice pm nm cm,.slice E Q F,.slice po R co,.map (some m.B)] 93)):=fun W hb=>by
  have:=(h.mem.below hb).blk
  rw[r,y,aa,ab] at this;exact this
 have ac:Hid (∀W,zB w W -> Calls prog 133 #[.slice E Q F,.agg #[zI a,zI b]] W fun e w'=>∃g cap,e=.returned (.tuple #[.slice (some (zA g)) 8 cap,.nilIface]) /\ Za.IntsIn w' (some (zA g)) (S.known.set (a-1).toNat b) /\ W.heap.size <=g /\ zB W w'):=fun W hb=>by
  obtain⟨q,cc,e,hi⟩:=h.mem.known
  rw[r] at e
  injection e with e1 l e3
  subst e1 l e3
  exact Dd.aAd E _ F S.known a b W rfl (hi.below hb) ha
 have a6:(400:Int) <=R:=by have:=am.out;omega
 obtain⟨D,Z⟩:=zx m.D
 have HD:Hid (D=m.D):=Z
 rw[<- Z]
 rw[<- Z] at P T
 clear h hd hp ho hk hkn ha Z r y aa ab hfull
 go_in
 obtain⟨H,I,J,K,M,N⟩:=H6.out
 go_wp2_with fail
 refine(o.out _ O.out).mono ?_
 rintro e w2 ⟨rfl,z⟩
 have U:Hid (zB w w2):=bel O.out z
 have an:Hid (Ct w2 (w.heap.size+1)):=aK z al.out
 have V:Hid (Six w2 w.heap.size a b t p c vs):=H6.out.below z
 clear z H I J K M N o H6 O
 obtain⟨H,I,J,K,M,N⟩:=V.out
 go_wp2_with fail
 refine(P.out w2 U.out).mono ?_
 rintro e w3 ⟨rfl,A⟩
 have C:Hid (zB w w3):=bel U.out A
 have ad:Hid (Ct w3 (w.heap.size+1)):=aK A an.out
 have X:Hid (Six w3 w.heap.size a b t p c vs):=V.out.below A
 clear A H I J K M N P V U
 obtain⟨H,I,J,K,M,N⟩:=X.out
 have d2:=aB (T.out w3 C.out) (i:=2) (u:=.slice E Q F) rfl
 go_wp2_with fail
 go_region_held3 (fun W=>W.cell? ⟨D,2,none⟩=some (.slice E Q F) /\ W.cell? (zW w)=some (zI a) /\ W.cell? ⟨w.heap.size,1,none⟩=some (zI b)) (first | (go_keep;done) | (refine⟨aA f ?_,aA f ?_,aA f ?_⟩<;>(go_split_ands;assumption))) (first
  | (go_at_call 133;refine(ac.out _ C.out.drew).mono ?_;rintro e w4 ⟨gk,a7,rfl,ae,af,f⟩;have ag:Hid (zB w w4):=bel C.out.drew f;have k:Hid (Ct w4 (w.heap.size+1)):=aK (gQ f) ad.out;have a8:Hid (Za.IntsIn w4 (some (zA gk)) (S.known.set (a-1).toNat b)):=ae;have a9:Hid (w.heap.size+1<gk):=jE ad.out.lt af;have ap:Hid (Six w4 w.heap.size a b t p c vs):=X.out.below (gQ f);clear ae af))
 all_goals
  clear f H I J K M N d2 X C ac
  have d3:=aB (T.out w4 ag.out) (i:=3) (u:=.slice po R co) rfl
  obtain⟨H,I,J,K,M,N⟩:=ap.out
  have c0:=aB k.out (i:=0) (u:=zS) rfl
  have c1:=aB k.out (i:=1) (u:=zS) rfl
  have c2:=aB k.out (i:=2) (u:=zS) rfl
  have f0:=aF k.out (i:=0)
  have f1:=aF k.out (i:=1)
  have f2:=aF k.out (i:=2)
  go_wp2_with fail
  try simp only[Exit.inBlock,Exit.then]
  refine bodyPost_ret (v:=.tuple #[.agg #[zS,zS,zS],.bool false,.iface 59 (zI 4)]) ?_ rfl (BePost.no HN.out HE.out (eR ag.out (by omega) _ _ _))
  simp[results,Tryz.results105,go_sem,asAddr,Result.andThen,c0,c1,c2]
theorem aEv(G:Nat -> Prop)(a b t:Int)(p:ByteArray)(c:Int)(vs:Value)(s:List Dt)(w:World)(h:DocOk w m S G)(hd:DtsAt w vs s)(hp:p.size <=maxLen)(ho:opE ((a,b),t,p,c,s)=0)(hk:Dm.hasB S.known a b=false)(ha:Dm.oZ S.known a b=0)(hkn:kn S a+1=b)(hun:kn S a<b)(hfew:S.ops.length<400)(k:Int)(hdo:doE S ((a,b),t,p,c,s)=k)(h0:k≠0):
  Calls prog 105 #[.pointer (some ⟨m.D,0,none⟩),.agg #[.int .i64 a,.int .i64 b,.int .i64 t,.string p,.int .i64 c,vs]] w (BePost w S G ((a,b),t,p,c,s)):=by
 have P:Hid (zB w ((w.alloc (.cells #[zI a,zI b,zI t,.string p,zI c,vs] 97)).alloc (.cells #[zS,zS,zS] 90))):=((qD _ w).alloc (qC _) _).alloc (by simp) _
 have H6:Hid (Six ((w.alloc (.cells #[zI a,zI b,zI t,.string p,zI c,vs] 97)).alloc (.cells #[zS,zS,zS] 90)) w.heap.size a b t p c vs):=(aT w a b t p c vs 97).below ((qD _ _).alloc (qC _) _)
 have ao:Hid (Ct ((w.alloc (.cells #[zI a,zI b,zI t,.string p,zI c,vs] 97)).alloc (.cells #[zS,zS,zS] 90)) (w.heap.size+1)):=pQ w _
 have r:Hid (∀W,zB w W -> Calls prog 108 #[.agg #[zI a,zI b,zI t,.string p,zI c,vs]] W fun e w'=>e=.returned (errV (opE ((a,b),t,p,c,s))) /\ zB W w'):=fun W hb=>Vc.cM a b t p c vs s W (hd.below hb) hp
 have HN:Hid (isNew S ((a,b),t,p,c,s)=false):=by
  unfold Hid
  cases h9:isNew S ((a,b),t,p,c,s)
  ·rfl
  ·have:=(aZ.1 h9).2.2.2;rw[hdo] at this;exact absurd this h0
 have HE:Hid (errV (apE S ((a,b),t,p,c,s))=.iface 59 (zI k)):=by unfold Hid apE;rw[if_neg (by simpa using ho),if_neg (show¬b <=kn S a by omega),if_neg (show¬kn S a<b-1 by omega),if_neg (by omega),hdo,aH h0]
 have ap:Hid (doE S ((a,b),t,p,c,s)=k):=hdo
 have H0:Hid (k≠0):=h0
 have Q:Hid (∀W,zB w W -> Calls prog 132 #[.pointer (some ⟨m.D,0,none⟩),.agg #[zI a,zI b]] W fun e w'=>e=.returned (.bool false) /\ zB W w'):=fun W hb=>by
  have:=fN m S G a b W (h.mem.below hb)
  rw[hk] at this;exact this
 rw[ho] at r
 simp only[aD] at r
 obtain⟨F,R,H,y⟩:∃p n c,m.vk=.slice p n c:=by obtain⟨p,c,e,_⟩:=h.mem.known;exact⟨_,_,_,e⟩
 obtain⟨po,T,co,z⟩:∃p n c,m.vo=.slice p n c:=by obtain⟨L,_,e,_⟩:=h.mem.ops;obtain⟨p,n,c,o,_⟩:=aG e;exact⟨p,n,c,o⟩
 obtain⟨pb,nb,cb,ae⟩:∃p n c,m.vb=.slice p n c:=by obtain⟨p,c,e,_⟩:=h.mem.book;exact⟨_,_,_,e⟩
 obtain⟨pm,nm,cm,af⟩:∃p n c,m.vm=.slice p n c:=by obtain⟨p,c,e,_⟩:=h.mem.marks;exact⟨_,_,_,e⟩
 have bc:Hid (m.vo=.slice po T co):=z
 have bd:Hid (m.vk=.slice F R H):=y
 have aq:Hid (T=S.ops.length):=by
  obtain⟨L,_,e,_⟩:=h.mem.ops
  obtain⟨p,n,c,o,e3⟩:=aG e
  rw[z] at o
  injection o with _ o _
  exact o.trans e3.out
 have U:Hid (∀W,zB w W -> W.heap[m.D]? =some (.cells #[.slice pb nb cb,.slice pm nm cm,.slice F R H,.slice po T co,.map (some m.B)] 93)):=fun W hb=>by
  have:=(h.mem.below hb).blk
  rw[y,z,ae,af] at this;exact this
 have ag:Hid (∀W,zB w W -> Calls prog 133 #[.slice F R H,.agg #[zI a,zI b]] W fun e w'=>∃g cap,e=.returned (.tuple #[.slice (some (zA g)) 8 cap,.nilIface]) /\ Za.IntsIn w' (some (zA g)) (S.known.set (a-1).toNat b) /\ W.heap.size <=g /\ zB W w'):=fun W hb=>by
  obtain⟨q,cc,e,hi⟩:=h.mem.known
  rw[y] at e
  injection e with e1 o e3
  subst e1 o e3
  exact Dd.aAd F _ H S.known a b W rfl (hi.below hb) ha
 have V:Hid (∀W,zB w W -> Calls prog 134 #[.pointer (some ⟨m.D,0,none⟩),.agg #[zI a,zI b,zI t,.string p,zI c,vs]] W (DoPost W m S G ((a,b),t,p,c,s))):=fun W hb=>zX m S G a b t p c vs s W ⟨h.mem.below hb,h.inv,h.jn,h.short⟩ ho (hd.below hb) hun
 have be:¬(400:Int) <=T:=by have:=aq.out;omega
 obtain⟨D,hD⟩:=zx m.D
 have HD:Hid (D=m.D):=hD
 rw[<- hD]
 rw[<- hD] at Q U V
 clear h hd hp ho hk hkn ha hD y z ae af hfew hun hdo h0
 go_in
 obtain⟨I,J,K,M,N,O⟩:=H6.out
 go_wp2_with fail
 refine(r.out _ P.out).mono ?_
 rintro e w2 ⟨rfl,A⟩
 have X:Hid (zB w w2):=bel P.out A
 have ar:Hid (Ct w2 (w.heap.size+1)):=aK A ao.out
 have Y:Hid (Six w2 w.heap.size a b t p c vs):=H6.out.below A
 clear A I J K M N O r H6 P
 obtain⟨I,J,K,M,N,O⟩:=Y.out
 go_wp2_with fail
 refine(Q.out w2 X.out).mono ?_
 rintro e w3 ⟨rfl,C⟩
 have E:Hid (zB w w3):=bel X.out C
 have ah:Hid (Ct w3 (w.heap.size+1)):=aK C ar.out
 have Z:Hid (Six w3 w.heap.size a b t p c vs):=Y.out.below C
 clear C I J K M N O Q Y X
 obtain⟨I,J,K,M,N,O⟩:=Z.out
 have d2:=aB (U.out w3 E.out) (i:=2) (u:=.slice F R H) rfl
 go_wp2_with fail
 go_region_held3 (fun W=>W.cell? ⟨D,2,none⟩=some (.slice F R H) /\ W.cell? (zW w)=some (zI a) /\ W.cell? ⟨w.heap.size,1,none⟩=some (zI b)) (first | (go_keep;done) | (refine⟨aA f ?_,aA f ?_,aA f ?_⟩<;>(go_split_ands;assumption))) (first
  | (go_at_call 133;refine(ag.out _ E.out.drew).mono ?_;rintro e w4 ⟨gk,bf,rfl,ai,aj,f⟩;have aa:Hid (zB w w4):=bel E.out.drew f;have au:Hid (Ct w4 (w.heap.size+1)):=aK (gQ f) ah.out;have bg:Hid (Za.IntsIn w4 (some (zA gk)) (S.known.set (a-1).toNat b)):=ai;have bh:Hid (w.heap.size+1<gk):=jE ah.out.lt aj;have av:Hid (Six w4 w.heap.size a b t p c vs):=Z.out.below (gQ f);clear ai aj))
 all_goals
  clear f I J K M N O d2 Z E ag
  have d3:=aB (U.out w4 aa.out) (i:=3) (u:=.slice po T co) rfl
  obtain⟨I,J,K,M,N,O⟩:=av.out
  go_wp2_with fail
  refine(V.out w4 aa.out).mono ?_
  rintro e w5 ⟨bi,bj,he,ab,_⟩
  rw[ap.out,aH H0.out] at he
  subst he
  have ax:Hid (zB w w5):=bel aa.out ab
  have l:Hid (Ct w5 (w.heap.size+1)):=aK ab au.out
  clear ab V
  have c0:=aB l.out (i:=0) (u:=zS) rfl
  have c1:=aB l.out (i:=1) (u:=zS) rfl
  have c2:=aB l.out (i:=2) (u:=zS) rfl
  have f0:=aF l.out (i:=0)
  have f1:=aF l.out (i:=1)
  have f2:=aF l.out (i:=2)
  go_wp2_with fail
  try simp only[Exit.inBlock,Exit.then]
  refine bodyPost_ret (v:=.tuple #[.agg #[zS,zS,zS],.bool false,.iface 59 (zI k)]) ?_ rfl (BePost.no HN.out HE.out (eR ax.out (by omega) _ _ _))
  simp[results,Tryz.results105,go_sem,asAddr,Result.andThen,c0,c1,c2]
theorem aCM(G:Nat -> Prop)(a b t:Int)(p:ByteArray)(c:Int)(vs:Value)(s:List Dt)(w:World)(h:DocOk w m S G)(hd:DtsAt w vs s)(hp:p.size <=maxLen)(ho:opE ((a,b),t,p,c,s)=0)(hk:Dm.hasB S.known a b=false)(ha:Dm.oZ S.known a b=0)(hkn:kn S a+1=b)(hun:kn S a<b)(hfew:S.ops.length<400)(hdo:doE S ((a,b),t,p,c,s)=0):
  Calls prog 105 #[.pointer (some ⟨m.D,0,none⟩),.agg #[.int .i64 a,.int .i64 b,.int .i64 t,.string p,.int .i64 c,vs]] w (BePost w S G ((a,b),t,p,c,s)):=by
 have P:Hid (zB w ((w.alloc (.cells #[zI a,zI b,zI t,.string p,zI c,vs] 97)).alloc (.cells #[zS,zS,zS] 90))):=((qD _ w).alloc (qC _) _).alloc (by simp) _
 have H6:Hid (Six ((w.alloc (.cells #[zI a,zI b,zI t,.string p,zI c,vs] 97)).alloc (.cells #[zS,zS,zS] 90)) w.heap.size a b t p c vs):=(aT w a b t p c vs 97).below ((qD _ _).alloc (qC _) _)
 have a3:Hid (Ct ((w.alloc (.cells #[zI a,zI b,zI t,.string p,zI c,vs] 97)).alloc (.cells #[zS,zS,zS] 90)) (w.heap.size+1)):=pQ w _
 have o:Hid (∀W,zB w W -> Calls prog 108 #[.agg #[zI a,zI b,zI t,.string p,zI c,vs]] W fun e w'=>e=.returned (errV (opE ((a,b),t,p,c,s))) /\ zB W w'):=fun W hb=>Vc.cM a b t p c vs s W (hd.below hb) hp
 have ax:Hid (isNew S ((a,b),t,p,c,s)=true):=aZ.2 ⟨ho,hkn,hfew,hdo⟩
 have am:Hid (doE S ((a,b),t,p,c,s)=0):=hdo
 have a4:Hid (∀g,G g -> g<w.heap.size):=h.mem.lt
 have a5:Hid ((S.known.set (a-1).toNat b).length=8):=by unfold Hid;rw[jN];exact h.inv.klen
 have Q:Hid (∀W,zB w W -> Calls prog 132 #[.pointer (some ⟨m.D,0,none⟩),.agg #[zI a,zI b]] W fun e w'=>e=.returned (.bool false) /\ zB W w'):=fun W hb=>by
  have:=fN m S G a b W (h.mem.below hb)
  rw[hk] at this;exact this
 rw[ho] at o
 simp only[aD] at o
 obtain⟨F,R,H,r⟩:∃p n c,m.vk=.slice p n c:=by obtain⟨p,c,e,_⟩:=h.mem.known;exact⟨_,_,_,e⟩
 obtain⟨po,T,co,z⟩:∃p n c,m.vo=.slice p n c:=by obtain⟨L,_,e,_⟩:=h.mem.ops;obtain⟨p,n,c,l,_⟩:=aG e;exact⟨p,n,c,l⟩
 obtain⟨pb,nb,cb,an⟩:∃p n c,m.vb=.slice p n c:=by obtain⟨p,c,e,_⟩:=h.mem.book;exact⟨_,_,_,e⟩
 obtain⟨pm,nm,cm,ao⟩:∃p n c,m.vm=.slice p n c:=by obtain⟨p,c,e,_⟩:=h.mem.marks;exact⟨_,_,_,e⟩
 have bs:Hid (m.vo=.slice po T co):=z
 have bt:Hid (m.vk=.slice F R H):=r
 have a6:Hid (T=S.ops.length):=by
  obtain⟨L,_,e,_⟩:=h.mem.ops
  obtain⟨p,n,c,l,e3⟩:=aG e
  rw[z] at l
  injection l with _ l _
  exact l.trans e3.out
 have U:Hid (∀W,zB w W -> W.heap[m.D]? =some (.cells #[.slice pb nb cb,.slice pm nm cm,.slice F R H,.slice po T co,.map (some m.B)] 93)):=fun W hb=>by
  have:=(h.mem.below hb).blk
  rw[r,z,an,ao] at this;exact this
 have ap:Hid (∀W,zB w W -> Calls prog 133 #[.slice F R H,.agg #[zI a,zI b]] W fun e w'=>∃g cap,e=.returned (.tuple #[.slice (some (zA g)) 8 cap,.nilIface]) /\ Za.IntsIn w' (some (zA g)) (S.known.set (a-1).toNat b) /\ W.heap.size <=g /\ zB W w'):=fun W hb=>by
  obtain⟨q,cc,e,hi⟩:=h.mem.known
  rw[r] at e
  injection e with e1 l e3
  subst e1 l e3
  exact Dd.aAd F _ H S.known a b W rfl (hi.below hb) ha
 have V:Hid (∀W,zB w W -> Calls prog 134 #[.pointer (some ⟨m.D,0,none⟩),.agg #[zI a,zI b,zI t,.string p,zI c,vs]] W (DoPost W m S G ((a,b),t,p,c,s))):=fun W hb=>zX m S G a b t p c vs s W ⟨h.mem.below hb,h.inv,h.jn,h.short⟩ ho (hd.below hb) hun
 have bu:¬(400:Int) <=T:=by have:=a6.out;omega
 obtain⟨D,hD⟩:=zx m.D
 have HD:Hid (D=m.D):=hD
 rw[<- hD]
 rw[<- hD] at Q U V
 clear h hd hp ho hk hkn ha hD r z an ao hfew hun hdo
 go_in
 obtain⟨I,J,K,M,N,O⟩:=H6.out
 go_wp2_with fail
 refine(o.out _ P.out).mono ?_
 rintro e w2 ⟨rfl,A⟩
 have X:Hid (zB w w2):=bel P.out A
 have a7:Hid (Ct w2 (w.heap.size+1)):=aK A a3.out
 have Y:Hid (Six w2 w.heap.size a b t p c vs):=H6.out.below A
 clear A I J K M N O o H6 P
 obtain⟨I,J,K,M,N,O⟩:=Y.out
 go_wp2_with fail
 refine(Q.out w2 X.out).mono ?_
 rintro e w3 ⟨rfl,C⟩
 have E:Hid (zB w w3):=bel X.out C
 have aq:Hid (Ct w3 (w.heap.size+1)):=aK C a7.out
 have Z:Hid (Six w3 w.heap.size a b t p c vs):=Y.out.below C
 clear C I J K M N O Q Y X
 obtain⟨I,J,K,M,N,O⟩:=Z.out
 have d2:=aB (U.out w3 E.out) (i:=2) (u:=.slice F R H) rfl
 go_wp2_with fail
 go_region_held3 (fun W=>W.cell? ⟨D,2,none⟩=some (.slice F R H) /\ W.cell? (zW w)=some (zI a) /\ W.cell? ⟨w.heap.size,1,none⟩=some (zI b)) (first | (go_keep;done) | (refine⟨aA j ?_,aA j ?_,aA j ?_⟩<;>(go_split_ands;assumption))) (first
  | (go_at_call 133;refine(ap.out _ E.out.drew).mono ?_;rintro e w4 ⟨gk,ab,rfl,ar,au,j⟩;have ac:Hid (zB w w4):=bel E.out.drew j;have av:Hid (Ct w4 (w.heap.size+1)):=aK (gQ j) aq.out;have a8:Hid (Za.IntsIn w4 (some (zA gk)) (S.known.set (a-1).toNat b)):=ar;have a9:Hid (w.heap.size+1<gk):=jE aq.out.lt au;have ba:Hid (Six w4 w.heap.size a b t p c vs):=Z.out.below (gQ j);clear ar au))
 all_goals
  clear j I J K M N O d2 Z E ap
  have d3:=aB (U.out w4 ac.out) (i:=3) (u:=.slice po T co) rfl
  obtain⟨I,J,K,M,N,O⟩:=ba.out
  go_wp2_with fail
  refine(V.out w4 ac.out).mono ?_
  rintro e w5 ⟨bb,bc,he,ad,ae⟩
  rw[am.out,aD] at he
  subst he
  obtain⟨⟨h1,i1⟩,h2,i2⟩:=ae am.out
  obtain⟨af,ag,ah,rfl⟩:∃p n c,bb=.slice p n c:=by obtain⟨p,c,e,_⟩:=h1;exact⟨_,_,_,e⟩
  obtain⟨ai,aj,ak,rfl⟩:∃p n c,bc=.slice p n c:=by obtain⟨p,c,e,_⟩:=h2;exact⟨_,_,_,e⟩
  have HP:Hid (BePost w S G ((a,b),t,p,c,s) (.returned (.tuple #[.agg #[.slice af ag ah,.slice ai aj ak,.slice (some (zA gk)) 8 ab],.bool true,.nilIface])) (set3 w5 (w.heap.size+1) (.slice af ag ah) (.slice ai aj ak) (.slice (some (zA gk)) 8 ab))):=BePost.yes ax.out a4.out ac.out av.out ad h1 i1 h2 i2 a8.out a5.out a9.out
  have k:Hid (Ct w5 (w.heap.size+1)):=aK ad av.out
  clear h1 i1 h2 i2 ae ad V
  have c0:=aB k.out (i:=0) (u:=zS) rfl
  have c1:=aB k.out (i:=1) (u:=zS) rfl
  have c2:=aB k.out (i:=2) (u:=zS) rfl
  have f0:=aF k.out (i:=0)
  have f1:=aF k.out (i:=1)
  have f2:=aF k.out (i:=2)
  go_wp2_with fail
  try simp only[Exit.inBlock,Exit.then]
  refine bodyPost_ret (v:=.tuple #[.agg #[.slice af ag ah,.slice ai aj ak,.slice (some (zA gk)) 8 ab],.bool true,.nilIface]) ?_ rfl HP.out
  simp[results,Tryz.results105,go_sem,asAddr,Result.andThen,c0,c1,c2]
theorem mL(ok:DocOk w m S G)(hd:DtsAt w vs s)(hp:p.size<=maxLen):
  Calls prog 105 #[.pointer (some ⟨m.D,0,none⟩),.agg #[.int .i64 a,.int .i64 b,.int .i64 t,.string p,.int .i64 c,vs]] w (BePost w S G ((a,b),t,p,c,s)):=by
 by_cases e:opE ((a,b),t,p,c,s)=0
 ·have h:=(aO.1 e).1;have j:=has_eq ok.inv h;by_cases g:b<=kn S a
  ·exact zD m S G a b t p c vs s w ok hd hp e (by rw[j,decide_eq_true g]) g
  ·have f:Dm.hasB S.known a b=false:=by rw[j,decide_eq_false g]
   have d:=add_eq ok.inv h g;by_cases k:kn S a+1<b
   ·rw[if_pos k] at d;exact xF m S G a b t p c vs s w ok hd hp e f d (by omega)
   ·rw[if_neg k] at d;by_cases l:400<=S.ops.length
    ·exact aBG m S G a b t p c vs s w ok hd hp e f d (by omega) l
    ·by_cases i:doE S ((a,b),t,p,c,s)=0
     ·exact aCM m S G a b t p c vs s w ok hd hp e f d (by omega) (by omega) (by omega) i
     ·exact aEv m S G a b t p c vs s w ok hd hp e f d (by omega) (by omega) (by omega) _ rfl i
 ·exact zZ m S G a b t p c vs s w ok hd hp _ rfl e
theorem aG2(h:DocOk w m S G)(hF:∀g,F g↔(G g\/Wr m g))(hd:DtsAt w vs s)(hoff:In (fun g=>¬F g) vs)(hp:p.size<=maxLen)(hn:isNew S ((a,b),t,p,c,s)=false)(k:Int)(hk:apE S ((a,b),t,p,c,s)=k)(h0:k≠0):
  Calls prog 79 #[.pointer (some ⟨m.D,0,none⟩),.agg #[.int .i64 a,.int .i64 b,.int .i64 t,.string p,.int .i64 c,vs]] w (gU w m.D S F ((a,b),t,p,c,s)):=by
 have j:Hid (DocAt w m.D S F):=⟨m,G,rfl,h,hF⟩;have d:Hid (zB w (w.alloc (.cells #[zI a,zI b,zI t,.string p,zI c,vs] 97))):=(qD _ w).alloc (qC _) _;have o:=z9 (aT w a b t p c vs 97);have f:=mL m S G a b t p c vs s (w.alloc (.cells #[zI a,zI b,zI t,.string p,zI c,vs] 97)) ⟨h.mem.below d.out,h.inv,h.jn,h.short⟩ (hd.below d.out) hp;have q:=z9 hn;have r:Hid (errV (apE S ((a,b),t,p,c,s))=.iface 59 (zI k)):=by unfold Hid;rw[hk,aH h0]
 obtain⟨D,i⟩:=zx m.D;have I:=z9 i;rw[<-i] at f j;rw[<-i];clear h hF hd hoff hp hn hk h0 i;go_in;obtain⟨z,A,B,C,E,H⟩:=o.out;go_wp2_with fail;refine f.mono ?_;rintro e w2 ⟨J,K,L,M,N,O,P,Q,R,v,l,_⟩;have n:=z9 (bel d.out l);clear l f z A B C E H o;rw[q.out,r.out] at v;subst v;go_wp2_with fail;go_ret2;exact gU.no j.out q.out r.out (n.out.alloc n.out.size _)
theorem aBO(h:DocOk w m S G)(hF:∀g,F g↔(G g\/Wr m g))(hd:DtsAt w vs s)(hoff:In (fun g=>¬F g) vs)(hp:p.size<=maxLen)(hn:isNew S ((a,b),t,p,c,s)=false)(hk:apE S ((a,b),t,p,c,s)=0):
  Calls prog 79 #[.pointer (some ⟨m.D,0,none⟩),.agg #[.int .i64 a,.int .i64 b,.int .i64 t,.string p,.int .i64 c,vs]] w (gU w m.D S F ((a,b),t,p,c,s)):=by
 have j:Hid (DocAt w m.D S F):=⟨m,G,rfl,h,hF⟩;have d:Hid (zB w (w.alloc (.cells #[zI a,zI b,zI t,.string p,zI c,vs] 97))):=zb w _;have n:=z9 (aT w a b t p c vs 97);have f:=mL m S G a b t p c vs s (w.alloc (.cells #[zI a,zI b,zI t,.string p,zI c,vs] 97)) ⟨h.mem.below d.out,h.inv,h.jn,h.short⟩ (hd.below d.out) hp;have o:=z9 hn;have q:Hid (errV (apE S ((a,b),t,p,c,s))=.nilIface):=by rw[hk];rfl
 obtain⟨D,i⟩:=zx m.D;have H:=z9 i;rw[<-i] at f j;rw[<-i];clear h hF hd hoff hp hn hk i;go_in;obtain⟨v,y,z,A,B,C⟩:=n.out;go_wp2_with fail;refine f.mono ?_;rintro e w2 ⟨I,J,K,L,M,N,O,P,Q,r,k,_⟩;have l:=z9 (bel d.out k);clear k f v y z A B C n;rw[o.out,q.out] at r;subst r;go_wp2_with fail;go_ret2;exact gU.no j.out o.out q.out (l.out.alloc l.out.size _)
theorem aER(h:DocOk w m S G)(hF:∀g,F g↔(G g\/Wr m g))(hd:DtsAt w vs s)(hoff:In (fun g=>¬F g) vs)(hp:p.size<=maxLen)(hn:isNew S ((a,b),t,p,c,s)=true):
  Calls prog 79 #[.pointer (some ⟨m.D,0,none⟩),.agg #[.int .i64 a,.int .i64 b,.int .i64 t,.string p,.int .i64 c,vs]] w (gU w m.D S F ((a,b),t,p,c,s)):=by
 have ca:Hid (DocAt w m.D S F):=⟨m,G,rfl,h,hF⟩
 have ag:Hid (zB w (w.alloc (.cells #[zI a,zI b,zI t,.string p,zI c,vs] 97))):=(qD _ w).alloc (qC _) _
 have H6:=z9 (aT w a b t p c vs 97)
 have aj:=mL m S G a b t p c vs s (w.alloc (.cells #[zI a,zI b,zI t,.string p,zI c,vs] 97)) ⟨h.mem.below ag.out,h.inv,h.jn,h.short⟩ (hd.below ag.out) hp
 have ab:=z9 hn
 obtain⟨ho,a6,ak,a7⟩:=aZ.1 hn
 simp only at a6
 have a8:apE S ((a,b),t,p,c,s)=0:=by
  unfold apE
  rw[if_neg (by simpa using ho),if_neg (show¬b<=kn S a by omega),if_neg (show¬kn S a<b-1 by omega),if_neg (by omega)]
  exact a7
 have HE:Hid (errV (apE S ((a,b),t,p,c,s))=.nilIface):=by unfold Hid;rw[a8];rfl
 have a9:=z9 h
 have HF:=z9 hF
 have al:s.length<=40:=(bB.1 (aO.1 ho).2.2.2).2.2.2.1
 have b3:=z9 ak
 have ba:Hid (∀x n cc,vs=.slice (some x) n cc->0<n->x.block<w.heap.size/\¬F x.block):=fun x n cc e hn=>⟨by
   obtain⟨q,c2,hv,ce,_⟩:=hd
   rw[e] at hv
   injection hv with e1 X e3
   rcases ce with e0 | ⟨bb,oo,hp9,hcs⟩
   ·rw[e0] at X;simp at X;omega
   ·rw[hp9] at e1;injection e1 with e1;rw[e1];exact(hcs 0 (by omega)).lt,hoff x n cc e hn⟩
 have bc:Hid (∀W,Chg F w W->DtsAt W vs s):=fun W Z=>bI hd (G:=fun g=>g<w.heap.size/\¬F g) (fun x n cc e hn=>ba.out x n cc e hn) (Z.stay fun g hg=>hg)
 have cg:Hid (∀W,DtsAt W vs s->Calls prog 39 #[.agg #[zI a,zI b,zI t,.string p,zI c,vs]] W fun e w'=>∃v,e=.returned v/\∃v',v=.agg #[zI a,zI b,zI t,.string p,zI c,v']/\w'.ownsRow W.heap.size 80 2 v' s.length (flatD s)/\zB W w'):=fun W hW=>(tL a b t p c vs s W hW (by omega)).mono fun e w' ⟨v',h1,h2,h3⟩=>⟨_,h1,v',rfl,h2,h3⟩
 have bd:Hid (∀W m9,m9.D=m.D->m9.M=m.M->Mid w F m9 (next S ((a,b),t,p,c,s)) W->Calls prog 106 #[.pointer (some ⟨m.D,0,none⟩),.agg #[zI a,zI b,zI t,.string p,zI c,vs]] W fun e w'=>e=.returned (.tuple #[])/\gU w m.D S F ((a,b),t,p,c,s) (.returned (.tuple #[.bool true,.nilIface])) w'):=by
  intro W m9 hmD hmM hmid
  have ch:=bc.out W hmid.chg
  obtain⟨G',h1,h2,h3,h4⟩:=hmid
  have cj:∀x ∈ m9.M,x.2.2.length<=40*S.ops.length:=by rw[hmM];exact h.short
  have b7:In (fun g=>¬Wr m9 g) vs:=fun x n cc e hn e9=>by
   have q:=ba.out x n cc e hn
   rcases h4 _ e9 with e8 | e8
   ·exact q.2 e8
   ·omega
  rw[<-hmD]
  refine(aBY m9 (next S ((a,b),t,p,c,s)) G' (40*S.ops.length) a b t p c vs s W h1 (by omega) cj ch b7 al).mono ?_
  rintro e w' ⟨rfl,M',cl⟩
  exact⟨rfl,aHM h hmM ab.out G' h2 h3 h4 cl⟩
 obtain⟨K,k,N,ah⟩:∃p n c,m.vo=.slice p n c:=by obtain⟨L,_,e,_⟩:=h.mem.ops;obtain⟨p,n,c,X,_⟩:=aG e;exact⟨p,n,c,X⟩
 obtain⟨be,bf,bg,bh⟩:∃p n c,m.vb=.slice p n c:=by obtain⟨p,c,e,_⟩:=h.mem.book;exact⟨_,_,_,e⟩
 obtain⟨bi,bj,bk,bl⟩:∃p n c,m.vm=.slice p n c:=by obtain⟨p,c,e,_⟩:=h.mem.marks;exact⟨_,_,_,e⟩
 obtain⟨bm,bn,bo,bp⟩:∃p n c,m.vk=.slice p n c:=by obtain⟨p,c,e,_⟩:=h.mem.known;exact⟨_,_,_,e⟩
 have aa:=z9 ah
 have am:Hid (k=S.ops.length):=by
  obtain⟨L,_,e,_⟩:=h.mem.ops
  obtain⟨p,n,c,X,e3⟩:=aG e
  rw[ah] at X
  injection X with _ X _
  exact X.trans e3.out
 have P:Hid (∀W,zB w W->W.heap[m.D]? =some (.cells #[.slice be bf bg,.slice bi bj bk,.slice bm bn bo,.slice K k N,.map (some m.B)] 93)):=fun W hb=>by
  have:=(h.mem.below hb).blk
  rw[bp,ah,bh,bl] at this;exact this
 have an:Hid (m.D<w.heap.size):=h.mem.sX _ (qH rfl)
 obtain⟨D,hD⟩:=zx m.D
 have HD:=z9 hD
 rw[<-hD] at aj ca bd P an
 rw[<-hD]
 clear h hF hd hoff hp hn ho a6 ak a7 a8 al hD ah bh bl bp
 go_in
 obtain⟨o0,o1,o2,o3,o4,o5⟩:=H6.out
 go_wp2_with fail
 refine aj.mono ?_
 rintro e w2 ⟨l,r,y,z,A,C,E,H,I,he,ao,hy⟩
 rw[ab.out,HE.out] at he
 subst he
 have cr:=z9 (bel ag.out ao)
 have bq:=z9 (H6.out.below ao)
 have f:Hid (zB w2 (w2.alloc (.cells #[.slice l r y,.slice z A C,.slice E H I] 90))):=(qD _ _).alloc (qC _) _
 have J:=z9 (bel cr.out f.out)
 have HY:Hid (Mid w F { m with vb:=.slice l r y,vm:=.slice z A C,vk:=.slice E H I } ⟨doB S ((a,b),t,p,c,s),doM S ((a,b),t,p,c,s),S.known.set (a-1).toNat b,S.ops⟩ (set3 (w2.alloc (.cells #[.slice l r y,.slice z A C,.slice E H I] 90)) D (.slice l r y) (.slice z A C) (.slice E H I))):=by
  obtain⟨⟨y1,i1⟩,⟨y2,i2⟩,y3,i3⟩:=hy ab.out
  have du:=ag.out.size
  have dv:=f.out.size
  have Y:∀g,News G (w.alloc (.cells #[zI a,zI b,zI t,.string p,zI c,vs] 97)) w2 g->News G w (w2.alloc (.cells #[.slice l r y,.slice z A C,.slice E H I] 90)) g:=fun g hg=>by
   rcases hg with e | e
   ·exact qH e
   ·exact qF ⟨by omega,by omega⟩
  rw[Hid,HD.out]
  exact aAz a9.out HF.out J.out (y1.below f.out) (i1.mono Y) (y2.below f.out) (i2.mono Y) (y3.below f.out) (i3.mono Y)
 have U:Hid (Six (set3 (w2.alloc (.cells #[.slice l r y,.slice z A C,.slice E H I] 90)) D (.slice l r y) (.slice z A C) (.slice E H I)) w.heap.size a b t p c vs):=uE (bq.out.below f.out) (mT _ _ _ _ _ _ (by have:=an.out;omega))
 have d0:=aB (P.out _ J.out) (i:=0) (u:=.slice be bf bg) rfl
 have d1:=aB (P.out _ J.out) (i:=1) (u:=.slice bi bj bk) rfl
 have d2:=aB (P.out _ J.out) (i:=2) (u:=.slice bm bn bo) rfl
 have f0:=aF (P.out _ J.out) (i:=0)
 have f1:=aF (P.out _ J.out) (i:=1)
 have f2:=aF (P.out _ J.out) (i:=2)
 clear ao hy aj o0 o1 o2 o3 o4 o5 H6
 go_wp2_with fail
 unfold set3 at HY U
 generalize cs:(((w2.alloc (.cells #[.slice l r y,.slice z A C,.slice E H I] 90)).setCell (zA D) (.slice l r y)).setCell ⟨D,1,none⟩ (.slice z A C)).setCell ⟨D,2,none⟩ (.slice E H I)=w6 at HY U |-
 clear cs d0 d1 d2 f0 f1 f2 J f bq
 obtain⟨G6,ap,Q,br,aq⟩:=HY.out
 obtain⟨L,hL,bs,bt⟩:=ap.ops
 have bu:=z9 ap
 have cu:=z9 Q
 have bv:Hid ((∀g,G6 g->F g\/w.heap.size<=g)/\∀g,Wr { m with vb:=.slice l r y,vm:=.slice z A C,vk:=.slice E H I } g->F g\/w.heap.size<=g):=⟨br,aq⟩
 have cv:=z9 hL
 have cw:=z9 bt
 have bw:Hid (w6.ownsRow 0 97 6 (.slice K k N) k (flatO L)):=by unfold Hid;rw[<-aa.out,am.out];exact bs
 have T:Hid (∀W,zB w6 W->W.heap[D]? =some (.cells #[.slice l r y,.slice z A C,.slice E H I,.slice K k N,.map (some m.B)] 93)):=fun W hb=>by
  have:=(bu.out.below hb).blk
  simp only[aa.out] at this
  rw[HD.out];exact this
 have cx:=z9 (bc.out w6.drew ⟨Q.os,Q.tape,Q.output,Q.size,Q.block⟩)
 have cy:Hid (∀g,(Value.slice K k N).ownBlock=some g->g<w.heap.size):=fun g hg=>a9.out.mem.sX g (qF (qF (qH (by rw[aa.out];exact hg))))
 have b8:Hid (∀g,(Value.slice K k N).ownBlock=some g->g=D->False):=fun g hg e=>by
  obtain⟨_,dw,Z⟩:=aL bw.out g hg
  rw[e,T.out w6 (qD _ _)] at Z
  injection Z with Z
  injection Z with _ Z _
  exact absurd Z (by decide)
 have q6:=aB (T.out w6 (qD _ _)) (i:=3) (u:=.slice K k N) rfl
 obtain⟨o0,o1,o2,o3,o4,o5⟩:=U.out
 clear hL bs bt ap Q br aq HY
 go_region_law (first
  | (refine mX (R:=fun v w'=>∃v',v=.agg #[zI a,zI b,zI t,.string p,zI c,v']/\w'.ownsRow w6.drew.heap.size 80 2 v' s.length (flatD s)/\Below w6.drew.heap.size w6.drew w') (by rfl) 39 (.tmp 32) _ (by rfl) _ (by rfl) aCC (cg.out _ cx.out) ?_;rintro v7 w7 ⟨dx,rfl,ar,bx⟩;obtain⟨p7,n7,c7,rfl,_⟩:=aG ar;have au:=z9 (gQ bx);have cz:=z9 ar;have f:Hid (∀O,zB w6 (w7.alloc O)):=(fun O=>au.out.alloc au.out.size O);have c0:Hid (∀O,(w7.alloc O).ownsRow 0 97 6 (.slice K k N) k (flatO L)):=(fun O=>own_below bw.out (f.out O));have q7:=aB (T.out w7 au.out) (i:=3) (u:=.slice K k N) rfl;have q8:=fun O=>aB (T.out _ (f.out O)) (i:=3) (u:=.slice K k N) rfl;clear ar bx)
  | (refine eQ (by rfl) (.tmp 31) (.tmp 34) (by rfl) (.slice K k N) k L ((a,b),t,p,c,s) p7 n7 c7 (by rfl) w7.heap.size (by rfl) (by have:=am.out;have:=b3.out;omega) (c0.out _) (heap_alloc_new w7 _) ?_;intro v9 w9 hr9 hg9 hl9;obtain⟨p9,n9,c9,rfl,_⟩:=aG hr9;have af:=(aBv (T.out _ (f.out _)) hg9 (fun e=>b8.out D e rfl));have q9:=aB af (i:=3) (u:=.slice K k N) rfl;have c1:=aF af (i:=3);have bz:Hid (Six w9 w.heap.size a b t p c vs):=uE (U.out.below (f.out _)) (hg9.block _ (aIB (U.out.below (f.out _))) (fun e=>by have:=cy.out _ e.symm;omega));have b0:Hid (Mid w F { m with vb:=.slice l r y,vm:=.slice z A C,vk:=.slice E H I,vo:=.slice p9 n9 c9 } (next S ((a,b),t,p,c,s)) (w9.setCell ⟨m.D,3,none⟩ (.slice p9 n9 c9))):=mid_ops (o:=((a,b),t,p,c,s)) bu.out cu.out bv.out.1 bv.out.2 cv.out cw.out (f.out _) (own_below cz.out ((qD _ w7).alloc (qC _) _)) (by show World.grownBy _ _ m.vo.ownBlock;rw[aa.out];exact hg9) (by have:=hr9;rw[am.out] at this;exact this) (by show _=m.vo.ownBlock\/_;rw[aa.out];exact hl9);clear hr9 hg9 hl9 af))
 all_goals
  have av:Hid (Six (w9.setCell ⟨D,3,none⟩ (.slice p9 n9 c9)) w.heap.size a b t p c vs):=uE bz.out (set_block _ _ _ _ (by have:=an.out;simp;omega))
  have aw:Hid (Mid w F { m with vb:=.slice l r y,vm:=.slice z A C,vk:=.slice E H I,vo:=.slice p9 n9 c9 } (next S ((a,b),t,p,c,s)) (w9.setCell ⟨D,3,none⟩ (.slice p9 n9 c9))):=by unfold Hid;rw[HD.out];exact b0.out
  clear q6 q7 q8 b0 bz U o0 o1 o2 o3 o4 o5
  generalize b9:w9.setCell ⟨D,3,none⟩ (.slice p9 n9 c9)=w11 at aw av |-
  clear b9 q9 c1
  obtain⟨o0,o1,o2,o3,o4,o5⟩:=av.out
  go_wp2_with fail
  refine(bd.out w11 { m with vb:=.slice l r y,vm:=.slice z A C,vk:=.slice E H I,vo:=.slice p9 n9 c9 } HD.out.symm rfl aw.out).mono ?_
  rintro e w12 ⟨rfl,ai⟩
  have HP:=z9 ai
  clear ai
  go_wp2_with fail
  go_ret2
  exact HP.out
theorem uZ(D:Nat)(S:Dq)(F:Nat->Prop)(a b t:Int)(p:ByteArray)(c:Int)(vs:Value)(s:List Dt)(w:World)(h:DocAt w D S F)(hd:DtsAt w vs s)(hoff:In (fun g=>¬F g) vs)(hp:p.size<=maxLen):
  Calls prog 79 #[.pointer (some ⟨D,0,none⟩),.agg #[.int .i64 a,.int .i64 b,.int .i64 t,.string p,.int .i64 c,vs]] w (gU w D S F ((a,b),t,p,c,s)):=by
 obtain⟨m,G,rfl,d,e⟩:=h;cases hn:isNew S ((a,b),t,p,c,s)
 ·by_cases f:apE S ((a,b),t,p,c,s)=0
  ·exact aBO m S G F a b t p c vs s w d e hd hoff hp hn f
  ·exact aG2 m S G F a b t p c vs s w d e hd hoff hp hn _ rfl f
 ·exact aER m S G F a b t p c vs s w d e hd hoff hp hn
end Ik
namespace Il
open Ib Idc
open La (own_below Lies)
open Lj (BookAt BookNew)
theorem aBT(ad:Addr)(n c:Nat)(l:List Bm.Leaf)(w:World)(hl:l.length=n)(hn2:n<=1048576)(hc:∀j u,(La.flat l)[j]? =some u->w.cell? (ad.add j)=some u):
  Calls prog 37 #[.slice (some ad) n c] w fun e w'=>∃v,e=.returned v/\w'.ownsRow w.heap.size 77 3 v n (La.flat l)/\zB w w':=by
 obtain⟨k,m,b,d,f⟩:=info_parts Lh.fH
 have o:Hid (∀j u,(La.flat l)[j]? =some u->(w.alloc (.cells #[] 77)).cell? (ad.add j)=some u):=by
  intro j u hu;exact aA ((qD _ w).alloc (qC _) _) (hc j u hu)
 have p:=z9 hl
 have q:Hid ((w.alloc (.cells #[] 77)).ownsRow w.heap.size 77 3 (.slice (some (zW w)) 0 0) 0 []):=
  ⟨rfl,qF ⟨w.heap.size,0,#[],rfl,qC _,heap_alloc_new w _,qC _,by unfold maxLen;omega,rfl,rfl⟩⟩
 have r:∀(a:Addr) (n c:Nat) (w:World),Sem.run prog (binOp .eql 47 (.slice (some a) n c) (zS)) w=.ok (.bool false) w:=fun _ _ _ _=>by kernel_rfl
 clear hc hl;go_in;go_wp2_with (at_builtin;refine wpList_append_own_at _ rfl (.tmp 5) (.tmp 6) 47 rfl w.heap.size 77 k (.agg #[.string ⟨#[]⟩,zI 0,.bool false]) 3 32 Tryz.underlying47 m b d f rfl (by decide) (.slice (some (zW w)) 0 0) 0 [] rfl q.out ad n c (La.flat l) rfl (by rw[La.aX,p.out]) o.out (La.bF l) (by unfold maxLen;omega) (by omega) (by simp) ?_;intro v' w1 hown' hgrow _ hat;have g:Hid (w1.ownsRow w.heap.size 77 3 v' n (La.flat l)):=(by have h:=hown';rw[qY,vC] at h;exact h);have i:Hid (zB w w1):=((qD _ w).alloc (qC _) (.cells #[] 77)).grown hgrow (by simp) (by intro j hj;simp[Value.ownBlock] at hj;omega);clear hown' hgrow hat);go_ret;exact⟨_,rfl,g.out,i.out⟩
variable (v:Value)(D:Nat)(S:Dq)(l:List Bm.Leaf)(F:Nat->Prop)(w:World)
theorem rM:
  Calls prog 37 #[.slice none 0 0] w fun e w'=>e=.returned (.slice none 0 0)/\w'=w:=by
 have a:∀(w:World),Sem.run prog (binOp .eql 47 (zS) (zS)) w=.ok (.bool true) w:=fun _=>by kernel_rfl
 go_in;go_wp2;go_ret;exact⟨rfl,rfl⟩
theorem aCW(h:BookAt w v l)(hn:l.length<=1048576):
  Calls prog 37 #[v] w fun e w'=>∃v',e=.returned v'/\BookNew w.heap.size w' v' l/\zB w w':=by
 obtain⟨q,c,rfl,a,r,m,d⟩:=h
 cases q with
 | none=>
  have f:=d rfl
  subst f
  have g:l=[]:=qK (by omega)
  subst g
  refine(rM w).mono ?_
  rintro e w' ⟨rfl,rfl⟩
  exact⟨_,rfl,BookNew.nil _ _,qD _ _⟩
 | some ad=>
  refine(aBT ad l.length c l w rfl hn (fun j u hu=> ?_)).mono ?_
  ·rcases a with e0 | ⟨b,o,hp2,hcs⟩
   ·subst e0;simp[La.flat] at hu
   ·injection hp2 with hp2
    subst hp2
    rw[jU];exact La.gM hcs j u hu
  ·rintro e w' ⟨v',rfl,i,k⟩
   exact⟨v',rfl,⟨Lj.own_at i,Lies.own i⟩,k⟩
theorem aBg(l:List Mk)(w:World)(h:MksAt w v l)(hn:l.length<=1048576):
  Calls prog 57 #[v] w fun e w'=>∃v',e=.returned v'/\MksNew w.heap.size w' v' l/\zB w w':=by
 obtain⟨q,c,rfl,a,r,m,d⟩:=h
 cases q with
 | none=>
  have f:=d rfl
  subst f
  have g:l=[]:=qK (by omega)
  subst g
  refine(Nn.uA w).mono ?_
  rintro e w' ⟨rfl,rfl⟩
  exact⟨_,rfl,MksNew.nil _ _,qD _ _⟩
 | some ad=>
  refine(Nf.dL ad l.length c l w rfl hn (fun j u hu=> ?_)).mono ?_
  ·rcases a with e0 | ⟨b,o,hp2,hcs⟩
   ·subst e0;simp[flat] at hu
   ·injection hp2 with hp2
    subst hp2
    rw[jU];exact gM hcs j u hu
  ·rintro e w' ⟨v',rfl,i,k⟩
   exact⟨v',rfl,⟨gR i,La.Lies.own i⟩,k⟩
theorem bR{S:Dq}(I:Inv S):S.book.length<=300:=(Bm.aU.1 I.book).1
theorem gX{S:Dq}(I:Inv S):S.marks.length<=40:=(aY.1 I.marks).1
theorem eJ(h:DocAt w D S F):
  Calls prog 16 #[.pointer (some ⟨D,0,none⟩)] w fun e w'=>∃v',e=.returned v'/\BookNew w.heap.size w' v' S.book/\zB w w':=by
 obtain⟨m,G,rfl,a,q⟩:=h;have f:=aB a.mem.blk (i:=0) (u:=m.vb) rfl;have C:=aCW m.vb S.book w a.mem.book (by have:=bR a.inv;omega);obtain⟨y,z,A,b⟩:∃p n c,m.vb=.slice p n c:=by obtain⟨p,c,e,_⟩:=a.mem.book;exact⟨_,_,_,e⟩
 obtain⟨D,d⟩:=zx m.D;rw[b] at f C;rw[<-d] at f;rw[<-d];clear a q b d;go_in;go_wp2_with fail;refine C.mono ?_;rintro e w2 ⟨s,rfl,g,j⟩;have k:Hid (BookNew w.heap.size w2 s S.book/\zB w w2):=⟨g,j⟩;clear g j C;go_wp2_with fail;go_ret;exact⟨_,rfl,k.out.1,k.out.2⟩
theorem oO(h:DocAt w D S F):
  Calls prog 29 #[.pointer (some ⟨D,0,none⟩)] w fun e w'=>∃v',e=.returned v'/\MksNew w.heap.size w' v' S.marks/\zB w w':=by
 obtain⟨m,G,rfl,a,q⟩:=h;have f:=aB a.mem.blk (i:=1) (u:=m.vm) rfl;have C:=aBg m.vm S.marks w a.mem.marks (by have:=gX a.inv;omega);obtain⟨y,z,A,b⟩:∃p n c,m.vm=.slice p n c:=by obtain⟨p,c,e,_⟩:=a.mem.marks;exact⟨_,_,_,e⟩
 obtain⟨D,d⟩:=zx m.D;rw[b] at f C;rw[<-d] at f;rw[<-d];clear a q b d;go_in;go_wp2_with fail;refine C.mono ?_;rintro e w2 ⟨s,rfl,g,j⟩;have k:Hid (MksNew w.heap.size w2 s S.marks/\zB w w2):=⟨g,j⟩;clear g j C;go_wp2_with fail;go_ret;exact⟨_,rfl,k.out.1,k.out.2⟩
theorem wA(h:DocAt w D S F):
  Calls prog 53 #[.pointer (some ⟨D,0,none⟩)] w fun e w'=>∃v',e=.returned v'/\KnAt w' v' S.known/\Lies w.heap.size v'/\zB w w':=by
 obtain⟨m,G,rfl,f,A⟩:=h;have B:=aB f.mem.blk (i:=2) (u:=m.vk) rfl;have d:=f.inv.klen;obtain⟨q,c,l,p⟩:=f.mem.known;obtain⟨b,o,rfl,a⟩:=p.some (by intro e;rw[e] at d;simp at d);have C:=Dc.pX b o S.known.length c S.known w rfl (by omega) (by omega) a;obtain⟨D,r⟩:=zx m.D;obtain⟨n,k⟩:=zx S.known.length;have t:=z9 k;rw[l,<-k,<-r] at B;rw[<-k] at C;rw[<-r];have J:=z9 d;clear f A l r p a d k;go_in;go_wp2_with fail;refine C.mono ?_;rintro e w2 ⟨g,v,rfl,y,a,_,z⟩;have s:Hid (w.heap.size<=g/\(∀j,j<S.known.length->w2.cell? ⟨g,0+j,none⟩=some (zI (S.known.getD j 0)))/\zB w w2):=⟨y,by rw[<-t.out];exact a,z⟩;clear y a z C;go_wp2_with fail;go_ret;exact⟨_,rfl,⟨_,v,by rw[<-t.out];rfl,qF ⟨g,0,rfl,s.out.2.1⟩⟩,Lies.at s.out.1,s.out.2.2⟩
theorem aFL(h:DocAt w D S F):
  Calls prog 34 #[.pointer (some ⟨D,0,none⟩)] w fun e w'=>e=.returned (.string (Lf.textR S.book))/\zB w w':=by
 obtain⟨m,G,rfl,b,r⟩:=h;have s:=aB b.mem.blk (i:=0) (u:=m.vb) rfl;obtain⟨q,c,d,f,l,o,_⟩:=b.mem.book;have C:=Lf.sG q S.book.length c S.book w rfl f (eM b.inv.book) (by omega);obtain⟨D,j⟩:=zx m.D;obtain⟨n,k⟩:=zx S.book.length;obtain⟨B,g⟩:=zx (errV (Bm.bookE S.book));obtain⟨E,a⟩:=zx (Lf.textR S.book);rw[d,<-k,<-j] at s;rw[<-k,<-g,<-a] at C;rw[<-j,<-a];clear b r d j f k g a l o;go_in;go_wp2_with fail;refine C.mono ?_;rintro e w2 ⟨rfl,p⟩;have v:=z9 p;clear p C;go_wp2_with fail;go_ret;exact⟨rfl,v.out⟩
theorem aH9{w w1:World}(ho:w1.ownsRow w.heap.size 3 1 (.slice (some ⟨w.heap.size,0,none⟩) 8 8) 8 (List.replicate 8 (.int .i64 0)))(hb:zB w w1):
  ∃F,DocAt ((w1.alloc (.map #[] 0)).alloc (.cells #[.slice none 0 0,.slice none 0 0,.slice (some ⟨w.heap.size,0,none⟩) 8 8,.slice none 0 0,.map (some w1.heap.size)] 93)) (w1.heap.size+1) d0 F/\(∀g,F g->w.heap.size<=g)/\
   zB w ((w1.alloc (.map #[] 0)).alloc (.cells #[.slice none 0 0,.slice none 0 0,.slice (some ⟨w.heap.size,0,none⟩) 8 8,.slice none 0 0,.map (some w1.heap.size)] 93)):=by
 have t:(w1.alloc (.map #[] 0)).heap.size=w1.heap.size+1:=by simp
 have q:=(aL ho w.heap.size rfl).1;have r:=heap_alloc_new (w1.alloc (.map #[] 0)) (.cells #[zS,zS,.slice (some (zW w)) 8 8,zS,.map (some w1.heap.size)] 93);rw[t] at r;have b:zB w1 ((w1.alloc (.map #[] 0)).alloc (.cells #[zS,zS,.slice (some (zW w)) 8 8,zS,.map (some w1.heap.size)] 93)):=(zb w1 _).alloc (by simp) _;have v:MapAt ((w1.alloc (.map #[] 0)).alloc (.cells #[zS,zS,.slice (some (zW w)) 8 8,zS,.map (some w1.heap.size)] 93)) w1.heap.size []:=MapAt.below (aFg w1) (zb _ _)
 have s:KnAt ((w1.alloc (.map #[] 0)).alloc (.cells #[zS,zS,.slice (some (zW w)) 8 8,zS,.map (some w1.heap.size)] 93)) (.slice (some (zW w)) 8 8) (List.replicate 8 0):=by
  refine⟨some (zW w),8,rfl,qF ⟨w.heap.size,0,rfl,fun j hj=> ?_⟩⟩;have i:j<8:=by simpa using hj
  have:=(own_below ho b).cells (g:=w.heap.size) rfl j z0 (by rw[kF,if_pos i]);rw[jU] at this;rw[this,qA,kF,if_pos i];rfl
 let m:Mem:=⟨w1.heap.size+1,zS,zS,.slice (some (zW w)) 8 8,zS,w1.heap.size,[]⟩
 have l:∀g,Wr m g->g=w1.heap.size+1\/g=w1.heap.size:=by
  rintro g (e | e | e | ⟨x,h,e⟩)
  ·exact qH e
  ·exact qF e
  ·cases e
  ·cases h
 refine⟨fun g=>(g=w.heap.size)\/Wr m g,⟨m,fun g=>g=w.heap.size,rfl,⟨⟨r,Lj.BookAt.nil _,In.nil _,MksAt.nil _,In.nil _,s,fun a n c e _=>(by injection e with e;injection e with e;rw[<-e]),⟨[],rfl,jT _ _ _ _,fun y hy=>(by cases hy)⟩,v,fun x h=>(by cases h),List.Pairwise.nil,fun g hg=> ?_,fun g hg e=> ?_⟩,inv_zero,fun d p hd hk=> ?_,fun x h=>(by cases h)⟩,fun g=>Iff.rfl⟩,fun g hg=> ?_,hb.trans ⟨b.os,b.tape,b.output,b.size,fun k hk=>b.block k (by omega)⟩⟩
 ·have o:=hg;rw[o];exact jE q b.size
 ·have o:=hg;rcases l g e with e | e<;>omega
 ·show p ∈ []↔_
  unfold d0 saw;simp
 ·rcases hg with e | e
  ·omega
  ·rcases l g e with e | e<;>omega
theorem aGg:(madeCells (Value.int .i64 0).cells (8*1)).toList=List.replicate 8 (.int .i64 0):=by kernel_rfl
theorem aHZ:Calls prog 19 #[] w fun e w'=>∃D F,e=.returned (.pointer (some ⟨D,0,none⟩))/\DocAt w' D d0 F/\(∀g,F g->w.heap.size<=g)/\zB w w':=by
 have n:=@run_makeMap prog;obtain⟨d,f,a,b,c⟩:=info_parts Za.aAr;go_in;go_wp2_with (at_make;refine wpList_make_full _ rfl (.const (zI 8)) (.const (zI 8)) 49 rfl w.heap.size 3 d z0 1 Tryz.underlying49 f a b .i64 .i64 8 8 8 rfl rfl rfl rfl (by rw[c];omega) (by unfold maxLen;omega) (qC _) ?_;intro w1 hown hgrow;have h:=z9 ((aGg▸hown));have i:Hid (zB w w1):=⟨hgrow.os,hgrow.tape,hgrow.output,hgrow.size,fun k hk=>hgrow.block k hk (by intro e;cases e)⟩;clear hown hgrow);go_ret;obtain⟨F,j,l,m⟩:=aH9 h.out i.out;exact⟨_,F,rfl,j,l,m⟩
end Il
namespace Im
open La (bel own_below)
theorem aJp(l:List Value)(m:Nat)(x0 x1 x2 x3 x4 x5:Value)(h:m+6<=l.length):
  ((((((l.set m x0).set (m+1) x1).set (m+2) x2).set (m+3) x3).set (m+4) x4).set (m+5) x5).take (m+6)=l.take m++[x0,x1,x2,x3,x4,x5]:=by
 apply yE;intro j;have b:(l.take m).length=m:=by rw[qQ];omega
 by_cases c:j<m
 ·rw[xS (by omega),jC (by omega),jC c];rw[qS (by omega),qS (by omega),qS (by omega),qS (by omega),qS (by omega),qS (by omega)]
 ·rw[jG (by omega),b];by_cases a:j<m+6
  ·rw[jC a];have d:j=m\/j=m+1\/j=m+2\/j=m+3\/j=m+4\/j=m+5:=by omega
   rcases d with rfl | rfl | rfl | rfl | rfl | rfl
   ·rw[qS (by omega),qS (by omega),qS (by omega),qS (by omega),qS (by omega),jR (by omega)];simp
   ·rw[qS (by omega),qS (by omega),qS (by omega),qS (by omega),jR (by simp;omega)];simp
   ·rw[qS (by omega),qS (by omega),qS (by omega),jR (by simp;omega)];simp
   ·rw[qS (by omega),qS (by omega),jR (by simp;omega)];simp
   ·rw[qS (by omega),jR (by simp;omega)];simp
   ·rw[jR (by simp;omega)];simp
  ·rw[jP (by rw[qQ];omega),jP (by simp;omega)]
variable {w:World}{B n g k:Nat}{v:Value}{L:List (Ox × Value)}
theorem lR{base:Nat}{t:TypeId}{z:Nat}{xs:List Value}(h:w.ownsRow base t z v n xs)(hB:B<=base):w.ownsRow B t z v n xs:=by
 refine⟨h.1, ?_⟩;rcases h.2 with h0 | ⟨g,cap,cur,h1,h2,h3⟩
 ·exact qH h0
 ·exact qF ⟨g,cap,cur,h1,qO hB h2,h3⟩
def lY (w:World) (g n:Nat) (L:List (Ox × Value)):Prop:=∃cur:Array Value,w.heap[g]? =some (.cells cur 97 (0,0))∧cur.size=n*6∧cur.toList.take (L.length*6)=flatO L
theorem lY.below{w':World}(h:lY w g n L)(hb:zB w w'):lY w' g n L:=by
 obtain⟨a,b,c⟩:=h;exact⟨a,aK hb b,c⟩
def w6s (w:World) (g m:Nat) (x:Ox) (v:Value):World:=(((((w.setCell ⟨g,m,none⟩ (.int .i64 x.1.1)).setCell ⟨g,m+1,none⟩ (.int .i64 x.1.2)).setCell ⟨g,m+2,none⟩ (.int .i64 x.2.1)).setCell ⟨g,m+3,none⟩ (.string x.2.2.1)).setCell ⟨g,m+4,none⟩ (.int .i64 x.2.2.2.1)).setCell ⟨g,m+5,none⟩ v
theorem lY.put{x:Ox}(h:lY w g n L)(hk:L.length<n):lY (w6s w g (L.length*6) x v) g n (L++[(x,v)]):=by
 obtain⟨a,c,b,d⟩:=h;refine⟨_,set_heap (set_heap (set_heap (set_heap (set_heap (set_heap c))))),by simp[b], ?_⟩;rw[qE,eH,<-d];have e:flatO [(x,v)]=[zI x.1.1,zI x.1.2,zI x.2.1,.string x.2.2.1,zI x.2.2.2.1,v]:=rfl;rw[e,show(L.length+[(x,v)].length)*6=L.length*6+6 by simp;omega];rw[<-aJp a.toList (L.length*6) _ _ _ _ _ _ (by have i:a.toList.length=n*6:=(by simpa using b);omega)];simp only[Array.toList_setIfInBounds]
theorem lY.eA(h:lY w g n L)(hk:k<n):∀i,i<6->(∃u,w.cell? ⟨g,k*6+i,none⟩=some u)/\w.frozen? ⟨g,k*6+i,none⟩=false:=by
 obtain⟨a,b,d,_⟩:=h;intro i hi;have c:k*6+i<a.size:=by rw[d];omega
 exact⟨⟨a[k*6+i],aB b (yT c)⟩,aF b⟩
theorem lY.at{w:World}{g n:Nat}{L:List (Ox × Value)}(h:lY w g n L){j:Nat}{y:Ox × Value}(hj:L[j]? =some y):∀i u,(six y.1 y.2)[i]? =some u->w.cell? ⟨g,j*6+i,none⟩=some u:=by
 obtain⟨e,c,f,d⟩:=h;intro i u hu;have b:=oC hj i u hu;have a:=(jK.1 b).1;rw[fL] at a;rw[<-d,jC a] at b;exact aB c (by simpa using b)
theorem pF(w:World)(g m:Nat)(x:Ox)(v:Value)(k:Nat)(h:k≠g):(w6s w g m x v).heap[k]? =w.heap[k]? :=by
 unfold w6s;rw[set_block _ _ _ _ h,set_block _ _ _ _ h,set_block _ _ _ _ h,set_block _ _ _ _ h,set_block _ _ _ _ h,set_block _ _ _ _ h]
theorem aEX{w0:World}{m:Nat}(hb:Below B w0 w)(hg:B<=g)(x:Ox)(v:Value):Below B w0 (w6s w g m x v):=
 (((((hb.setCell (p:=⟨g,m,none⟩) hg _).setCell (p:=⟨g,m+1,none⟩) hg _).setCell (p:=⟨g,m+2,none⟩) hg _).setCell (p:=⟨g,m+3,none⟩) hg _).setCell (p:=⟨g,m+4,none⟩) hg _).setCell (p:=⟨g,m+5,none⟩) hg _
def OpsNew (B:Nat) (w:World) (v:Value) (l:List Ox):Prop:=∃g L,v=.slice (some ⟨g,0,none⟩) l.length l.length∧B≤g∧L.map (·.1)=l∧lY w g l.length L∧l.length≤1048576∧∀y ∈ L,w.ownsRow B 80 2 y.2 y.1.2.2.2.2.length (flatD y.1.2.2.2.2)
theorem OpsNew.at{B:Nat}{w:World}{v:Value}{l:List Ox}(h:OpsNew B w v l):OpsAt w v l:=by
 obtain⟨g,L,i,q,c,k,r,m⟩:=h;have n:L.length=l.length:=by rw[<-c,jM]
 refine⟨some (zA g),l.length,i,qF ⟨g,0,rfl,fun j hj=> ?_⟩,qC _, ?_,fun e=>by cases e⟩
 ·have b:j<L.length:=by omega
  have d:=qB b;have o:l.getD j oz=L[j].1:=by rw[<-c,qA,qT,d];rfl
  rw[o];have a:=k.at d;refine⟨L[j].2,⟨?_, ?_, ?_, ?_, ?_, ?_⟩,gO (m _ (jF b))⟩
  ·have:=a 0 _ rfl;rwa [show j*6+0=0+j*6 by omega] at this
  ·have:=a 1 _ rfl;rwa [show j*6+1=0+j*6+1 by omega] at this
  ·have:=a 2 _ rfl;rwa [show j*6+2=0+j*6+2 by omega] at this
  ·have:=a 3 _ rfl;rwa [show j*6+3=0+j*6+3 by omega] at this
  ·have:=a 4 _ rfl;rwa [show j*6+4=0+j*6+4 by omega] at this
  ·have:=a 5 _ rfl;rwa [show j*6+5=0+j*6+5 by omega] at this
 ·unfold maxLen;omega
theorem eB{l:List Ox}(hk:k<l.length):l.take (k+1)=l.take k++[l.getD k oz]:=by
 rw[jV,qB hk,qA,qB hk];rfl
structure OpsSt (w:World) (n:Nat) (l:List Ox) (g k:Nat) (wr:World) (L:List (Ox × Value)):Prop where
 bl:Below w.heap.size w wr
 row:lY wr g n L
 ls:L.map (·.1)=l.take k
 own:∀y ∈ L,wr.ownsRow w.heap.size 80 2 y.2 y.1.2.2.2.2.length (flatD y.1.2.2.2.2)
theorem OpsSt.below{w:World}{n:Nat}{l:List Ox}{g k:Nat}{wr w':World}{L:List (Ox × Value)}(h:OpsSt w n l g k wr L)(hb:zB wr w'):OpsSt w n l g k w' L:=
 ⟨bel h.bl hb,h.row.below hb,h.ls,fun y hy=>own_below (h.own y hy) hb⟩
theorem OpsSt.put{w:World}{n:Nat}{l:List Ox}{g k:Nat}{wr:World}{L:List (Ox × Value)}{x:Ox}{v:Value}(h:OpsSt w n l g k wr L)(hg:w.heap.size<=g)(hn:l.length=n)(hk:k<n)(hx:x=l.getD k oz)(hv:wr.ownsRow w.heap.size 80 2 v x.2.2.2.2.length (flatD x.2.2.2.2)):
  OpsSt w n l g (k+1) (w6s wr g (k*6) x v) (L++[(x,v)]):=by
 have d:L.length=k:=by have:=congrArg List.length h.ls;rw[jM,qQ] at this;omega
 have f:=h.row.put (x:=x) (v:=v) (by omega);rw[d] at f
 have c:∀(u:Value) (m:Nat) (xs:List Value),wr.ownsRow w.heap.size 80 2 u m xs->∀q,u.ownBlock=some q->q≠g:=fun u m xs ho q hq e=>by
  obtain⟨_,o,b⟩:=aL ho q hq;obtain⟨i,j,_⟩:=h.row;rw[e,j] at b;injection b with b
  injection b with _ b _
  exact absurd b (by decide)
 refine⟨aEX h.bl hg x v,f,by rw[xL,h.ls,eB (by omega),<-hx];rfl,fun y hy=> ?_⟩;rcases jB.1 hy with hy | hy
 ·exact aP (h.own y hy) fun q hq=>pF _ _ _ _ _ _ (c _ _ _ (h.own y hy) q hq)
 ·rw[qP.1 hy];exact aP hv fun q hq=>pF _ _ _ _ _ _ (c _ _ _ hv q hq)
theorem aDb(D:Nat)(S:Dq)(F:Nat->Prop)(w:World)(h:DocAt w D S F):
  Calls prog 18 #[.pointer (some ⟨D,0,none⟩)] w fun e w'=>∃v',e=.returned v'/\OpsNew w.heap.size w' v' S.ops/\zB w w':=by
 obtain⟨m,G,rfl,r,hF⟩:=h;have V:=r.inv.few;have af:=r.mem.ops.at;have Q:∀x ∈ S.ops,x.2.2.2.2.length<=40:=fun x s=>(bB.1 (aO.1 (r.inv.right x s)).2.2.2).2.2.2.1
 obtain⟨i0,hi,ah,ai,aj⟩:=info_parts Ii.jI;obtain⟨q,c,R,T,_⟩:=af
 have t:Hid (∀W,zB w W->W.cell? ⟨m.D,3,none⟩=some (.slice q S.ops.length c)):=fun W hb=>by
  rw[<-R];exact aB (r.mem.below hb).blk rfl
 have ak:Hid (∀W,zB w W->OpsIn W q S.ops):=fun W hb=>T.below hb
 have al:=z9 Q;obtain⟨D,X⟩:=zx m.D;obtain⟨n,Y⟩:=zx S.ops.length;rw[<-Y,<-X] at t;rw[<-X];have p:=z9 Y.symm;have bs:n<=400:=by omega
 have bt:(n:Int)<=400:=by omega
 have d3:=t.out w (qD _ _);clear r hF V R T Q X Y;go_in;go_wp2_with (at_make;refine wpList_make_full _ rfl (.tmp 10) (.tmp 10) 50 rfl w.heap.size 97 i0 (.agg #[zI 0,zI 0,zI 0,.string ⟨#[]⟩,zI 0,zS]) 6 Tryz.underlying50 hi ah ai .i64 .i64 (n:Int) (n:Int) n rfl rfl rfl rfl (by rw[aj];omega) (by unfold maxLen;omega) (qC _) ?_;intro w1 hown hgrow;have v:Hid (zB w w1):=⟨hgrow.os,hgrow.tape,hgrow.output,hgrow.size,fun k hk=>hgrow.block k hk (by intro e;cases e)⟩;have z:Hid (OpsSt w n S.ops w.heap.size 0 w1 []):=⟨v.out,(by obtain⟨_,e | ⟨g9,bf,Z,e,_,an,_,_,aa,_⟩⟩:=hown;(exact absurd e.1 (by intro e9;cases e9));(injection e with l e2 e3;injection l with l;injection l with l;exact⟨Z,(by rw[l];exact an),(by rw[aa,<-e3]),rfl⟩)),rfl,fun y hy=>(by cases hy)⟩;have ap:=t.out w1 v.out;clear hown hgrow);go_loopw [17] (fun vi wr=>∃(k:Nat) (L:List (Ox × Value)),k<=n/\vi=zI k/\Hid (OpsSt w n S.ops w.heap.size k wr L)) (fun vi _=>n-(intOf vi).toNat)
 case atStart=>exact⟨0,[],by omega,rfl,z⟩
 case round=>
  clear z v ap d3;obtain⟨k,L,hk,rfl,f⟩:=hrel;by_cases d:k<n
  ·have ad:(k:Int)<n:=by omega
   have g:k<S.ops.length:=by rw[p.out];exact d
   obtain⟨bo,oo,rfl,hc⟩:=(ak.out wr f.out.bl).some (by intro e;rw[e] at g;simp at g);have ha:=hc k g;have A:=al.out _ (cP g);obtain⟨x,s⟩:=zx (S.ops.getD k oz);rw[<-s] at ha A;have HX:=z9 s;obtain⟨⟨B,E⟩,H,I,J,xs⟩:=x;obtain⟨vx,⟨a0,a1,a2,a3,a4,a5⟩,o⟩:=ha;simp only at a0 a1 a2 a3 a4 a5 o A;obtain⟨K,M,N,rfl⟩:∃K M N,vx=.slice K M N:=by obtain⟨_,_,e9,_⟩:=o;exact⟨_,_,_,e9⟩
   have O:Hid (zB wr (wr.alloc (.cells #[zI B,zI E,zI H,.string I,zI J,.slice K M N] 97))):=(qD _ _).alloc (qC _) _;have C:=tL B E H I J (.slice K M N) xs _ (o.below O.out) (by omega);obtain⟨e0,l,e2,e3,e4,e5⟩:=aT wr B E H I J (.slice K M N) 97;clear hc s g o A;go_wp2_with fail;refine C.mono ?_;rintro e w2 ⟨v2,rfl,P,U⟩;obtain⟨p2,n2,c2,rfl,_⟩:=aG P;have a8:=z9 (bel O.out U);have a:=z9 (f.out.below a8.out);have a9:=z9 (lR P (qO f.out.bl.size O.out.size));obtain⟨⟨y0,z0⟩,g0⟩:=a.out.row.eA d 0 (by omega);obtain⟨⟨y1,z1⟩,g1⟩:=a.out.row.eA d 1 (by omega);obtain⟨⟨y2,z2⟩,g2⟩:=a.out.row.eA d 2 (by omega);obtain⟨⟨y3,z3⟩,g3⟩:=a.out.row.eA d 3 (by omega);obtain⟨⟨y4,z4⟩,g4⟩:=a.out.row.eA d 4 (by omega);obtain⟨⟨y5,z5⟩,g5⟩:=a.out.row.eA d 5 (by omega);rw[vL] at z0 g0;have HP:Hid (OpsSt w n S.ops w.heap.size (k+1) (w6s w2 w.heap.size (k*6) ((B,E),H,I,J,xs) (.slice p2 n2 c2)) (L++[(((B,E),H,I,J,xs),.slice p2 n2 c2)])):=a.out.put (qC _) p.out d HX.out a9.out;clear C P U a0 a1 a2 a3 a4 a5 e0 l e2 e3 e4 e5;go_wp2_with fail;go_roundw
   case rel=>exact⟨k+1,_,by omega,by go_num,HP⟩
   case measure=>simp[intOf];omega
  ·obtain rfl:n=k:=by omega
   have ad:¬(n:Int)<n:=by omega
   go_wp2_with fail;go_ret;refine⟨_,rfl,⟨w.heap.size,L,by rw[p.out];rfl,qC _, ?_,by rw[p.out];exact f.out.row,by rw[p.out];omega,f.out.own⟩,f.out.bl⟩;rw[f.out.ls,<-p.out,yJ]
end Im
end Go.Proofs.YtjcemlmlfoilmaaGreatDoor
