import Derived.Test.YtjcemlmlfoilmaaGreatDoorN1
set_option linter.unusedSimpArgs false
set_option linter.unusedVariables false
set_option maxRecDepth 100000
set_option maxHeartbeats 8000000
namespace Go.Proofs.YtjcemlmlfoilmaaGreatDoor
open Go.RowKit Cm Ka Oz Oi Ia Ic Aa Hc Hd Hl Hp
open Go.Proofs.Tryz (prog)
namespace Hx
open Ho Hs
open La (bel aD aH own_below)
variable (X n:Nat)(vd vu:Value)(N:Nt)(c:Nat)(a:Int)(E:Nat->Nat)(b:Int)(p:Option Addr)(F:Nat->Prop)(Fd:Nat->Nat->Prop)(i:Nat)(q:Pc)(w:World)
theorem aGM(cn:Nat)(tu:Int)(s:ByteArray)(p:Option Addr)(w:World)(c1:∀W,zB w W->W.cell? ⟨X,1,none⟩=some (.slice p n cn))(hn:100<=n)(hn2:n<=1000):
  Calls prog 54 #[ptr X,.agg #[.int .i64 tu,.string s]] w fun r w'=>r=.returned (.iface 59 (.int .i64 4))/\zB w w':=by
 have a:zB w (w.alloc (.cells #[zI tu,.string s] 118)):=(qD _ _).alloc (qC _) _;have c:=c1 _ a;have d:(100:Int)<=(n:Int):=by omega
 have b:=Hid.mk' a;clear a c1;go_in;go_wp2_with fail;go_ret;exact⟨rfl,b.out⟩
theorem aCs{v v':Value}{w W:World}(hat:v'.ownBlock=v.ownBlock\/v'.ownBlock=some W.heap.size)(hz:w.heap.size<=W.heap.size):∀k,v'.ownBlock=some k->v.ownBlock=some k\/w.heap.size<=k:=by
 intro k hk;rcases hat with e | e
 ·left;rw[<-e];exact hk
 ·right;rw[hk] at e;injection e with e;rw[e];exact hz
theorem aFS(m:NAt w X vd vu N E Fd)(hn:N.us.length<100)(hq:q.2.size<=maxLen):
  Calls prog 54 #[ptr X,.agg #[.int .i64 q.1,.string q.2]] w fun r w'=>r=.returned .nilIface/\∃vu',NAt w' X vd vu' { N with us:=N.us++[q] } E Fd/\Chg (Fs X vd vu N.ds.length Fd) w w'/\∀g,Fs X vd vu' N.ds.length Fd g->Fs X vd vu N.ds.length Fd g\/w.heap.size<=g:=by
 obtain⟨p,c,rfl,_⟩:=m.fJ;obtain⟨n,hn'⟩:=zx N.us.length;have F:=Hid.mk' hn';have G:=Hid.mk' m;have H:=Hid.mk' hq;have h:zB w (w.alloc (.cells #[zI q.1,.string q.2] 118)):=(qD _ _).alloc (qC _) _;have j:=heap_alloc_new w (.cells #[zI q.1,.string q.2] 118);have t:=m.below h;rw[<-hn'] at t hn;have S:¬(100:Int)<=(n:Int):=by omega
 clear m hq;rw[<-hn'];clear hn';go_in;go_upto_region 1 with fail
 generalize w.alloc (.cells #[zI q.1,.string q.2] 118)=w0 at h j t |-;have v:=Hid.mk' h;have T:=aB j (i:=0) (u:=zI q.1) rfl;have U:=aB j (i:=1) (u:=.string q.2) rfl;have V:=aB t.blk (i:=1) (u:=.slice p n c) rfl;have a:=Hid.mk' t;have b:Hid (∀O,zB w0 (w0.alloc O).drew):=fun O=>((qD _ w0).alloc (qC _) O).drew
 have A:Hid (∀O,RowP (w0.alloc O).drew (.slice p n c) N.us):=fun O=>own_below a.out.ru (b.out O)
 have y:Hid (∀O,NtB (w0.alloc O).drew X vd (.slice p n c)):=fun O=>(a.out.below (b.out O)).blk
 have I:=fun O=>aB (y.out O) (i:=1) (u:=.slice p n c) rfl
 have Y:∀O,(w0.alloc O).cell? ⟨X,1,none⟩=some (.slice p n c):=I;have z:Hid (∀g,(Value.slice p n c).ownBlock=some g->g=X->False):=fun g hg e=>a.out.uX g hg e
 clear h j t;go_wp2_with fail
 go_region_law (
  (refine lQ (by rfl) (.tmp 16) (.tmp 18) (by rfl) (.slice p n c) n N.us q (by rfl) w0.heap.size (by rfl) F.out.symm (by omega) (A.out _) (heap_alloc_new w0 _) ?_;intro v9 w9 hr9 hg9 hl9;obtain⟨J,K,L,rfl,_⟩:=aG hr9;have f:NtB w9 X vd (.slice p n c):=(hg9.block X (a.out.below (b.out _)).oM (fun e=>z.out X e.symm rfl)).trans (y.out _);have Z:=aB f (i:=1) (u:=.slice p n c) rfl;have R:=aF f (i:=1);have B:=Hid.mk' hr9;have C:Hid (Chg (fun g=>(Value.slice p n c).ownBlock=some g) w0 w9):=(Chg.ofBelow (b.out _) _).trans (Chg.grown hg9 (fun g e=>e));have D:Hid (∀k,(Value.slice J K L).ownBlock=some k->(Value.slice p n c).ownBlock=some k\/w0.heap.size<=k):=aCs hl9 (b.out _).size;clear hr9 hg9 hl9 f))
 all_goals
  go_wp2_with fail;go_ret;obtain⟨M,P,Q⟩:=a.out.sC C.out B.out D.out (fun x hx=>by rcases jB.1 hx with e | e;exact G.out.sz x e;rw[qP.1 e];exact H.out);exact⟨rfl,_,M,(Chg.ofBelow v.out _).trans P,fun g hg=>(Q g hg).imp id fun e=>qO v.out.size e⟩
theorem add_any(F:Nat->Prop)(q:Pc)(w:World)(m:NAt w X vd vu N E Fd)(hF:∀g,F g↔Fs X vd vu N.ds.length Fd g)(hn:N.us.length<=100)(hq:q.2.size<=maxLen):
  Calls prog 54 #[ptr X,.agg #[.int .i64 q.1,.string q.2]] w fun r w'=>r=.returned (errV (if 100<=N.us.length then 4 else 0))/\Left' w X F (if 100<=N.us.length then N else{ N with us:=N.us++[q] }) w':=by
 by_cases h:100<=N.us.length
 ·rw[if_pos h,if_pos h,aH (by decide)];obtain⟨p,c,e,_⟩:=m.fJ;have a:=m.blk;rw[e] at a;refine(aGM X _ c q.1 q.2 p w (fun W hb9=>aA hb9 (aB a (i:=1) rfl)) h (by omega)).mono ?_;rintro r w' ⟨rfl,a⟩;exact⟨rfl,bS ⟨vd,vu,E,Fd,m,hF⟩ a⟩
 ·rw[if_neg h,if_neg h,aD];refine(aFS X vd vu N E Fd q w m (by omega) hq).mono ?_;rintro r w' ⟨rfl,vu',d,f,j⟩;exact⟨rfl,dM hF d f j⟩
theorem aHL(c0:w.cell? ⟨X,0,none⟩=some (.slice p n c))(hn:n<=4)(h:out n a\/out n b):
  Calls prog 27 #[ptr X,.int .i64 a,.int .i64 b] w fun r w'=>r=.returned (.iface 59 (.int .i64 1))/\w'=w:=by
 by_cases d:out n a
 ·have C:=zH X n c a p w c0 hn d;clear d h;go_in;go_wp2_with fail;refine C.mono ?_;rintro e w' ⟨rfl,rfl⟩;go_wp2_with fail;go_ret;exact⟨rfl,rfl⟩
 ·obtain⟨i,rfl⟩:∃i:Nat,a=i:=⟨a.toNat,by unfold out at d;omega⟩;have C:=lD X n i c p w c0 hn (by unfold out at d;omega);have j:=zH X n c b p w c0 hn (by rcases h with h | h;exact absurd h d;exact h);clear d h;go_in;go_wp2_with fail;refine C.mono ?_;rintro e w' ⟨rfl,rfl⟩;go_wp2_with fail;refine j.mono ?_;rintro e w' ⟨rfl,rfl⟩;go_wp2_with fail;go_ret;exact⟨rfl,rfl⟩
theorem aEh(p:Option Addr)(w:World)(c0:w.cell? ⟨X,0,none⟩=some (.slice p n c))(hn:n<=4)(h:i<n):
  Calls prog 27 #[ptr X,.int .i64 i,.int .i64 i] w fun r w'=>r=.returned (.iface 59 (.int .i64 3))/\w'=w:=by
 have C:=lD X n i c p w c0 hn h;go_in;go_wp2_with fail;refine C.mono ?_;rintro e w' ⟨rfl,rfl⟩;go_wp2_with fail;refine C.mono ?_;rintro e w' ⟨rfl,rfl⟩;go_wp2_with fail;go_ret;exact⟨rfl,rfl⟩
theorem aG9(F:Nat->Prop)(i j:Nat)(w:World)(m:NAt w X vd vu N E Fd)(hF:∀g,F g↔Fs X vd vu N.ds.length Fd g)(hu:N.us.length<=100)(hi:i<N.ds.length)(hj:j<N.ds.length)(hij:i≠j):
  Calls prog 27 #[ptr X,.int .i64 i,.int .i64 j] w fun r w'=>r=.returned (errV (if 100<=N.us.length then 4 else 0))/\Left' w X F (if 100<=N.us.length then N else{ N with us:=N.us++[(j,packT (lackL (dq N i).ops (dq N j).known))] }) w':=by
 obtain⟨p,c,rfl,_,_,K⟩:=m.fC
 obtain⟨g,rfl,D⟩:=K (by omega)
 obtain⟨n,L⟩:=zx N.ds.length
 have z:n<=4:=by have:=m.few;omega
 have h:=m.docs.at' i hi
 have k:=m.docs.at' j hj
 have l:=z9 h.inv
 have o:=z9 k.inv
 have G:w.cell? (zA X)=some (.slice (some (zA g)) n c):=by rw[L];exact aB m.blk (i:=0) rfl
 have V:w.cell? ⟨g,i,none⟩=some (ptr (E i)):=D i hi
 have Y:w.cell? ⟨g,j,none⟩=some (ptr (E j)):=D j hj
 have M:=lD X n i c _ w G z (by omega)
 have O:=lD X n j c _ w G z (by omega)
 have Z:Hid (∀W,zB w W->Calls prog 53 #[ptr (E j)] W fun e w'=>∃v',e=.returned v'/\KnAt w' v' (dq N j).known/\zB W w'):=fun W hb=>(Il.wA (E j) _ _ W (DocAt.below k hb)).mono fun e w' ⟨v',h1,h2,_,h3⟩=>⟨v',h1,h2,h3⟩
 obtain⟨T,y⟩:=zx (packT (lackL (dq N i).ops (dq N j).known))
 have CP:Hid (∀W v,zB w W->KnAt W v (dq N j).known->Calls prog 52 #[ptr (E i),v] W fun e w'=>e=.returned (.tuple #[.string T,.nilIface])/\zB W w'):=fun W v hb hk=>(Ag.aCF (E i) _ _ v _ W (DocAt.below h hb) hk).mono fun e w' ⟨h1,h2⟩=>⟨by rw[h1,y,aE1 l.out o.out,Ii.zF o.out,aD],h2⟩
 have A:T.size<=maxLen:=by rw[y];exact wQ (Ag.lO l.out _)
 have H:Hid (∀W,zB w W->Calls prog 54 #[ptr X,.agg #[zI j,.string T]] W fun r w'=>r=.returned (errV (if 100<=N.us.length then 4 else 0))/\Left' w X F (if 100<=N.us.length then N else{ N with us:=N.us++[(j,T)] }) w'):=fun W hb=>(add_any X _ vu N E Fd F (j,T) W (m.below hb) hF hu A).mono fun e w' ⟨h1,h2⟩=>⟨h1,Left'.first hb h2⟩
 rw[<-y]
 have ae:(0:Int)<=(i:Int):=by omega
 have af:(0:Int)<=(j:Int):=by omega
 have ag:(i:Int)<(n:Int):=by omega
 have ah:(j:Int)<(n:Int):=by omega
 have ab:((i:Int)==(j:Int))=false:=by simp;omega
 have P:=Hid.mk' (qD w.heap.size w)
 have HM:=Hid.mk' m
 clear y A h k D K m hF L hij hi hj l o
 generalize errV (if 100<=N.us.length then 4 else 0)=ev at H |-
 generalize (if 100<=N.us.length then N else{ N with us:=N.us++[(j,T)] }:Nt)=NN at H |-
 go_in
 go_wp2_with fail
 refine M.mono ?_
 rintro e w' ⟨rfl,I⟩
 subst I
 go_wp2_with fail
 refine O.mono ?_
 rintro e w1 ⟨rfl,I⟩
 subst I
 clear M O
 go_wp2_with fail
 go_region_held3 (fun W=>W.cell? (zA X)=some (.slice (some (zA g)) n c)/\W.cell? ⟨g,i,none⟩=some (ptr (E i))/\W.cell? ⟨g,j,none⟩=some (ptr (E j))) (first | (go_keep;done) | (refine⟨?_, ?_, ?_⟩<;>(first | assumption | (go_split_ands;assumption))) | (refine⟨aA b ?_,aA b ?_,aA b ?_⟩<;>(first | assumption | (go_split_ands;assumption))) | (refine⟨aA d ?_,aA d ?_,aA d ?_⟩<;>(first | assumption | (go_split_ands;assumption)))) (first
  | (go_at_call 53;refine(Z.out _ P.out.drew).mono ?_;rintro e w6 ⟨v6,rfl,q,d⟩;obtain⟨p6,n6,c6,rfl⟩:∃p n c,v6=.slice p n c:=(by obtain⟨p,c,e,_⟩:=q;exact⟨_,_,_,e⟩);have s:=z9 (bel P.out.drew d);have B:=Hid.mk' q;clear q)
  | (go_at_call 52;refine(CP.out _ _ s.out B.out).mono ?_;rintro e w7 ⟨rfl,b⟩;have Q:=z9 (bel s.out b)))
 all_goals
  clear d b B s G V Y
  have R:=H.out w7 Q.out
  go_wp2_with fail
  refine R.mono ?_
  rintro e w8 ⟨rfl,S⟩
  have H8:=Hid.mk' S
  clear S R
  go_wp2_with fail
  go_ret
  exact⟨rfl,H8.out⟩
theorem aGP(a b c:Int)(w:World)(h:At w X N F)(hu:N.us.length<=100):Calls prog 27 #[ptr X,.int .i64 a,.int .i64 b] w fun r w'=>r=.returned (errV (evE N (3,a,b,c)))/\Left' w X F (evS N (3,a,b,c)) w':=by
 have q:=h;obtain⟨s,A,E,B,m,C⟩:=h;obtain⟨p,n,G,_,_,J⟩:=m.fC
 have v:w.cell? (zA X)=some (.slice p N.ds.length n):=by
  have:=aB m.blk (i:=0) (u:=s) rfl;rw[G] at this;exact this
 have e:isEd 3≠true:=by decide
 by_cases d:out N.ds.length a\/out N.ds.length b
 ·have f:evE N (3,a,b,c)=1:=by unfold evE;dsimp only;rw[if_neg e,if_pos rfl,if_pos d]
  have g:evS N (3,a,b,c)=N:=by unfold evS;dsimp only;rw[if_neg e,if_pos rfl,if_pos d]
  rw[f,g,aH (by decide)];refine(aHL X _ n a b p w v m.few d).mono ?_;rintro r w' ⟨rfl,rfl⟩;exact⟨rfl,bS q (qD _ _)⟩
 ·obtain⟨i,rfl⟩:∃i:Nat,a=i:=⟨a.toNat,by unfold out at d;omega⟩;obtain⟨j,rfl⟩:∃j:Nat,b=j:=⟨b.toNat,by unfold out at d;omega⟩;have y:i<N.ds.length:=by unfold out at d;omega
  have H:j<N.ds.length:=by unfold out at d;omega
  by_cases l:i=j
  ·subst l;have f:evE N (3,i,i,c)=3:=by unfold evE;dsimp only;rw[if_neg e,if_pos rfl,if_neg d,if_pos rfl]
   have g:evS N (3,i,i,c)=N:=by unfold evS;dsimp only;rw[if_neg e,if_pos rfl,if_neg d,if_pos rfl]
   rw[f,g,aH (by decide)];refine(aEh X _ n i p w v m.few y).mono ?_;rintro r w' ⟨rfl,rfl⟩;exact⟨rfl,bS q (qD _ _)⟩
  ·have z:¬(i:Int)=(j:Int):=by omega
   have f:evE N (3,i,j,c)=if 100<=N.us.length then 4 else 0:=by unfold evE;dsimp only;rw[if_neg e,if_pos rfl,if_neg d,if_neg z]
   have g:evS N (3,i,j,c)=if 100<=N.us.length then N else{ N with us:=N.us++[(j,packT (lackL (dq N i).ops (dq N j).known))] }:=by unfold evS;dsimp only;rw[if_neg e,if_pos rfl,if_neg d,if_neg z];rfl
   rw[f,g];exact aG9 X s A N E B F i j w m C hu y H l
end Hx
namespace Hw
open Om Hm Um Hi Hx
open La (aD aH)
variable (X:Nat)(vd vu:Value)(N:Nt)(E:Nat->Nat)(Fd:Nat->Nat->Prop)(F:Nat->Prop)(w:World)(i:Nat)
theorem aIi(n c:Nat)(t a:Int)(p:Option Addr)(w:World)(c1:w.cell? ⟨X,1,none⟩=some (.slice p n c))(hn:n<=1000)(h:out n a):
  Calls prog 28 #[ptr X,.int .i64 t,.int .i64 a] w fun r w'=>r=.returned (.iface 59 (.int .i64 1))/\w'=w:=by
 by_cases b:a<0
 ·clear h;go_in;go_wp2_with fail;go_ret;exact⟨rfl,rfl⟩
 ·have d:(n:Int)<=a:=by unfold out at h;omega
  clear h;go_in;go_wp2_with fail;go_ret;exact⟨rfl,rfl⟩
theorem zT(q:Pc):∀W,W=w.alloc (.cells #[.int .i64 q.1,.string q.2] 118)->zB w W/\W.heap[w.heap.size]? =some (.cells #[.int .i64 q.1,.string q.2] 118):=by
 rintro W rfl;exact⟨zb w _,heap_alloc_new w _⟩
theorem aDw{l:List Pc}(h:∀p ∈ l,p.2.size<=maxLen)(i:Nat):(l.getD i pz).2.size<=maxLen:=by
 rw[qA]
 cases hk:l[i]? with
 | none=>show(0:Nat)<=_;omega
 | some p=>exact h p (List.mem_of_getElem? hk)
theorem aCT(w:World)(m:NAt w X vd vu N E Fd)(hF:∀g,F g↔Fs X vd vu N.ds.length Fd g)(hu:N.us.length<=100)(hi:i<N.us.length):
  Calls prog 28 #[ptr X,.int .i64 6,.int .i64 i] w fun r w'=>r=.returned (errV (if 100<=N.us.length then 4 else 0))/\Left' w X F (if 100<=N.us.length then N else{ N with us:=N.us++[N.us.getD i pz] }) w':=by
 obtain⟨p,c,j,_,_,k⟩:=m.fJ;obtain⟨g,rfl,h⟩:=k (by omega)
 have l:w.cell? ⟨X,1,none⟩=some (.slice (some (zA g)) N.us.length c):=by
  have:=aB m.blk (i:=1) (u:=vu) rfl;rw[j] at this;exact this
 have o:=aDw m.sz i;have d:Hid (∀W,zB w W->Calls prog 54 #[ptr X,.agg #[zI (N.us.getD i pz).1,.string (N.us.getD i pz).2]] W fun r w'=>r=.returned (errV (if 100<=N.us.length then 4 else 0))/\Left' w X F (if 100<=N.us.length then N else{ N with us:=N.us++[N.us.getD i pz] }) w'):=fun W hb=>(add_any X _ vu N E Fd F (N.us.getD i pz) W (m.below hb) hF hu o).mono fun e w' ⟨h1,h2⟩=>⟨h1,Left'.first hb h2⟩
 have s:w.cell? ⟨g,i*2,none⟩=some (zI (N.us.getD i pz).1):=(h i hi).1;have t:w.cell? ⟨g,i*2+1,none⟩=some (.string (N.us.getD i pz).2):=(h i hi).2;generalize errV (if 100<=N.us.length then 4 else 0)=ev at d |-;generalize (if 100<=N.us.length then N else{ N with us:=N.us++[N.us.getD i pz] }:Nt)=NN at d |-;generalize N.us.getD i pz=q at d s t;obtain⟨n,v⟩:=zx N.us.length;rw[<-v] at l hi hu;have H:¬(i:Int)<0:=by omega
 have A:(0:Int)<=(i:Int):=by omega
 have I:¬(n:Int)<=(i:Int):=by omega
 have B:(i:Int)<(n:Int):=by omega
 clear v o h k m hF j hi;go_in;go_upto_region 4 with fail
 generalize f:World.alloc _ _=w0;obtain⟨a,b⟩:=zT w q w0 f.symm;have J:=Hid.mk' a;have O:=aB b (i:=0) (u:=zI q.1) rfl;have P:=aB b (i:=1) (u:=.string q.2) rfl;have C:=d.out w0 a;clear f a b l s t;go_wp2_with fail;refine C.mono ?_;rintro e w8 ⟨rfl,y⟩;have D:=Hid.mk' y;clear y C;go_wp2_with fail;go_ret;exact⟨rfl,D.out⟩
theorem oF{F:Nat->Prop}{w w':World}(h:Chg F w w'){b o:Nat}(hl:b<w.heap.size)(hF:¬F b):w'.cell? ⟨b,o,none⟩=w.cell? ⟨b,o,none⟩:=by
 unfold World.cell?;show(match w'.heap[b]? with | _=>_)=_
 rw[h.block b hl hF]
theorem erased{X:Nat}{vd vu:Value}{N:Nt}{E:Nat->Nat}{Fd:Nat->Nat->Prop}{w W W1:World}{v':Value}{i:Nat}(m:NAt w X vd vu N E Fd)(hb:zB w W)(hr:RowP W1 v' (N.us.eraseIdx i))(hc:Chg (fun x=>vu.ownBlock=some x) W W1)(hv:v'.ownBlock=vu.ownBlock):
  NAt (W1.setCell ⟨X,1,none⟩ v') X vd v' { N with us:=N.us.eraseIdx i } E Fd/\Chg (Fs X vd vu N.ds.length Fd) w (W1.setCell ⟨X,1,none⟩ v')/\∀g,Fs X vd v' N.ds.length Fd g->Fs X vd vu N.ds.length Fd g\/w.heap.size<=g:=by
 obtain⟨a,b,c⟩:=(m.below hb).sC hc hr (fun g hg=>qH (hv▸hg)) (fun p hp=>m.sz p (yZ hp));exact⟨a,(Chg.ofBelow hb _).trans b,fun g hg=>(c g hg).imp id fun e=>qO hb.size e⟩
theorem aEF(w:World)(m:NAt w X vd vu N E Fd)(hF:∀g,F g↔Fs X vd vu N.ds.length Fd g)(hu:N.us.length<=100)(hi:i<N.us.length):
  Calls prog 28 #[ptr X,.int .i64 5,.int .i64 i] w fun r w'=>r=.returned .nilIface/\Left' w X F { N with us:=N.us.eraseIdx i } w':=by
 obtain⟨p,c,rfl,_,_,z⟩:=m.fJ;obtain⟨g,rfl,t⟩:=z (by omega);have v:=aB m.blk (i:=1) (u:=.slice (some (zA g)) N.us.length c) rfl;have A:w.cell? ⟨g,i*2,none⟩=some (zI (N.us.getD i pz).1):=(t i hi).1;have B:w.cell? ⟨g,i*2+1,none⟩=some (.string (N.us.getD i pz).2):=(t i hi).2;generalize N.us.getD i pz=q at A B;obtain⟨n,f⟩:=zx N.us.length;have L:Hid (∀W,zB w W->Calls prog 55 #[.slice (some (zA g)) n c,zI i,zI ((i+1:Nat):Int)] W fun e w'=>e=.returned (.slice (some (zA g)) (n-1) c)/\RowP w' (.slice (some (zA g)) (n-1) c) (N.us.eraseIdx i)/\Chg (fun x=>(Value.slice (some (zA g)) n c).ownBlock=some x) W w'):=fun W hb=>by rw[f];exact aC1 g c _ i N.us W (m.below hb).ru rfl hi
 have D:=Hid.mk' m;have G:=Hid.mk' hF;have H:=Hid.mk' f;rw[<-f] at v hi hu;have P:¬(i:Int)<0:=by omega
 have M:(0:Int)<=(i:Int):=by omega
 have Q:¬(n:Int)<=(i:Int):=by omega
 have O:(i:Int)<(n:Int):=by omega
 have R:IntKind.i64.wrap ((i:Int)+1)=((i+1:Nat):Int):=by rw[bG (by omega) (by omega)];omega
 clear f t z m hF hi;go_in;go_upto_region 4 with fail
 generalize l:World.alloc _ _=w0;obtain⟨a,I⟩:=zT w q w0 l.symm;have o:=Hid.mk' a;have T:=aA a v;have C:=L.out w0 a;clear l a I v A B;go_wp2_with fail;refine C.mono ?_;rintro e w8 ⟨rfl,s,b⟩
 have d:NtB w8 X vd (.slice (some (zA g)) n c):=by
  have h:=D.out.below o.out;rw[<-H.out] at h;unfold NtB;rw[b.block X h.oM (fun e=>h.uX X e rfl)];exact h.blk
 have U:=aB d (i:=1) (u:=.slice (some (zA g)) n c) rfl;have V:=aF d (i:=1);have y:=z9 (erased D.out o.out s (by rw[<-H.out];exact b) rfl);clear d s b C;go_wp2_with fail;go_ret;exact⟨rfl,dM G.out y.out.1 y.out.2.1 y.out.2.2⟩
theorem aEf(w:World)(m:NAt w X vd vu N E Fd)(hF:∀g,F g↔Fs X vd vu N.ds.length Fd g)(hu:N.us.length<=100)(hi:i<N.us.length)(hto:(N.us.getD i pz).1<N.ds.length)(hok:Hid ((unpB (N.us.getD i pz).2.toList).isSome=true)):
  Calls prog 28 #[ptr X,.int .i64 4,.int .i64 i] w fun r w'=>r=.returned (errV (opnE (dq N (N.us.getD i pz).1) (N.us.getD i pz).2))/\Left' w X F ⟨N.ds.set (N.us.getD i pz).1 (runS (dq N (N.us.getD i pz).1) (opnL (N.us.getD i pz).2)),N.us.eraseIdx i⟩ w':=by
 obtain⟨p,c,rfl,_,_,hc⟩:=m.fJ
 obtain⟨g,rfl,v⟩:=hc (by omega)
 have K:=aDw m.sz i
 have x1:=aB m.blk (i:=1) (u:=.slice (some (zA g)) N.us.length c) rfl
 have xa:w.cell? ⟨g,i*2,none⟩=some (zI (N.us.getD i pz).1):=(v i hi).1
 have xb:w.cell? ⟨g,i*2+1,none⟩=some (.string (N.us.getD i pz).2):=(v i hi).2
 generalize N.us.getD i pz=q at xa xb hto K hok |-
 obtain⟨a,T⟩:=q
 dsimp only at hok
 simp only at xa xb hto K |-
 obtain⟨n,M⟩:=zx N.us.length
 have CD:Hid (∀W,zB w W->Calls prog 55 #[.slice (some (zA g)) n c,zI i,zI ((i+1:Nat):Int)] W fun e w'=>e=.returned (.slice (some (zA g)) (n-1) c)/\RowP w' (.slice (some (zA g)) (n-1) c) (N.us.eraseIdx i)/\Chg (fun x=>(Value.slice (some (zA g)) n c).ownBlock=some x) W w'):=fun W hb=>by rw[M];exact aC1 g c _ i N.us W (m.below hb).ru rfl hi
 obtain⟨pd,cd,R,_,_,S⟩:=m.fC
 obtain⟨y,rfl,am⟩:=S (by omega)
 obtain⟨O,U⟩:=zx N.ds.length
 have z:=Hid.mk' m
 have an:=Hid.mk' hF
 have HN:=Hid.mk' M
 have ao:=Hid.mk' U
 have A:=Hid.mk' R
 have d:=Hid.mk' hto
 have HQ:=Hid.mk' K
 have a2:O<=4:=by have:=m.few;omega
 rw[<-M] at x1 hi hu
 have bg:¬(i:Int)<0:=by omega
 have a3:(0:Int)<=(i:Int):=by omega
 have bh:¬(n:Int)<=(i:Int):=by omega
 have a4:(i:Int)<(n:Int):=by omega
 have bi:IntKind.i64.wrap ((i:Int)+1)=((i+1:Nat):Int):=by rw[bG (by omega) (by omega)];omega
 have bj:(0:Int)<=(a:Int):=by omega
 have bk:(a:Int)<(O:Int):=by omega
 clear M v hc m hF hi am S U R hto K
 go_in
 go_upto_region 4 with fail
 generalize V:World.alloc _ _=w0
 obtain⟨l,Y⟩:=zT w (a,T) w0 V.symm
 have Z:=Hid.mk' l
 have aa:=Hid.mk' Y
 have x2:=aA l x1
 have C:=CD.out w0 l
 clear V l Y x1 xa xb
 go_wp2_with fail
 refine C.mono ?_
 rintro e w8 ⟨rfl,ab,o⟩
 have B:NtB w8 X vd (.slice (some (zA g)) n c):=by
  have P:=z.out.below Z.out
  rw[<-HN.out] at P
  unfold NtB;rw[o.block X P.oM (fun e=>P.uX X e rfl)];exact P.blk
 have q8:=aB B (i:=1) (u:=.slice (some (zA g)) n c) rfl
 have f8:=aF B (i:=1)
 have s:=z9 (erased z.out Z.out ab (by rw[<-HN.out];exact o) rfl)
 have D:Hid ((w8.setCell ⟨X,1,none⟩ (.slice (some (zA g)) (n-1) c)).heap[w.heap.size]? =some (.cells #[zI a,.string T] 118)):=by
  unfold Hid
  have bm:=z.out.oM
  have ap:w.heap.size<w0.heap.size:=(qG.1 aa.out).1
  rw[set_block _ _ _ _ (by show w.heap.size≠X;omega),o.block _ ap (fun e=>by have:=(aL z.out.ru w.heap.size (by rw[<-HN.out];exact e)).1;omega)]
  exact aa.out
 clear B ab o C
 go_upto_region 7 with fail
 generalize ac:World.setCell _ _ _=w9
 rw[ac] at s D
 clear ac q8 f8 x2
 have f:=Hid.mk' s.out.1
 have b0:=aB D.out (i:=0) (u:=zI a) rfl
 have b1:=aB D.out (i:=1) (u:=.string T) rfl
 have d0:w9.cell? (zA X)=some (.slice (some (zA y)) O cd):=by
  have:=aB f.out.blk (i:=0) (u:=vd) rfl
  rw[A.out,<-ao.out] at this;exact this
 have d1:w9.cell? ⟨y,a,none⟩=some (ptr (E a)):=by
  obtain⟨p7,c7,j,_,_,t⟩:=f.out.fC
  have h8:0<N.ds.length:=by have:=d.out;omega
  obtain⟨g7,e8,h9⟩:=t h8
  rw[A.out] at j
  injection j with j _ _
  rw[e8] at j
  injection j with j
  injection j with j _
  subst j
  exact h9 a d.out
 have CO:Hid (∀W,zB w9 W->Calls prog 56 #[ptr (E a),.string T] W (Ag.OnPost W (E a) (dq N a) (Fd a) T)):=fun W hb=>Ag.aHx (E a) _ _ T W (DocAt.below (f.out.docs.at' a d.out) hb) HQ.out hok
 have HR:=Hid.mk' (qD w9.heap.size w9)
 have au:=z9 (f.out.ofd y (by rw[A.out];rfl))
 have ad:Hid (¬All N.ds.length Fd w.heap.size):=fun e=>by have:=z.out.docs.lt _ e;omega
 go_wp2_with fail
 go_region_held3 (fun W=>W.cell? (zA X)=some (.slice (some (zA y)) O cd)/\W.cell? ⟨y,a,none⟩=some (ptr (E a))/\W.cell? (zW w)=some (zI a)/\W.cell? ⟨w.heap.size,1,none⟩=some (.string T)) (first | (go_keep;done) | (refine⟨?_, ?_, ?_, ?_⟩<;>assumption)) (first
  | (go_at_call 56;refine(CO.out _ HR.out.drew).mono ?_;rintro e w6 ⟨he,F',Q,G,t⟩;obtain⟨k6,ae⟩:∃k6:Int,k6=opnN (dq N a) T:=⟨_,rfl⟩;obtain⟨z6,H⟩:=zx (errV (opnE (dq N a) T));rw[<-ae,<-H] at he;subst he;have ax:=Hid.mk' H;have ay:Hid (∃F',DocAt w6 (E a) (runS (dq N a) (opnL T)) F'/\Chg (Fd a) w9 w6/\∀g,F' g->Fd a g\/w9.heap.size<=g):=⟨F',Q,(Chg.ofBelow HR.out.drew _).trans G,t⟩;have k:Chg (Fd a) w9 w6:=(Chg.ofBelow HR.out.drew _).trans G;have bn:=(oF k (f.out.oM) (fun e=>f.out.off ⟨a,d.out,e⟩)).trans d0;have bo:=(oF k (qJ _ _ d1) (fun e=>au.out ⟨a,d.out,e⟩)).trans d1;have bp:=(oF k (qJ _ _ b0) (fun e=>ad.out ⟨a,d.out,e⟩)).trans b0;have bq:=(oF k (qJ _ _ b1) (fun e=>ad.out ⟨a,d.out,e⟩)).trans b1;clear Q G t ae H k))
 all_goals
  go_wp2_with fail
  go_ret
  obtain⟨F',Q,G,t⟩:=ay.out
  obtain⟨r1,r2,r3⟩:=f.out.aAH (i:=a) d.out Q G t
  have az:w.heap.size<=w9.heap.size:=s.out.2.1.size
  refine⟨by rw[ax.out];rfl,dM an.out r1 (s.out.2.1.next r2 s.out.2.2) fun g v=> ?_⟩
  rcases r3 g v with e | e
  ·exact s.out.2.2 g e
  ·exact qF (qO az e)
theorem is_co{t:Int}(h:isCo t=true):t=4\/t=5\/t=6:=by
 unfold isCo at h;simpa using h
theorem aGc(t a b c:Int)(w:World)(h:At w X N F)(hgl:Gl N)(hu:N.us.length<=100)(ht:isCo t=true):Calls prog 28 #[ptr X,.int .i64 t,.int .i64 a] w fun r w'=>r=.returned (errV (evE N (t,a,b,c)))/\Left' w X F (evS N (t,a,b,c)) w':=by
 have B:=h;obtain⟨o,n,E,q,m,s⟩:=h;have e:isEd t≠true:=by rcases is_co ht with rfl | rfl | rfl<;>decide
 have f:t≠3:=by rcases is_co ht with rfl | rfl | rfl<;>decide
 by_cases d:out N.us.length a
 ·have g:evE N (t,a,b,c)=1:=by unfold evE;dsimp only;rw[if_neg e,if_neg f,if_pos ht,if_pos d]
  have j:evS N (t,a,b,c)=N:=by unfold evS;dsimp only;rw[if_neg e,if_neg f,if_pos ht,if_pos d]
  rw[g,j,aH (by decide)];obtain⟨p,z,D,_⟩:=m.fJ
  have G:w.cell? ⟨X,1,none⟩=some (.slice p N.us.length z):=by
   have:=aB m.blk (i:=1) (u:=n) rfl;rw[D] at this;exact this
  refine(aIi X _ z t a p w G (by omega) d).mono ?_;rintro r w' ⟨rfl,rfl⟩;exact⟨rfl,bS B (qD _ _)⟩
 ·obtain⟨i,rfl⟩:∃i:Nat,a=i:=⟨a.toNat,by unfold out at d;omega⟩;have k:i<N.us.length:=by unfold out at d;omega
  have v:par N (t,i,b,c)=N.us.getD i pz:=rfl;rcases is_co ht with rfl | rfl | rfl
  ·have g:evE N (4,i,b,c)=opnE (dq N (N.us.getD i pz).1) (N.us.getD i pz).2:=by unfold evE;dsimp only;rw[if_neg e,if_neg f,if_pos ht,if_neg d,if_neg (by decide),if_neg (by decide),v]
   have j:evS N (4,i,b,c)=⟨N.ds.set (N.us.getD i pz).1 (runS (dq N (N.us.getD i pz).1) (opnL (N.us.getD i pz).2)),N.us.eraseIdx i⟩:=by unfold evS;dsimp only;rw[if_neg e,if_neg f,if_pos ht,if_neg d,if_neg (by decide),if_neg (by decide),v];rfl
   rw[g,j];have l:N.us.getD i pz ∈ N.us:=by rw[qA,qB k];exact jF k
   exact aEf X o n N E q F i w m s hu k (hgl.par _ l).1 (hgl.ok _ l)
  ·have g:evE N (5,i,b,c)=0:=by unfold evE;dsimp only;rw[if_neg e,if_neg f,if_pos ht,if_neg d,if_neg (by decide),if_pos rfl]
   have j:evS N (5,i,b,c)={ N with us:=N.us.eraseIdx i }:=by unfold evS;dsimp only;rw[if_neg e,if_neg f,if_pos ht,if_neg d,if_neg (by decide),if_pos rfl];rfl
   rw[g,j,aD];exact aEF X o n N E q F i w m s hu k
  ·have g:evE N (6,i,b,c)=if 100<=N.us.length then 4 else 0:=by unfold evE;dsimp only;rw[if_neg e,if_neg f,if_pos ht,if_neg d,if_pos rfl]
   have j:evS N (6,i,b,c)=if 100<=N.us.length then N else{ N with us:=N.us++[N.us.getD i pz] }:=by unfold evS;dsimp only;rw[if_neg e,if_neg f,if_pos ht,if_neg d,if_pos rfl,v]
   rw[g,j];exact aCT X o n N E q F i w m s hu k
end Hw
end Go.Proofs.YtjcemlmlfoilmaaGreatDoor
