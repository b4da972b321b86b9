import Derived.Test.YtjcemlmlfoilmaaGreatDoorX1
import Derived.Test.YtjcemlmlfoilmaaGreatDoorJ12
set_option linter.unusedVariables false
set_option maxRecDepth 100000
set_option maxHeartbeats 8000000
namespace Go.Proofs.YtjcemlmlfoilmaaGreatDoor
open Go.Proofs.Tryz (prog)
namespace Xr
open Go.RowKit Cm Na Om Oa Oz Oc Oi Hm Ia Ic Ie Ii Xp Xq
open La (bel aC own_below Lies)
open Lj (BookAt BookNew)
variable {w w':World}{v:Value}(B:Nat->Prop)(E:Nat)(S:Dq)(F:Nat->Prop)(a b:Int)(p:ByteArray)(c:Int)(vs:Value)(s:List Dt)
theorem bJ{g i b j:Nat}(h:b≠g):(w.setCell ⟨g,i,none⟩ v).cell? ⟨b,j,none⟩=w.cell? ⟨b,j,none⟩:=aM (set_block _ _ _ _ h)
theorem eZ{D:Nat}{o:Obj}{r:Option Nat}(h:w.heap[D]? =some o)(hg:w.grownBy w' r)(hne:r=some D->False):w'.heap[D]? =some o:=by
 rw[hg.block D (qG.1 h).1 (fun e=>hne e.symm)];exact h
theorem _root_.Go.Proofs.YtjcemlmlfoilmaaGreatDoor.Hid.mk'{p:Prop}(h:p):Hid p:=h
theorem aC0{B:Nat->Prop}{w7:World}{E gk:Nat}{vb vm vo:Value}{S:Dq}{F:Nat->Prop}{l:List Mk}(h:RefMem B w E gk vb vm vo S F)(hk:MksAt w7 v l/\(v=vm\/Lies w.heap.size v)):In (Gn (News' F w w7) E gk vo) v:=by
 rcases hk with⟨h1,rfl | h2⟩
 ·exact h.marksG.mono fun g hg=>⟨qH hg.1,hg.2⟩
 ·exact(uD ⟨h1,h2⟩).mono fun g hg=>⟨qF hg,fun e9=>by have:=(h.lt g (h.wr g e9)).2;omega⟩
theorem zJ{B:Nat}(h:Below B w.drew w'):Below B w w':=⟨h.os,h.tape,h.output,h.size,h.block⟩
theorem aBs(w:World)(h:RefAt B w E S F)(hd:DtsAt w vs s)(hi:In B vs)(hp:p.size<=maxLen)(ho:opE ((a,b),1,p,c,s)=0)(hpc:Pm.chk p.toList=0)(hkn:kn S a+1=b)(hf:S.ops.length<400)(k:Int)(hdo:doE S ((a,b),1,p,c,s)=k)(h0:k≠0):
  Calls prog 71 #[.pointer (some ⟨E,0,none⟩),.agg #[.int .i64 a,.int .i64 b,.int .i64 1,.string p,.int .i64 c,vs]] w (RPost B w E S F ((a,b),1,p,c,s)):=by
 have ag:=z9 h
 obtain⟨I,T,U,vm,vo,f⟩:=h
 have t:Hid (zB w (w.alloc (.cells #[zI a,zI b,zI 1,.string p,zI c,vs] 97))):=(qD _ w).alloc (qC _) _
 have D:=z9 (aT w a b 1 p c vs 97)
 have v:Hid (∀W,zB w W->Calls prog 91 #[.agg #[zI a,zI b,zI 1,.string p,zI c,vs]] W fun e w'=>e=.returned (zI (opE ((a,b),1,p,c,s)))/\zB W w'):=fun W hb=>Ob.dR a b 1 p c vs s W hp (hd.below hb)
 have HN:Hid (isNew S ((a,b),1,p,c,s)=false):=by
  unfold Hid
  cases h9:isNew S ((a,b),1,p,c,s)
  ·rfl
  ·have h8:=(aZ.1 h9).2.2.2;rw[hdo] at h8;exact absurd h8 h0
 have HE:Hid (apE S ((a,b),1,p,c,s)=k):=by unfold Hid apE;rw[if_neg (by simpa using ho)];simp only;rw[if_neg (by omega),if_neg (by omega),if_neg (by omega),hdo]
 have be:(k==0)=false:=by simpa using h0
 have bf:(k !=0)=true:=by simpa using h0
 have G:doE S ((a,b),1,p,c,s)=Bm.writeE S.book p c:=by unfold doE;rw[if_pos rfl]
 have H:doB S ((a,b),1,p,c,s)=Bm.writeL S.book p c:=by unfold doB;rw[if_pos rfl]
 have ai:doM S ((a,b),1,p,c,s)=S.marks:=by unfold doM;rw[if_neg (by decide:¬(1:Int)=3),if_neg (by decide:¬(1:Int)=4)]
 obtain⟨J,K⟩:=aIr I.book hpc c
 have CC:Hid (∀W,zB w W->Calls prog 92 #[U,.string p,zI c] W fun e w'=>∃v',e=.returned (.tuple #[v',zI (doE S ((a,b),1,p,c,s))])/\BookNew w.heap.size w' v' (doB S ((a,b),1,p,c,s))/\zB W w'):=fun W hb=>by
  rw[G,H,J,K]
  exact(Me.iA U S.book p c W (f.book.below hb) I.book).mono fun e w' ⟨v',h1,h2,h3⟩=>⟨v',h1,h2.mono hb.size,h3⟩
 rw[hdo] at CC
 rw[ho] at v
 obtain⟨d1,d2,d3,d4⟩:=bH.1 (aO.1 ho).1
 simp only at d1 d2 d3 d4
 obtain⟨q,V⟩:=zx (kn S a)
 have M:a.toNat-1<8:=by omega
 have y:(a-1).toNat=a.toNat-1:=by omega
 have bg:=z9 y
 have ak:Hid (∀W,zB w W->W.cell? ⟨T,a.toNat-1,none⟩=some (zI q)):=fun W hb=>by
  obtain⟨bh,k1,k2⟩:=(f.below hb).kn
  refine aB k1 ?_
  have N:a.toNat-1<S.known.length:=by rw[I.klen];exact M
  rw[<-kJ,k2,qT,qB N,V]
  unfold kn
  rw[y,qA,qB N];rfl
 obtain⟨po,z,co,O⟩:∃p n c,vo=.slice p n c:=by obtain⟨L,_,e,_⟩:=f.ops;obtain⟨p,n,c,r,_⟩:=aG e;exact⟨p,n,c,r⟩
 obtain⟨X,Y,Z,an⟩:∃p n c,U=.slice p n c:=by obtain⟨p,c,e,_⟩:=f.book;exact⟨_,_,_,e⟩
 obtain⟨pm,nm,cm,ar⟩:∃p n c,vm=.slice p n c:=by obtain⟨p,c,e,_⟩:=f.marks;exact⟨_,_,_,e⟩
 have Q:Hid (z=S.ops.length):=by
  obtain⟨L,_,e,_⟩:=f.ops
  obtain⟨p,n,c,r,e3⟩:=aG e
  rw[O] at r
  injection r with _ r _
  exact r.trans e3.out
 have bi:=z9 f
 subst O an ar
 have m:Hid (∀W,zB w W->W.heap[E]? =some (.cells #[.slice X Y Z,.slice pm nm cm,.slice (some (zA T)) 8 8,.slice po z co] 52)):=fun W hb=>(f.below hb).blk
 have bj:0<=a-1:=by omega
 have bk:a-1<8:=by omega
 rw[<-V] at hkn
 have ba:¬b<=q:=by omega
 have bb:¬q<b-1:=by omega
 have bl:¬(400:Int)<=z:=by have:=Q.out;omega
 have bm:z<400:=by have:=Q.out;omega
 clear hd hi hp ho f I V M y hf hpc G H ai J K hdo
 go_in
 obtain⟨o0,o1,o2,o3,o4,o5⟩:=D.out
 go_wp2_with fail
 refine(v.out _ t.out).mono ?_
 rintro e w2 ⟨rfl,o⟩
 have A:=z9 (bel t.out o)
 obtain⟨o0,o1,o2,o3,o4,o5⟩:=D.out.below o
 have R:=z9 (D.out.below o)
 have x2:=aB (m.out w2 A.out) (i:=2) (u:=.slice (some (zA T)) 8 8) rfl
 have xk:=ak.out w2 A.out
 clear o v D t
 go_wp2_with fail
 have bn:IntKind.i64.wrap (a-1)=a-1:=bG (by omega) (by omega)
 go_quiet (fail)
 generalize C:World.drewN _ _=wq
 have g:Hid (zB w wq):=by rw[<-C];exact aC A.out _
 have au:Hid (Six wq w.heap.size a b 1 p c vs):=by rw[<-C];exact R.out
 clear C o0 o1 o2 o3 o4 o5 x2 xk R
 obtain⟨o0,o1,o2,o3,o4,o5⟩:=au.out
 have x3:=aB (m.out wq g.out) (i:=3) (u:=.slice po z co) rfl
 have x0:=aB (m.out wq g.out) (i:=0) (u:=.slice X Y Z) rfl
 have x1:=aB (m.out wq g.out) (i:=1) (u:=.slice pm nm cm) rfl
 go_wp2_with fail
 go_region_held3 (fun W=>W.cell? (zA E)=some (.slice X Y Z)/\W.cell? ⟨w.heap.size,3,none⟩=some (.string p)/\W.cell? ⟨w.heap.size,4,none⟩=some (zI c)) (first | (go_keep;done) | (refine⟨aA j ?_,aA j ?_,aA j ?_⟩<;>(go_split_ands;assumption))) (first
  | (go_at_call 92;refine(CC.out _ g.out.drew).mono ?_;rintro e w7 ⟨v7,rfl,av,j⟩;have aw:=z9 (bel g.out.drew j);clear av))
 all_goals
  clear j
  go_wp2_with fail
  go_ret2
  exact RPost.no ag.out HN.out HE.out aw.out
theorem aAW(w:World)(h:RefAt B w E S F)(hd:DtsAt w vs s)(hi:In B vs)(hp:p.size<=maxLen)(ho:opE ((a,b),1,p,c,s)=0)(hpc:Pm.chk p.toList=0)(hkn:kn S a+1=b)(hf:S.ops.length<400)(hdo:doE S ((a,b),1,p,c,s)=0):
  Calls prog 71 #[.pointer (some ⟨E,0,none⟩),.agg #[.int .i64 a,.int .i64 b,.int .i64 1,.string p,.int .i64 c,vs]] w (RPost B w E S F ((a,b),1,p,c,s)):=by
 have dk:=z9 h
 obtain⟨I,gk,vb,vm,vo,M⟩:=h
 have ac:Hid (zB w (w.alloc (.cells #[zI a,zI b,zI 1,.string p,zI c,vs] 97))):=(qD _ w).alloc (qC _) _
 have H6:=z9 (aT w a b 1 p c vs 97)
 have ad:Hid (∀W,zB w W->Calls prog 91 #[.agg #[zI a,zI b,zI 1,.string p,zI c,vs]] W fun e w'=>e=.returned (zI (opE ((a,b),1,p,c,s)))/\zB W w'):=fun W hb=>Ob.dR a b 1 p c vs s W hp (hd.below hb)
 have bu:=z9 (aZ.2 ⟨ho,hkn,hf,hdo⟩)
 have HI:=z9 I
 have b1:Hid (∀W,zB w W->DtsAt W vs s):=fun W hb=>hd.below hb
 have a3:=z9 hi
 obtain⟨ps,ns,cs,b2⟩:∃p n c,vs=.slice p n c:=by obtain⟨p,c,e,_⟩:=hd;exact⟨_,_,_,e⟩
 subst b2
 obtain⟨i0,dl,dm,dn,dp⟩:=info_parts aAL
 have a4:doE S ((a,b),1,p,c,s)=Bm.writeE S.book p c:=by unfold doE;rw[if_pos rfl]
 have a5:doB S ((a,b),1,p,c,s)=Bm.writeL S.book p c:=by unfold doB;rw[if_pos rfl]
 have a6:doM S ((a,b),1,p,c,s)=S.marks:=by unfold doM;rw[if_neg (by decide:¬(1:Int)=3),if_neg (by decide:¬(1:Int)=4)]
 obtain⟨a7,a8⟩:=aIr I.book hpc c
 have CC:Hid (∀W,zB w W->Calls prog 92 #[vb,.string p,zI c] W fun e w'=>∃v',e=.returned (.tuple #[v',zI (doE S ((a,b),1,p,c,s))])/\BookNew w.heap.size w' v' (doB S ((a,b),1,p,c,s))/\zB W w'):=fun W hb=>by
  rw[a4,a5,a7,a8]
  exact(Me.iA vb S.book p c W (M.book.below hb) I.book).mono fun e w' ⟨v',h1,h2,h3⟩=>⟨v',h1,h2.mono hb.size,h3⟩
 rw[hdo] at CC
 have b4:=z9 a6
 rw[ho] at ad
 obtain⟨d1,d2,d3,d4⟩:=bH.1 (aO.1 ho).1
 simp only at d1 d2 d3 d4
 obtain⟨q,hq⟩:=zx (kn S a)
 have a9:a.toNat-1<8:=by omega
 have ah:(a-1).toNat=a.toNat-1:=by omega
 have b5:=z9 ah
 have b6:Hid (∀W,zB w W->W.cell? ⟨gk,a.toNat-1,none⟩=some (zI q)):=fun W hb=>by
  obtain⟨H,k1,k2⟩:=(M.below hb).kn
  refine aB k1 ?_
  have ba:a.toNat-1<S.known.length:=by rw[I.klen];exact a9
  rw[<-kJ,k2,qT,qB ba,hq]
  unfold kn
  rw[ah,qA,qB ba];rfl
 obtain⟨k,f,l,bb⟩:∃p n c,vo=.slice p n c:=by obtain⟨L,_,e,_⟩:=M.ops;obtain⟨p,n,c,e2,_⟩:=aG e;exact⟨p,n,c,e2⟩
 obtain⟨pb,nb,cb,b7⟩:∃p n c,vb=.slice p n c:=by obtain⟨p,c,e,_⟩:=M.book;exact⟨_,_,_,e⟩
 obtain⟨m,r,t,b8⟩:∃p n c,vm=.slice p n c:=by obtain⟨p,c,e,_⟩:=M.marks;exact⟨_,_,_,e⟩
 have T:Hid (f=S.ops.length):=by
  obtain⟨L,_,e,_⟩:=M.ops
  obtain⟨p,n,c,e2,e3⟩:=aG e
  rw[bb] at e2
  injection e2 with _ e2 _
  exact e2.trans e3.out
 have j:=z9 M
 subst bb b7 b8
 have U:Hid (∀W,zB w W->W.heap[E]? =some (.cells #[.slice pb nb cb,.slice m r t,.slice (some (zA gk)) 8 8,.slice k f l] 52)):=fun W hb=>(M.below hb).blk
 have dq:0<=a-1:=by omega
 have dr:a-1<8:=by omega
 rw[<-hq] at hkn
 have cw:¬b<=q:=by omega
 have cx:¬q<b-1:=by omega
 have ds:¬(400:Int)<=f:=by have:=T.out;omega
 have dt:f<400:=by have:=T.out;omega
 clear hd hi hp ho M I hq a9 ah hf hpc a4 a5 a6 a7 a8 hdo
 go_in
 obtain⟨o0,o1,o2,o3,o4,o5⟩:=H6.out
 go_wp2_with fail
 refine(ad.out _ ac.out).mono ?_
 rintro e w2 ⟨rfl,V⟩
 have ao:=z9 (bel ac.out V)
 obtain⟨o0,o1,o2,o3,o4,o5⟩:=H6.out.below V
 have bc:=z9 (H6.out.below V)
 have x2:=aB (U.out w2 ao.out) (i:=2) (u:=.slice (some (zA gk)) 8 8) rfl
 have xk:=b6.out w2 ao.out
 clear V ad H6 ac
 go_wp2_with fail
 have du:IntKind.i64.wrap (a-1)=a-1:=bG (by omega) (by omega)
 go_quiet (fail)
 generalize ap:World.drewN _ _=wq
 have N:Hid (zB w wq):=by rw[<-ap];exact aC ao.out _
 have bd:Hid (Six wq w.heap.size a b 1 p c (.slice ps ns cs)):=by rw[<-ap];exact bc.out
 clear ap o0 o1 o2 o3 o4 o5 x2 xk bc
 obtain⟨o0,o1,o2,o3,o4,o5⟩:=bd.out
 have x3:=aB (U.out wq N.out) (i:=3) (u:=.slice k f l) rfl
 have x0:=aB (U.out wq N.out) (i:=0) (u:=.slice pb nb cb) rfl
 have x1:=aB (U.out wq N.out) (i:=1) (u:=.slice m r t) rfl
 go_wp2_with fail
 go_region_held3 (fun W=>W.cell? (zA E)=some (.slice pb nb cb)/\W.cell? ⟨w.heap.size,3,none⟩=some (.string p)/\W.cell? ⟨w.heap.size,4,none⟩=some (zI c)) (first | (go_keep;done) | (refine⟨aA K ?_,aA K ?_,aA K ?_⟩<;>(go_split_ands;assumption))) (first
  | (go_at_call 92;refine(CC.out _ N.out.drew).mono ?_;rintro e w7 ⟨v7,rfl,X,K⟩;obtain⟨A,C,D,rfl⟩:∃p n c,v7=.slice p n c:=(by obtain⟨⟨p,c,e,_⟩,_⟩:=X;exact⟨_,_,_,e⟩);have aq:=z9 (bel N.out.drew K);have be:Hid (BookAt w7 (.slice A C D) (doB S ((a,b),1,p,c,s))/\In (Gn (News' F w w7) E gk (.slice k f l)) (.slice A C D)):=⟨X.1,(rU X).mono fun g hg=>⟨qF hg,fun e9=>(by have:=(j.out.lt g (j.out.wr g e9)).2;omega)⟩⟩;have bf:Hid (MksAt w7 (.slice m r t) (doM S ((a,b),1,p,c,s))/\In (Gn (News' F w w7) E gk (.slice k f l)) (.slice m r t)):=⟨(by rw[b4.out];exact j.out.marks.below aq.out),j.out.marksG.mono fun g hg=>⟨qH hg.1,hg.2⟩⟩;have b9:=z9 (bd.out.below (zJ K));clear X))
 all_goals
  obtain⟨bg,bh⟩:=nD (i:=a.toNat-1) (n:=b) j.out aq.out be.out.1 be.out.2 bf.out.1 bf.out.2
  have y:=j.out.below aq.out
  obtain⟨H,ar,bi⟩:=y.kn
  have au:E≠gk:=blk_ne y.blk ar (by decide)
  have bw:a.toNat-1<H.size:=by have J:=congrArg List.length bi;rw[jM,HI.out.klen] at J;have h8:H.toList.length=H.size:=(by simp);omega
  have Y:Hid (E<w.heap.size/\gk<w.heap.size):=⟨(j.out.lt _ (j.out.wr _ (qH rfl))).2,(j.out.lt _ (j.out.wr _ (qF (qH rfl)))).2⟩
  have y0:=aB y.blk (i:=0) (u:=.slice pb nb cb) rfl
  have g0:=aF y.blk (i:=0)
  have Z:=set_heap (i:=0) (v:=.slice A C D) y.blk
  have y1:=aB Z (i:=1) (u:=.slice m r t) rfl
  have g1:=aF Z (i:=1)
  have bj:=set_heap (i:=1) (v:=.slice m r t) Z
  have y2:=aB bj (i:=2) (u:=.slice (some (zA gk)) 8 8) rfl
  have av:((w7.setCell (zA E) (.slice A C D)).setCell ⟨E,1,none⟩ (.slice m r t)).heap[gk]? =some (.cells H 3 (0,0)):=by rw[set_block _ _ _ _ au.symm,set_block _ _ _ _ au.symm];exact ar
  have y4:=aB av (i:=a.toNat-1) (u:=H[a.toNat-1]) (yT bw)
  have g4:=aF av (i:=a.toNat-1)
  have aw:Hid (Six ((w7.setCell (zA E) (.slice A C D)).setCell ⟨E,1,none⟩ (.slice m r t)) w.heap.size a b 1 p c (.slice ps ns cs)):=cB b9.out (by rw[set_block _ _ _ _ (by have:=Y.out.1;simp;omega),set_block _ _ _ _ (by have:=Y.out.1;simp;omega)])
  have bk:Hid (Six (st3 w7 E gk (a.toNat-1) (.slice A C D) (.slice m r t) b) w.heap.size a b 1 p c (.slice ps ns cs)):=cB aw.out (by unfold st3;rw[set_block _ _ _ _ (by have:=Y.out.2;simp;omega)])
  obtain⟨r0,r1,_,_,_,_⟩:=aw.out
  have ax:=z9 bg
  have z:=z9 bh
  have cd:((w7.setCell (zA E) (.slice A C D)).setCell ⟨E,1,none⟩ (.slice m r t)).drew.cell? ⟨gk,a.toNat-1,none⟩=some H[a.toNat-1]:=y4
  have ce:((w7.setCell (zA E) (.slice A C D)).setCell ⟨E,1,none⟩ (.slice m r t)).drew.frozen? ⟨gk,a.toNat-1,none⟩=false:=g4
  have bl:w.heap.size≠gk:=by have:=Y.out.2;omega
  clear bg bh y ar bi Z bj av aw o0 o1 o2 o3 o4 o5 x0 x1 x3 K y4 g4
  go_wp2_with fail
  go_region_held3 (fun W=>W.cell? ⟨E,2,none⟩=some (.slice (some (zA gk)) 8 8)/\W.cell? (zW w)=some (zI a)/\W.cell? ⟨w.heap.size,1,none⟩=some (zI b)) (first | (refine⟨(bJ au).trans ?_,(bJ bl).trans ?_,(bJ bl).trans ?_⟩<;>(go_split_ands;assumption)) | (go_keep;done)) (fail)
  generalize P:World.setCell _ ⟨gk,a.toNat-1,none⟩ _=w8
  have hh:w8.heap=(st3 w7 E gk (a.toNat-1) (.slice A C D) (.slice m r t) b).heap:=by rw[<-P];rfl
  have Q:Hid (RefMem B w8 E gk (.slice A C D) (.slice m r t) (.slice k f l) ⟨doB S ((a,b),1,p,c,s),doM S ((a,b),1,p,c,s),S.known.set (a.toNat-1) b,S.ops⟩ (News' F w w7)):=ax.out.stay (fun g _=>by rw[hh]) (by rw[hh];exact qC _)
  have bm:Hid (Chg F w w8):=⟨by rw[<-P];exact z.out.os,by rw[<-P];exact z.out.tape,by rw[<-P];exact z.out.output,by rw[hh];exact z.out.size,fun g hg hf=>by rw[hh];exact z.out.block g hg hf⟩
  have cf:=z9 (cB bk.out (by rw[hh]))
  clear P hh ax z bk y0 g0 y1 g1 y2 cd ce r0 r1
  obtain⟨L,hL,bn,bo⟩:=Q.out.ops
  have ch:=z9 hL
  have ci:=z9 bo
  have bp:Hid (w8.ownsRow 0 97 6 (.slice k f l) f (flatO L)):=by have J:w8.ownsRow 0 97 6 (.slice k f l) S.ops.length (flatO L):=bn;rw[<-T.out] at J;exact J
  have ay:Hid (∀O,zB w8 (w8.alloc O).drew.drew):=fun O=>((qD _ w8).alloc (qC _) O).drew.drew
  have cj:Hid (∀O,(w8.alloc O).drew.drew.ownsRow 0 97 6 (.slice k f l) f (flatO L)):=fun O=>own_below bp.out (ay.out O)
  have bq:Hid (∀O,(w8.alloc O).drew.drew.heap[E]? =some (.cells #[.slice A C D,.slice m r t,.slice (some (zA gk)) 8 8,.slice k f l] 52)):=fun O=>(Q.out.below (ay.out O)).blk
  have q8:=fun O=>aB (bq.out O) (i:=3) (u:=.slice k f l) rfl
  have q7:∀O,(w8.alloc O).cell? ⟨E,3,none⟩=some (.slice k f l):=q8
  have ck:Hid (DtsAt w8 (.slice ps ns cs) s):=bI (b1.out w (qD _ _)) a3.out (bm.out.stay fun g hg=>⟨j.out.old g hg,fun e=>(j.out.lt g e).1 hg⟩)
  have bx:Hid (∀g,(Value.slice k f l).ownBlock=some g->g=E->False):=fun g hg e=>by
   obtain⟨_,de,hc⟩:=aL bp.out g hg
   exact blk_ne hc Q.out.blk (by decide) e
  have z3:=aB Q.out.blk (i:=3) (u:=.slice k f l) rfl
  obtain⟨o0,o1,o2,o3,o4,o5⟩:=cf.out
  clear hL bn bo
  go_wp2_with fail
  go_region_law (
   (refine eQ (by rfl) (.tmp 140) (.tmp 142) (by rfl) (.slice k f l) f L ((a,b),1,p,c,s) ps ns cs (by rfl) w8.heap.size (by rfl) (by omega) (cj.out _) (heap_alloc_new w8 _) ?_;intro v9 w9 hr9 hg9 hl9;obtain⟨p9,n9,c9,rfl,_⟩:=aG hr9;have R:=(eZ (bq.out _) hg9 (fun e=>bx.out E e rfl));have q9:=aB R (i:=3) (u:=.slice k f l) rfl;have dv:=aF R (i:=3);have br:=Hid.mk' hr9;have bs:=Hid.mk' hg9;have bt:=Hid.mk' hl9;clear hr9 hg9 hl9 R))
  all_goals
   have HP:Hid (RPost B w E S F ((a,b),1,p,c,s) (.returned (.tuple #[.bool true,zI 0])) (w9.setCell ⟨E,3,none⟩ (.slice p9 n9 c9))):=(oG (o:=((a,b),1,p,c,s)) (F1:=News' F w w7) (vb:=.slice A C D) (vm:=.slice m r t) (vo:=.slice k f l) (gk:=gk) (L:=L) HI.out bu.out bm.out (fun g hg=>hg.imp id And.left) (by have J:=Q.out;rw[<-b5.out] at J;exact J) ch.out ci.out (ay.out _) ck.out a3.out bs.out (by have J:=br.out;rw[T.out] at J;exact J) bt.out)
   clear br bs bt
   go_wp2_with fail
   go_ret2
   exact HP.out
theorem aAo(w:World)(h:RefAt B w E S F)(hd:DtsAt w vs s)(hi:In B vs)(hp:p.size<=maxLen)(ho:opE ((a,b),2,p,c,s)=0)(hpc:Pm.chk p.toList=0)(hkn:kn S a+1=b)(hf:S.ops.length<400)(k:Int)(hdo:doE S ((a,b),2,p,c,s)=k)(h0:k≠0):
  Calls prog 71 #[.pointer (some ⟨E,0,none⟩),.agg #[.int .i64 a,.int .i64 b,.int .i64 2,.string p,.int .i64 c,vs]] w (RPost B w E S F ((a,b),2,p,c,s)):=by
 have ag:=z9 h
 obtain⟨I,T,U,vm,vo,f⟩:=h
 have t:Hid (zB w (w.alloc (.cells #[zI a,zI b,zI 2,.string p,zI c,vs] 97))):=(qD _ w).alloc (qC _) _
 have D:=z9 (aT w a b 2 p c vs 97)
 have v:Hid (∀W,zB w W->Calls prog 91 #[.agg #[zI a,zI b,zI 2,.string p,zI c,vs]] W fun e w'=>e=.returned (zI (opE ((a,b),2,p,c,s)))/\zB W w'):=fun W hb=>Ob.dR a b 2 p c vs s W hp (hd.below hb)
 have HN:Hid (isNew S ((a,b),2,p,c,s)=false):=by
  unfold Hid
  cases h9:isNew S ((a,b),2,p,c,s)
  ·rfl
  ·have h8:=(aZ.1 h9).2.2.2;rw[hdo] at h8;exact absurd h8 h0
 have HE:Hid (apE S ((a,b),2,p,c,s)=k):=by unfold Hid apE;rw[if_neg (by simpa using ho)];simp only;rw[if_neg (by omega),if_neg (by omega),if_neg (by omega),hdo]
 have be:(k==0)=false:=by simpa using h0
 have bf:(k !=0)=true:=by simpa using h0
 have G:doE S ((a,b),2,p,c,s)=Bm.strikeE S.book p:=by unfold doE;rw[if_neg (by decide:¬(2:Int)=1),if_pos rfl]
 have H:doB S ((a,b),2,p,c,s)=Bm.strikeL S.book p:=by unfold doB;rw[if_neg (by decide:¬(2:Int)=1),if_pos rfl]
 have ai:doM S ((a,b),2,p,c,s)=S.marks:=by unfold doM;rw[if_neg (by decide:¬(2:Int)=3),if_neg (by decide:¬(2:Int)=4)]
 obtain⟨J,K⟩:=aIn I.book hpc
 have CC:Hid (∀W,zB w W->Calls prog 93 #[U,.string p] W fun e w'=>∃v',e=.returned (.tuple #[v',zI (doE S ((a,b),2,p,c,s))])/\BookNew w.heap.size w' v' (doB S ((a,b),2,p,c,s))/\zB W w'):=fun W hb=>by
  rw[G,H,J,K]
  exact(Me.gC U S.book p W (f.book.below hb) I.book).mono fun e w' ⟨v',h1,h2,h3⟩=>⟨v',h1,h2.mono hb.size,h3⟩
 rw[hdo] at CC
 rw[ho] at v
 obtain⟨d1,d2,d3,d4⟩:=bH.1 (aO.1 ho).1
 simp only at d1 d2 d3 d4
 obtain⟨q,V⟩:=zx (kn S a)
 have M:a.toNat-1<8:=by omega
 have y:(a-1).toNat=a.toNat-1:=by omega
 have bg:=z9 y
 have ak:Hid (∀W,zB w W->W.cell? ⟨T,a.toNat-1,none⟩=some (zI q)):=fun W hb=>by
  obtain⟨bh,k1,k2⟩:=(f.below hb).kn
  refine aB k1 ?_
  have N:a.toNat-1<S.known.length:=by rw[I.klen];exact M
  rw[<-kJ,k2,qT,qB N,V]
  unfold kn
  rw[y,qA,qB N];rfl
 obtain⟨po,z,co,O⟩:∃p n c,vo=.slice p n c:=by obtain⟨L,_,e,_⟩:=f.ops;obtain⟨p,n,c,r,_⟩:=aG e;exact⟨p,n,c,r⟩
 obtain⟨X,Y,Z,an⟩:∃p n c,U=.slice p n c:=by obtain⟨p,c,e,_⟩:=f.book;exact⟨_,_,_,e⟩
 obtain⟨pm,nm,cm,ar⟩:∃p n c,vm=.slice p n c:=by obtain⟨p,c,e,_⟩:=f.marks;exact⟨_,_,_,e⟩
 have Q:Hid (z=S.ops.length):=by
  obtain⟨L,_,e,_⟩:=f.ops
  obtain⟨p,n,c,r,e3⟩:=aG e
  rw[O] at r
  injection r with _ r _
  exact r.trans e3.out
 have bi:=z9 f
 subst O an ar
 have l:Hid (∀W,zB w W->W.heap[E]? =some (.cells #[.slice X Y Z,.slice pm nm cm,.slice (some (zA T)) 8 8,.slice po z co] 52)):=fun W hb=>(f.below hb).blk
 have bj:0<=a-1:=by omega
 have bk:a-1<8:=by omega
 rw[<-V] at hkn
 have ba:¬b<=q:=by omega
 have bb:¬q<b-1:=by omega
 have bl:¬(400:Int)<=z:=by have:=Q.out;omega
 have bm:z<400:=by have:=Q.out;omega
 clear hd hi hp ho f I V M y hf hpc G H ai J K hdo
 go_in
 obtain⟨o0,o1,o2,o3,o4,o5⟩:=D.out
 go_wp2_with fail
 refine(v.out _ t.out).mono ?_
 rintro e w2 ⟨rfl,m⟩
 have A:=z9 (bel t.out m)
 obtain⟨o0,o1,o2,o3,o4,o5⟩:=D.out.below m
 have R:=z9 (D.out.below m)
 have x2:=aB (l.out w2 A.out) (i:=2) (u:=.slice (some (zA T)) 8 8) rfl
 have xk:=ak.out w2 A.out
 clear m v D t
 go_wp2_with fail
 have bn:IntKind.i64.wrap (a-1)=a-1:=bG (by omega) (by omega)
 go_quiet (fail)
 generalize C:World.drewN _ _=wq
 have g:Hid (zB w wq):=by rw[<-C];exact aC A.out _
 have au:Hid (Six wq w.heap.size a b 2 p c vs):=by rw[<-C];exact R.out
 clear C o0 o1 o2 o3 o4 o5 x2 xk R
 obtain⟨o0,o1,o2,o3,o4,o5⟩:=au.out
 have x3:=aB (l.out wq g.out) (i:=3) (u:=.slice po z co) rfl
 have x0:=aB (l.out wq g.out) (i:=0) (u:=.slice X Y Z) rfl
 have x1:=aB (l.out wq g.out) (i:=1) (u:=.slice pm nm cm) rfl
 go_wp2_with fail
 go_region_held3 (fun W=>W.cell? (zA E)=some (.slice X Y Z)/\W.cell? ⟨w.heap.size,3,none⟩=some (.string p)) (first | (go_keep;done) | (refine⟨aA o ?_,aA o ?_⟩<;>(go_split_ands;assumption))) (first
  | (go_at_call 93;refine(CC.out _ g.out.drew).mono ?_;rintro e w7 ⟨v7,rfl,av,o⟩;have aw:=z9 (bel g.out.drew o);clear av))
 all_goals
  clear o
  go_wp2_with fail
  go_ret2
  exact RPost.no ag.out HN.out HE.out aw.out
theorem yL(w:World)(h:RefAt B w E S F)(hd:DtsAt w vs s)(hi:In B vs)(hp:p.size<=maxLen)(ho:opE ((a,b),2,p,c,s)=0)(hpc:Pm.chk p.toList=0)(hkn:kn S a+1=b)(hf:S.ops.length<400)(hdo:doE S ((a,b),2,p,c,s)=0):
  Calls prog 71 #[.pointer (some ⟨E,0,none⟩),.agg #[.int .i64 a,.int .i64 b,.int .i64 2,.string p,.int .i64 c,vs]] w (RPost B w E S F ((a,b),2,p,c,s)):=by
 have dk:=z9 h
 obtain⟨I,gk,vb,vm,vo,K⟩:=h
 have ac:Hid (zB w (w.alloc (.cells #[zI a,zI b,zI 2,.string p,zI c,vs] 97))):=(qD _ w).alloc (qC _) _
 have H6:=z9 (aT w a b 2 p c vs 97)
 have ad:Hid (∀W,zB w W->Calls prog 91 #[.agg #[zI a,zI b,zI 2,.string p,zI c,vs]] W fun e w'=>e=.returned (zI (opE ((a,b),2,p,c,s)))/\zB W w'):=fun W hb=>Ob.dR a b 2 p c vs s W hp (hd.below hb)
 have bu:=z9 (aZ.2 ⟨ho,hkn,hf,hdo⟩)
 have HI:=z9 I
 have b1:Hid (∀W,zB w W->DtsAt W vs s):=fun W hb=>hd.below hb
 have a3:=z9 hi
 obtain⟨ps,ns,cs,b2⟩:∃p n c,vs=.slice p n c:=by obtain⟨p,c,e,_⟩:=hd;exact⟨_,_,_,e⟩
 subst b2
 obtain⟨i0,dl,dm,dn,dp⟩:=info_parts aAL
 have a4:doE S ((a,b),2,p,c,s)=Bm.strikeE S.book p:=by unfold doE;rw[if_neg (by decide:¬(2:Int)=1),if_pos rfl]
 have a5:doB S ((a,b),2,p,c,s)=Bm.strikeL S.book p:=by unfold doB;rw[if_neg (by decide:¬(2:Int)=1),if_pos rfl]
 have a6:doM S ((a,b),2,p,c,s)=S.marks:=by unfold doM;rw[if_neg (by decide:¬(2:Int)=3),if_neg (by decide:¬(2:Int)=4)]
 obtain⟨a7,a8⟩:=aIn I.book hpc
 have CC:Hid (∀W,zB w W->Calls prog 93 #[vb,.string p] W fun e w'=>∃v',e=.returned (.tuple #[v',zI (doE S ((a,b),2,p,c,s))])/\BookNew w.heap.size w' v' (doB S ((a,b),2,p,c,s))/\zB W w'):=fun W hb=>by
  rw[a4,a5,a7,a8]
  exact(Me.gC vb S.book p W (K.book.below hb) I.book).mono fun e w' ⟨v',h1,h2,h3⟩=>⟨v',h1,h2.mono hb.size,h3⟩
 rw[hdo] at CC
 have b4:=z9 a6
 rw[ho] at ad
 obtain⟨d1,d2,d3,d4⟩:=bH.1 (aO.1 ho).1
 simp only at d1 d2 d3 d4
 obtain⟨q,hq⟩:=zx (kn S a)
 have a9:a.toNat-1<8:=by omega
 have ah:(a-1).toNat=a.toNat-1:=by omega
 have b5:=z9 ah
 have b6:Hid (∀W,zB w W->W.cell? ⟨gk,a.toNat-1,none⟩=some (zI q)):=fun W hb=>by
  obtain⟨H,k1,k2⟩:=(K.below hb).kn
  refine aB k1 ?_
  have ba:a.toNat-1<S.known.length:=by rw[I.klen];exact a9
  rw[<-kJ,k2,qT,qB ba,hq]
  unfold kn
  rw[ah,qA,qB ba];rfl
 obtain⟨k,f,l,bb⟩:∃p n c,vo=.slice p n c:=by obtain⟨L,_,e,_⟩:=K.ops;obtain⟨p,n,c,e2,_⟩:=aG e;exact⟨p,n,c,e2⟩
 obtain⟨pb,nb,cb,b7⟩:∃p n c,vb=.slice p n c:=by obtain⟨p,c,e,_⟩:=K.book;exact⟨_,_,_,e⟩
 obtain⟨m,r,t,b8⟩:∃p n c,vm=.slice p n c:=by obtain⟨p,c,e,_⟩:=K.marks;exact⟨_,_,_,e⟩
 have T:Hid (f=S.ops.length):=by
  obtain⟨L,_,e,_⟩:=K.ops
  obtain⟨p,n,c,e2,e3⟩:=aG e
  rw[bb] at e2
  injection e2 with _ e2 _
  exact e2.trans e3.out
 have j:=z9 K
 subst bb b7 b8
 have U:Hid (∀W,zB w W->W.heap[E]? =some (.cells #[.slice pb nb cb,.slice m r t,.slice (some (zA gk)) 8 8,.slice k f l] 52)):=fun W hb=>(K.below hb).blk
 have dq:0<=a-1:=by omega
 have dr:a-1<8:=by omega
 rw[<-hq] at hkn
 have cw:¬b<=q:=by omega
 have cx:¬q<b-1:=by omega
 have ds:¬(400:Int)<=f:=by have:=T.out;omega
 have dt:f<400:=by have:=T.out;omega
 clear hd hi hp ho K I hq a9 ah hf hpc a4 a5 a6 a7 a8 hdo
 go_in
 obtain⟨o0,o1,o2,o3,o4,o5⟩:=H6.out
 go_wp2_with fail
 refine(ad.out _ ac.out).mono ?_
 rintro e w2 ⟨rfl,V⟩
 have ao:=z9 (bel ac.out V)
 obtain⟨o0,o1,o2,o3,o4,o5⟩:=H6.out.below V
 have bc:=z9 (H6.out.below V)
 have x2:=aB (U.out w2 ao.out) (i:=2) (u:=.slice (some (zA gk)) 8 8) rfl
 have xk:=b6.out w2 ao.out
 clear V ad H6 ac
 go_wp2_with fail
 have du:IntKind.i64.wrap (a-1)=a-1:=bG (by omega) (by omega)
 go_quiet (fail)
 generalize ap:World.drewN _ _=wq
 have M:Hid (zB w wq):=by rw[<-ap];exact aC ao.out _
 have bd:Hid (Six wq w.heap.size a b 2 p c (.slice ps ns cs)):=by rw[<-ap];exact bc.out
 clear ap o0 o1 o2 o3 o4 o5 x2 xk bc
 obtain⟨o0,o1,o2,o3,o4,o5⟩:=bd.out
 have x3:=aB (U.out wq M.out) (i:=3) (u:=.slice k f l) rfl
 have x0:=aB (U.out wq M.out) (i:=0) (u:=.slice pb nb cb) rfl
 have x1:=aB (U.out wq M.out) (i:=1) (u:=.slice m r t) rfl
 go_wp2_with fail
 go_region_held3 (fun W=>W.cell? (zA E)=some (.slice pb nb cb)/\W.cell? ⟨w.heap.size,3,none⟩=some (.string p)) (first | (go_keep;done) | (refine⟨aA N ?_,aA N ?_⟩<;>(go_split_ands;assumption))) (first
  | (go_at_call 93;refine(CC.out _ M.out.drew).mono ?_;rintro e w7 ⟨v7,rfl,X,N⟩;obtain⟨A,C,D,rfl⟩:∃p n c,v7=.slice p n c:=(by obtain⟨⟨p,c,e,_⟩,_⟩:=X;exact⟨_,_,_,e⟩);have aq:=z9 (bel M.out.drew N);have be:Hid (BookAt w7 (.slice A C D) (doB S ((a,b),2,p,c,s))/\In (Gn (News' F w w7) E gk (.slice k f l)) (.slice A C D)):=⟨X.1,(rU X).mono fun g hg=>⟨qF hg,fun e9=>(by have:=(j.out.lt g (j.out.wr g e9)).2;omega)⟩⟩;have bf:Hid (MksAt w7 (.slice m r t) (doM S ((a,b),2,p,c,s))/\In (Gn (News' F w w7) E gk (.slice k f l)) (.slice m r t)):=⟨(by rw[b4.out];exact j.out.marks.below aq.out),j.out.marksG.mono fun g hg=>⟨qH hg.1,hg.2⟩⟩;have b9:=z9 (bd.out.below (zJ N));clear X))
 all_goals
  obtain⟨bg,bh⟩:=nD (i:=a.toNat-1) (n:=b) j.out aq.out be.out.1 be.out.2 bf.out.1 bf.out.2
  have y:=j.out.below aq.out
  obtain⟨H,ar,bi⟩:=y.kn
  have au:E≠gk:=blk_ne y.blk ar (by decide)
  have bw:a.toNat-1<H.size:=by have J:=congrArg List.length bi;rw[jM,HI.out.klen] at J;have h8:H.toList.length=H.size:=(by simp);omega
  have Y:Hid (E<w.heap.size/\gk<w.heap.size):=⟨(j.out.lt _ (j.out.wr _ (qH rfl))).2,(j.out.lt _ (j.out.wr _ (qF (qH rfl)))).2⟩
  have y0:=aB y.blk (i:=0) (u:=.slice pb nb cb) rfl
  have g0:=aF y.blk (i:=0)
  have Z:=set_heap (i:=0) (v:=.slice A C D) y.blk
  have y1:=aB Z (i:=1) (u:=.slice m r t) rfl
  have g1:=aF Z (i:=1)
  have bj:=set_heap (i:=1) (v:=.slice m r t) Z
  have y2:=aB bj (i:=2) (u:=.slice (some (zA gk)) 8 8) rfl
  have av:((w7.setCell (zA E) (.slice A C D)).setCell ⟨E,1,none⟩ (.slice m r t)).heap[gk]? =some (.cells H 3 (0,0)):=by rw[set_block _ _ _ _ au.symm,set_block _ _ _ _ au.symm];exact ar
  have y4:=aB av (i:=a.toNat-1) (u:=H[a.toNat-1]) (yT bw)
  have g4:=aF av (i:=a.toNat-1)
  have aw:Hid (Six ((w7.setCell (zA E) (.slice A C D)).setCell ⟨E,1,none⟩ (.slice m r t)) w.heap.size a b 2 p c (.slice ps ns cs)):=cB b9.out (by rw[set_block _ _ _ _ (by have:=Y.out.1;simp;omega),set_block _ _ _ _ (by have:=Y.out.1;simp;omega)])
  have bk:Hid (Six (st3 w7 E gk (a.toNat-1) (.slice A C D) (.slice m r t) b) w.heap.size a b 2 p c (.slice ps ns cs)):=cB aw.out (by unfold st3;rw[set_block _ _ _ _ (by have:=Y.out.2;simp;omega)])
  obtain⟨r0,r1,_,_,_,_⟩:=aw.out
  have ax:=z9 bg
  have z:=z9 bh
  have cd:((w7.setCell (zA E) (.slice A C D)).setCell ⟨E,1,none⟩ (.slice m r t)).drew.cell? ⟨gk,a.toNat-1,none⟩=some H[a.toNat-1]:=y4
  have ce:((w7.setCell (zA E) (.slice A C D)).setCell ⟨E,1,none⟩ (.slice m r t)).drew.frozen? ⟨gk,a.toNat-1,none⟩=false:=g4
  have bl:w.heap.size≠gk:=by have:=Y.out.2;omega
  clear bg bh y ar bi Z bj av aw o0 o1 o2 o3 o4 o5 x0 x1 x3 N y4 g4
  go_wp2_with fail
  go_region_held3 (fun W=>W.cell? ⟨E,2,none⟩=some (.slice (some (zA gk)) 8 8)/\W.cell? (zW w)=some (zI a)/\W.cell? ⟨w.heap.size,1,none⟩=some (zI b)) (first | (refine⟨(bJ au).trans ?_,(bJ bl).trans ?_,(bJ bl).trans ?_⟩<;>(go_split_ands;assumption)) | (go_keep;done)) (fail)
  generalize P:World.setCell _ ⟨gk,a.toNat-1,none⟩ _=w8
  have hh:w8.heap=(st3 w7 E gk (a.toNat-1) (.slice A C D) (.slice m r t) b).heap:=by rw[<-P];rfl
  have Q:Hid (RefMem B w8 E gk (.slice A C D) (.slice m r t) (.slice k f l) ⟨doB S ((a,b),2,p,c,s),doM S ((a,b),2,p,c,s),S.known.set (a.toNat-1) b,S.ops⟩ (News' F w w7)):=ax.out.stay (fun g _=>by rw[hh]) (by rw[hh];exact qC _)
  have bm:Hid (Chg F w w8):=⟨by rw[<-P];exact z.out.os,by rw[<-P];exact z.out.tape,by rw[<-P];exact z.out.output,by rw[hh];exact z.out.size,fun g hg hf=>by rw[hh];exact z.out.block g hg hf⟩
  have cf:=z9 (cB bk.out (by rw[hh]))
  clear P hh ax z bk y0 g0 y1 g1 y2 cd ce r0 r1
  obtain⟨L,hL,bn,bo⟩:=Q.out.ops
  have ch:=z9 hL
  have ci:=z9 bo
  have bp:Hid (w8.ownsRow 0 97 6 (.slice k f l) f (flatO L)):=by have J:w8.ownsRow 0 97 6 (.slice k f l) S.ops.length (flatO L):=bn;rw[<-T.out] at J;exact J
  have ay:Hid (∀O,zB w8 (w8.alloc O).drew.drew):=fun O=>((qD _ w8).alloc (qC _) O).drew.drew
  have cj:Hid (∀O,(w8.alloc O).drew.drew.ownsRow 0 97 6 (.slice k f l) f (flatO L)):=fun O=>own_below bp.out (ay.out O)
  have bq:Hid (∀O,(w8.alloc O).drew.drew.heap[E]? =some (.cells #[.slice A C D,.slice m r t,.slice (some (zA gk)) 8 8,.slice k f l] 52)):=fun O=>(Q.out.below (ay.out O)).blk
  have q8:=fun O=>aB (bq.out O) (i:=3) (u:=.slice k f l) rfl
  have q7:∀O,(w8.alloc O).cell? ⟨E,3,none⟩=some (.slice k f l):=q8
  have ck:Hid (DtsAt w8 (.slice ps ns cs) s):=bI (b1.out w (qD _ _)) a3.out (bm.out.stay fun g hg=>⟨j.out.old g hg,fun e=>(j.out.lt g e).1 hg⟩)
  have bx:Hid (∀g,(Value.slice k f l).ownBlock=some g->g=E->False):=fun g hg e=>by
   obtain⟨_,de,hc⟩:=aL bp.out g hg
   exact blk_ne hc Q.out.blk (by decide) e
  have z3:=aB Q.out.blk (i:=3) (u:=.slice k f l) rfl
  obtain⟨o0,o1,o2,o3,o4,o5⟩:=cf.out
  clear hL bn bo
  go_wp2_with fail
  go_region_law (
   (refine eQ (by rfl) (.tmp 140) (.tmp 142) (by rfl) (.slice k f l) f L ((a,b),2,p,c,s) ps ns cs (by rfl) w8.heap.size (by rfl) (by omega) (cj.out _) (heap_alloc_new w8 _) ?_;intro v9 w9 hr9 hg9 hl9;obtain⟨p9,n9,c9,rfl,_⟩:=aG hr9;have R:=(eZ (bq.out _) hg9 (fun e=>bx.out E e rfl));have q9:=aB R (i:=3) (u:=.slice k f l) rfl;have dv:=aF R (i:=3);have br:=Hid.mk' hr9;have bs:=Hid.mk' hg9;have bt:=Hid.mk' hl9;clear hr9 hg9 hl9 R))
  all_goals
   have HP:Hid (RPost B w E S F ((a,b),2,p,c,s) (.returned (.tuple #[.bool true,zI 0])) (w9.setCell ⟨E,3,none⟩ (.slice p9 n9 c9))):=(oG (o:=((a,b),2,p,c,s)) (F1:=News' F w w7) (vb:=.slice A C D) (vm:=.slice m r t) (vo:=.slice k f l) (gk:=gk) (L:=L) HI.out bu.out bm.out (fun g hg=>hg.imp id And.left) (by have J:=Q.out;rw[<-b5.out] at J;exact J) ch.out ci.out (ay.out _) ck.out a3.out bs.out (by have J:=br.out;rw[T.out] at J;exact J) bt.out)
   clear br bs bt
   go_wp2_with fail
   go_ret2
   exact HP.out
end Xr
end Go.Proofs.YtjcemlmlfoilmaaGreatDoor
