import Derived.Test.YtjcemlmlfoilmaaGreatDoorJ11
set_option linter.unusedSimpArgs false
set_option linter.unusedVariables false
set_option maxRecDepth 100000
set_option maxHeartbeats 8000000
namespace Go.Proofs.YtjcemlmlfoilmaaGreatDoor
open Go.RowKit Cm Na Oz Oi Hm Ia Ic Idc Om Oa Ie
namespace Ih
open Oc Ib Ig
open La (bel)
structure SetSt (w:World) (m:Mem) (S:Dq) (G:Nat→Prop) (N:Nat) (a b t:Int) (p:ByteArray) (c:Int) (vs:Value) (s:List Dt) (k:Nat) (wr:World) (M':List Ent):Prop where
 mem:DocMem wr { m with M:=M' } S G
 chg:Chg (Wr m) w wr
 own:∀g,Wr { m with M:=M' } g→Wr m g∨w.heap.size≤g
 box:wr.heap[w.heap.size]? =some (.cells #[.int .i64 a,.int .i64 b,.int .i64 t,.string p,.int .i64 c,vs] 97)
 short:∀x ∈ M',x.2.2.length≤N+k
 jn:∀d q,d≠(a,b)→(q ∈ getJ M' d↔q ∈ getJ m.M d∨(d ∈ s.take k∧Dm.hasB S.known d.1 d.2=false∧q=p))
variable {k N:Nat}{s:List Dt}{x:Dt}{w wr:World}{m:Mem}{S:Dq}{G:Nat->Prop}{a b t c:Int}{p:ByteArray}{vs:Value}{M':List Ent}
theorem aK{W W':World}{o:Obj}(hb:zB W W')(h:W.heap[k]? =some o):W'.heap[k]? =some o:=by
 rw[hb.block k (qG.1 h).1];exact h
theorem SetSt.below{w:World}{m:Mem}{S:Dq}{G:Nat->Prop}{N:Nat}{a b t:Int}{p:ByteArray}{c:Int}{vs:Value}{s:List Dt}{k:Nat}{wr w2:World}{M':List Ent}(h:SetSt w m S G N a b t p c vs s k wr M')(hb:zB wr w2):SetSt w m S G N a b t p c vs s k w2 M':=
 ⟨h.mem.below hb,h.chg.trans (Chg.ofBelow hb _),h.own,aK hb h.box,h.short,h.jn⟩
theorem mB{d:Dt}(hk:k<s.length)(hx:x=s.getD k noneD):d ∈ s.take (k+1)↔d ∈ s.take k\/d=x:=by
 rw[jV,qB hk,jB,hx,qA,qB hk];simp
theorem SetSt.skip(h:SetSt w m S G N a b t p c vs s k wr M')(hk:k<s.length)(hx:x=s.getD k noneD)(hs:Dm.hasB S.known x.1 x.2=true\/isIn (getJ M' x) p=true):SetSt w m S G N a b t p c vs s (k+1) wr M':=by
 refine⟨h.mem,h.chg,h.own,h.box,fun y hy=>qO (h.short y hy) (by omega),fun d q hd=> ?_⟩;rw[h.jn d q hd,mB hk hx];constructor
 ·rintro(e | ⟨f,g⟩)
  ·exact qH e
  ·exact qF ⟨qH f,g⟩
 ·rintro(e | ⟨f | f,g,i⟩)
  ·exact qH e
  ·exact qF ⟨f,g,i⟩
  ·subst f;rcases hs with hs | hs
   ·rw[hs] at g;cases g
   ·rw[i];exact(h.jn d p hd).1 (oH.1 hs)
theorem SetSt.put{w2:World}{v':Value}(h:SetSt w m S G N a b t p c vs s k wr M')(hk:k<s.length)(hx:x=s.getD k noneD)(hs:Dm.hasB S.known x.1 x.2=false)(hm:MapAt w2 m.B (putM x v' (getJ M' x++[p]) M'))(hr:RowS w2 v' (getJ M' x++[p]))(hc:Chg (fun g=>g=m.B\/(getV M' x).ownBlock=some g) wr w2)(hv:∀g,v'.ownBlock=some g->(getV M' x).ownBlock=some g\/wr.heap.size<=g):
  SetSt w m S G N a b t p c vs s (k+1) w2 (putM x v' (getJ M' x++[p]) M'):=by
 obtain⟨C,D,E⟩:=aGm (m:={ m with M:=M' }) h.mem hm hr hc hv;have v:=h.chg.size
 have r:¬(w.heap.size=m.B\/(getV M' x).ownBlock=some w.heap.size):=by
  rintro(e | e)
  ·obtain⟨J,A,F,_⟩:=h.mem.map;have o:=F;rw[<-e,h.box] at o;cases o
  ·rcases get_mem x M' with⟨e0,_⟩ | ⟨z,v,e0,_⟩
   ·rw[e0] at e;cases e
   ·rw[<-e0] at e;obtain⟨_,I,i⟩:=aL (h.mem.rows z v) _ e;rw[h.box] at i;injection i with i
    injection i with _ i _
    exact absurd i (by decide)
 refine⟨C,h.chg.next D h.own,fun g hg=> ?_, ?_,fun y hy=> ?_,fun d q hd=> ?_⟩
 ·rcases E g hg with e | e
  ·exact h.own g e
  ·exact qF (by omega)
 ·rw[hc.block _ (qG.1 h.box).1 r];exact h.box
 ·rcases put_mem hy with rfl | hy
  ·have:=gY h.short x;simp only[qE,vV];omega
  ·exact qO (h.short y hy) (by omega)
 ·rw[aBe,mB hk hx];by_cases e:d=x
  ·rw[if_pos e,jB,qP,<-e,h.jn d q hd];rw[<-e] at hs;constructor
   ·rintro((f | ⟨f,l⟩) | f)
    ·exact qH f
    ·exact qF ⟨qH f,l⟩
    ·exact qF ⟨qF rfl,hs,f⟩
   ·rintro(f | ⟨_,_,H⟩)
    ·exact qH (qH f)
    ·exact qF H
  ·rw[if_neg e,h.jn d q hd];constructor
   ·rintro(f | ⟨f,l⟩)
    ·exact qH f
    ·exact qF ⟨qH f,l⟩
   ·rintro(f | ⟨f | f,l⟩)
    ·exact qH f
    ·exact qF ⟨f,l⟩
    ·exact absurd f e
theorem aBY(m:Mem)(S:Dq)(G:Nat->Prop)(N:Nat)(a b t:Int)(p:ByteArray)(c:Int)(vs:Value)(s:List Dt)(w:World)(h:DocMem w m S G)(hN:N+41<=1048576)(hsh:∀x ∈ m.M,x.2.2.length<=N)(hd:DtsAt w vs s)(hoff:In (fun g=>¬Wr m g) vs)(hs:s.length<=40):
  Calls Tryz.prog 106 #[.pointer (some ⟨m.D,0,none⟩),.agg #[.int .i64 a,.int .i64 b,.int .i64 t,.string p,.int .i64 c,vs]] w fun e w'=>e=.returned (.tuple #[])/\∃M',SetSt w m S G N a b t p c vs s s.length w' M':=by
 have d4:=aB h.blk (i:=4) (u:=.map (some m.B)) rfl
 have T:Hid (Below w.heap.size w (w.alloc (.cells #[.int .i64 a,.int .i64 b,.int .i64 t,.string p,.int .i64 c,vs] 97))):=(qD _ w).alloc (qC _) _
 have au:Hid (∀W,Below w.heap.size w W->MapAt W m.B m.M):=fun W hb=>MapAt.below h.map hb
 have ai:Hid (∀W w',Below w.heap.size w W->W.heap[w.heap.size]? =some (.cells #[.int .i64 a,.int .i64 b,.int .i64 t,.string p,.int .i64 c,vs] 97)->MapAt w' m.B (delM (a,b) m.M)->W.grownBy w' (some m.B)->SetSt w m S G N a b t p c vs s 0 w' (delM (a,b) m.M)):=by
  intro W w' hb hbx hm hg
  obtain⟨r1,r2,r3⟩:=aFO (h.below hb) hm hg
  have av:w.heap.size≠m.B:=fun e=>by have:=MapAt.lt h.map;omega
  refine⟨r1,(Chg.ofBelow hb _).trans (r2.mono fun g e=>qF (qH e)),fun g hgg=>qH (r3 g hgg), ?_,fun x hx=>hsh x ((aAh _ _).subset hx),fun d q hdd=> ?_⟩
  ·rw[hg.block _ (qG.1 hbx).1 (fun e=>av (by injection e))];exact hbx
  ·rw[aBF _ _ hdd];simp
 have bm:Hid (∀W,Chg (Wr m) w W->DtsAt W vs s):=fun W H=>bI hd (G:=fun g=>g<w.heap.size/\¬Wr m g) (fun x n cc e hn=>⟨by
   obtain⟨q,c2,hv,aj,_⟩:=hd
   rw[e] at hv
   injection hv with e1 e2 e3
   rcases aj with e0 | ⟨bb,oo,hp,ak⟩
   ·rw[e0] at e2;simp at e2;omega
   ·rw[hp] at e1;injection e1 with e1;rw[e1];exact(ak 0 (by omega)).lt,hoff x n cc e hn⟩) (H.stay fun g hg=>hg)
 obtain⟨D,hD⟩:=zx m.D
 obtain⟨B,hB⟩:=zx m.B
 have HD:=z9 hD
 have al:=z9 hB
 obtain⟨pv,J,cv,L⟩:∃p n c,vs=.slice p n c:=by obtain⟨p,c,e,_⟩:=hd;exact⟨_,_,_,e⟩
 have ax:Hid (s.length=J):=by obtain⟨p,c,e,_⟩:=hd;rw[L] at e;injection e with _ e _;exact e.symm
 rw[<-hB,<-hD] at d4
 rw[<-hB] at au ai
 rw[<-hD]
 rw[L] at bm
 have e4:=aA T.out d4
 obtain⟨o0,o1,o2,o3,o4,o5⟩:=aT w a b t p c vs 97
 have ay:Hid ((w.alloc (.cells #[.int .i64 a,.int .i64 b,.int .i64 t,.string p,.int .i64 c,vs] 97)).heap[w.heap.size]? =some (.cells #[.int .i64 a,.int .i64 b,.int .i64 t,.string p,.int .i64 c,vs] 97)):=heap_alloc_new w _
 have HS:=z9 hs
 have HN:=z9 hN
 have c6:J<=40:=by rw[<-ax.out];exact hs
 have cq:(J:Int)<=40:=by omega
 have c7:=z9 L
 rw[L] at o0 o1 o2 o3 o4 o5 ay T e4 ai
 rw[L]
 clear h hsh hd hoff hs hD hB L hN d4
 go_in
 go_wp2_with fail
 go_region_law (first
  | (refine step_drop (by rfl) (.tmp 9) (.tmp 11) (by rfl) (by rfl) (au.out _ T.out.drew) a b (by rfl) ?_;intro w2 hm2 hg2;have az:Hid (SetSt w m S G N a b t p c (.slice pv J cv) s 0 w2 (delM (a,b) m.M)):=ai.out _ w2 T.out.drew ay.out hm2 hg2;have q5:=aB az.out.box (i:=5) (u:=.slice pv J cv) rfl))
 all_goals
  clear hm2 hg2 o0 o1 o2 o3 o4 o5 e4
  go_wp2_with fail
  clear au ai T ay q5
  go_loopw [15] (fun vi wr=>∃(k:Nat) (M':List Ent),k<=J/\vi=.int .i64 k/\Hid (SetSt w m S G N a b t p c (.slice pv J cv) s k wr M')) (fun vi _=>J-(intOf vi).toNat)
  case atStart=>exact⟨0,_,by omega,rfl,az⟩
  case round=>
   clear az
   obtain⟨k,M',hk,rfl,y⟩:=hrel
   by_cases ce:k<J
   ·have bt:(k:Int)<J:=by omega
    have U:k<s.length:=by rw[ax.out];exact ce
    obtain⟨qd,cd,cf,aj,_⟩:=bm.out wr y.out.chg
    injection cf with v1 v2 v3
    subst v1
    clear v2 v3
    obtain⟨bs,os,rfl,ak⟩:=aj.some (by intro e;rw[e] at U;simp at U)
    obtain⟨x,hx⟩:=zx (s.getD k noneD)
    obtain⟨u1,u2⟩:=ak k U
    rw[<-hx] at u1 u2
    have HX:=z9 hx
    have am:=z9 U
    obtain⟨l,r⟩:=x
    simp only at u1 u2
    have C:Hid (Below wr.heap.size wr (wr.alloc (.cells #[.int .i64 l,.int .i64 r] 80))):=(qD _ wr).alloc (qC _) _
    have V:Hid (∀W,Below wr.heap.size wr W->Calls Tryz.prog 132 #[.pointer (some ⟨D,0,none⟩),.agg #[.int .i64 l,.int .i64 r]] W fun e w'=>e=.returned (.bool (Dm.hasB S.known l r))/\Below W.heap.size W w'):=fun W hb=>by
     rw[HD.out];exact fN { m with M:=M' } S G l r W (y.out.mem.below hb)
    have cg:MapAt wr B M':=by rw[al.out];exact y.out.mem.map
    obtain⟨es,E,a1,ad⟩:=cg
    have an:∀W,W.heap[B]? =some (.map es E)->(Instr.lookup 91 (.map (some B)) (.agg #[.int .i64 l,.int .i64 r]) false).run Tryz.prog W=.ok (getV M' (l,r)) W:=fun W hW=>nA ⟨es,E,hW,ad⟩ l r
    have O:=wX y.out.mem.rows (l,r)
    have X:Hid (∀W,Below wr.heap.size wr W->Calls Tryz.prog 135 #[getV M' (l,r),.string p] W fun e w'=>e=.returned (.bool (isIn (getJ M' (l,r)) p))/\w'=W):=fun W hb=>
     cN _ _ p W (RowS.below O hb) (qO (gY y.out.short (l,r)) (by have:=HN.out;omega))
    have ae:=z9 O
    have a2:Hid (MapAt wr B M'):=⟨es,E,a1,ad⟩
    obtain⟨pr,cr,ao,_⟩:=oJ O
    obtain⟨nr,bn⟩:=zx ((getJ M' (l,r)).length)
    rw[<-bn] at ao
    have ap:=z9 ao
    rw[ao] at an X
    have y0:=aA C.out (aB y.out.mem.blk (i:=4) (u:=.map (some m.B)) rfl)
    rw[show({ m with M:=M' }:Mem).D=D from HD.out.symm,<-al.out] at y0
    have y3:=aA C.out (aB y.out.box (i:=3) (u:=.string p) rfl)
    have y5:=aK C.out a1
    obtain⟨P,Q⟩:=Nj.eS (x:=(l,r)) (qD _ (wr.alloc (.cells #[.int .i64 l,.int .i64 r] 80)))
    simp only at P Q
    clear ak hx U aj a1 ad O ao bn
    cases hhas:Dm.hasB S.known l r
    ·rw[hhas] at V
     have ag:=z9 hhas
     clear hhas
     cases hisin:isIn (getJ M' (l,r)) p
     ·rw[hisin] at X
      clear hisin
      go_wp2_with fail
      go_region_held3 (fun W=>W.cell? ⟨wr.heap.size,0,none⟩=some (.int .i64 l)/\W.cell? ⟨wr.heap.size,1,none⟩=some (.int .i64 r)/\W.cell? ⟨D,4,none⟩=some (.map (some B))/\W.cell? ⟨w.heap.size,3,none⟩=some (.string p)/\W.heap[B]? =some (.map es E)) (first | exact⟨P,Q,y0,y3,y5⟩ | (go_split_ands;assumption) | (refine⟨aA j ?_,aA j ?_,aA j ?_,aA j ?_,aK j ?_⟩<;>(go_split_ands;assumption))) (first
       | (go_at_call 132;refine(V.out _ C.out.drew).mono ?_;rintro e w7 ⟨rfl,j⟩;have F:=z9 (bel C.out.drew j))
       | (go_at_call 135;refine(X.out _ F.out).mono ?_;rintro e w8 ⟨rfl,hw⟩;subst w8))
      all_goals
       have i0:=aA (p:=⟨wr.heap.size,0,none⟩) j P
       have i1:=aA (p:=⟨wr.heap.size,1,none⟩) j Q
       have i3:=aA (p:=⟨w.heap.size,3,none⟩) j y3
       have i4:=aA (p:=⟨D,4,none⟩) j y0
       have Y:Below w7.heap.size w7 (w7.alloc (.cells #[.string p] 9)):=(qD _ w7).alloc (qC _) _
       have j0:=aA Y i0
       have j1:=aA Y i1
       have j3:=aA Y i3
       have j4:=aA Y i4
       clear Y
       have Z:Hid (Below wr.heap.size wr ((w7.alloc (.cells #[.string p] 9)).drew)):=(F.out.alloc F.out.size _).drew
       obtain⟨st,w5,ch,a7,aq⟩:=aEG (MapAt.below a2.out Z.out) l r
       have I:=z9 a7
       have bo:=z9 aq
       rw[ap.out] at ch
       have ci:Hid (w5.cell? ⟨w7.heap.size,0,none⟩=some (.string p)):=by
        have h9:((w7.alloc (.cells #[.string p] 9)).drew).heap[w7.heap.size]? =some (.cells #[.string p] 9):=heap_alloc_new w7 _
        exact aB ((aq.block _ (qG.1 h9).1 (fun e=>by have:=MapAt.lt a2.out;have:=F.out.size;injection e with e;omega)).trans h9) rfl
       have a8:Hid (RowS w5 (.slice pr nr cr) (getJ M' (l,r))):=by
        unfold Hid
        rw[<-ap.out]
        refine aP (RowS.below ae.out Z.out) fun g hg=>aq.block g (aL (RowS.below ae.out Z.out) g hg).1 fun e=> ?_
        injection e with e
        obtain⟨_,a9,H⟩:=aL ae.out g hg
        obtain⟨aa,z,A,_⟩:=a2.out
        rw[e,A] at H;cases H
       clear a7 aq an P Q y0 y3 y5 j V X u1 u2
       go_wp2_with fail
       go_region_law (first
        | (refine aEk (by rfl) (.tmp 40) (.tmp 43) (by rfl) (.slice pr nr cr) (getJ M' (l,r)) p (by rfl) w7.heap.size (by rfl) (by have:=gY y.out.short (l,r);have:=HN.out;have:=am.out;have:=HS.out;omega) a8.out ci.out ?_;intro v9 w9 hr9 hg9 hl9;obtain⟨p9,n9,c9,rfl,_⟩:=aG hr9;have ba:=z9 hr9;have bp:=z9 hg9;have cj:=z9 hl9;obtain⟨w10,ck,bc,bd⟩:=aEM (wE.stay I.out (hg9.block B (by obtain⟨aa,z,i9,u9,A,_⟩:=I.out;exact(qG.1 A).1) (fun e=>by obtain⟨aa,z,i9,u9,A,_⟩:=I.out;obtain⟨_,a9,H⟩:=aL a8.out B e.symm;rw[A] at H;cases H))) (.slice p9 n9 c9) (getJ M' (l,r)++[p]);have bz:=z9 bc;have be:=z9 bd;clear hr9 hg9 hl9 bc bd))
       all_goals
        have b0:Hid (SetSt w m S G N a b t p c (.slice (some ⟨bs,os,none⟩) J cv) s (k+1) w10 (putM (l,r) (.slice p9 n9 c9) (getJ M' (l,r)++[p]) M')):=by
         have av:∀g,(Value.slice p9 n9 c9).ownBlock=some g->g≠B:=fun g hg e=>by
          obtain⟨_,a9,H⟩:=aL ba.out g hg
          have h9:=bp.out.block B (by obtain⟨aa,z,i9,u9,A,_⟩:=I.out;exact(qG.1 A).1) (fun e=>by obtain⟨aa,z,i9,u9,A,_⟩:=I.out;obtain⟨_,a9,H⟩:=aL a8.out B e.symm;rw[A] at H;cases H)
          obtain⟨aa,z,i9,u9,A,_⟩:=I.out
          rw[e,h9,A] at H;cases H
         refine SetSt.put y.out am.out HX.out ag.out ?_ ?_ ?_ ?_
         ·have:=bz.out
          rw[aDu,al.out] at this;exact this
         ·exact aP ba.out fun g hg=>be.out.block g (aL ba.out g hg).1 fun e=>av g hg (by injection e)
         ·rw[ap.out,<-al.out]
          have c1:Chg (fun g=>g=B\/(Value.slice pr nr cr).ownBlock=some g) wr w5:=(Chg.ofBelow Z.out _).trans (Chg.grown bo.out fun g e=>qH (by injection e with e;exact e.symm))
          have c2:Chg (fun g=>g=B\/(Value.slice pr nr cr).ownBlock=some g) w5 w9:=Chg.grown bp.out fun g e=>qF e
          have c3:Chg (fun g=>g=B\/(Value.slice pr nr cr).ownBlock=some g) w9 w10:=Chg.grown be.out fun g e=>qH (by injection e with e;exact e.symm)
          exact(c1.trans c2).trans c3
         ·intro g hg
          rw[ap.out]
          rcases cj.out with e | e
          ·exact qH (by rw[<-e];exact hg)
          ·rw[hg] at e
           injection e with e
           have q1:=bo.out.size
           have q2:=Z.out.size
           exact qF (by omega)
        clear ck
        go_wp2_with fail
        go_roundw
        case rel=>exact⟨k+1,_,by omega,by go_num,b0⟩
        case measure=>simp[intOf];omega
     ·have cl:=z9 hisin
      rw[hisin] at X
      clear hisin
      go_wp2_with fail
      go_region_held3 (fun W=>W.cell? ⟨wr.heap.size,0,none⟩=some (.int .i64 l)/\W.cell? ⟨wr.heap.size,1,none⟩=some (.int .i64 r)/\W.cell? ⟨D,4,none⟩=some (.map (some B))/\W.cell? ⟨w.heap.size,3,none⟩=some (.string p)/\W.heap[B]? =some (.map es E)) (first | exact⟨P,Q,y0,y3,y5⟩ | (go_split_ands;assumption) | (refine⟨aA j ?_,aA j ?_,aA j ?_,aA j ?_,aK j ?_⟩<;>(go_split_ands;assumption))) (first
       | (go_at_call 132;refine(V.out _ C.out.drew).mono ?_;rintro e w7 ⟨rfl,j⟩;have F:=z9 (bel C.out.drew j))
       | (go_at_call 135;refine(X.out _ F.out).mono ?_;rintro e w8 ⟨rfl,hw⟩;subst w8))
      all_goals
       have bf:=z9 (SetSt.skip (y.out.below F.out) am.out HX.out (qF cl.out))
       clear j V X an P Q y0 y3 y5
       go_wp2_with fail
       go_roundw
       case rel=>exact⟨k+1,_,by omega,by go_num,bf⟩
       case measure=>simp[intOf];omega
    ·have ag:=z9 hhas
     rw[hhas] at V
     clear hhas
     go_wp2_with fail
     refine wp_region_held_drew (S:=fun W=>W.cell? ⟨wr.heap.size,0,none⟩=some (.int .i64 l)/\W.cell? ⟨wr.heap.size,1,none⟩=some (.int .i64 r)) (by kernel_rfl) ⟨P,Q⟩ (fun hS0=> ?_)
     refine wpAnyH_take (i:=0) (oi:={ dst:=some 19,op:=Op.move (Operand.tmp 0),type:=43,pos:= "doc.go:137",after:=#[],guard:=none }) (v:=.pointer (some ⟨D,0,none⟩)) rfl (by kernel_rfl) (by kernel_rfl) (by kernel_rfl) (fun _ _ _ h=>h) (qH ⟨by rfl,by(intro W hW;obtain⟨g0,g1⟩:=hW;go_simp)⟩) hS0 ?_
     try simp only[Act.put,qL,qZ,qU]
     refine wpAnyH_take (i:=1) (oi:={ dst:=some 20,op:=Op.load 80 (Operand.tmp 5),type:=80,pos:= "doc.go:137",after:=#[],guard:=none }) (v:=.agg #[.int .i64 l,.int .i64 r]) rfl (by kernel_rfl) (by kernel_rfl) (by kernel_rfl) (fun _ _ _ h=>h) (qH ⟨by rfl,by(intro W hW;obtain⟨g0,g1⟩:=hW;go_simp)⟩) hS0 ?_
     try simp only[Act.put,qL,qZ,qU]
     refine wpAnyH_ready (rs:=[2]) (by kernel_rfl) (by simp) ?_
     refine AllReadyH.cons (o:={ dst:=some 21,op:=Op.call { callee:=Callee.value (Operand.func 132),args:=#[Operand.tmp 19,Operand.tmp 20],argTypes:=#[43,80] },type:=4,pos:= "doc.go:137",after:=#[{ on:=0,ground:=Ground.data },{ on:=1,ground:=Ground.data }],guard:=none }) rfl (fun K hK=> ?_) AllReadyH.nil
     refine mN (R:=fun v w'=>v=.bool true/\Below ((wr.alloc (.cells #[.int .i64 l,.int .i64 r] 80)).drew).heap.size ((wr.alloc (.cells #[.int .i64 l,.int .i64 r] 80)).drew) w') rfl 132 (.tmp 19) (.tmp 20) _ _ rfl (.pointer (some ⟨D,0,none⟩)) (.agg #[.int .i64 l,.int .i64 r]) rfl rfl aAD ((V.out _ C.out.drew).mono fun e w' h9=>⟨_,h9.1,rfl,h9.2⟩) ?_
     rintro v7 w7 ⟨rfl,j⟩
     have F:=z9 (bel C.out.drew j)
     refine hK _ _ ⟨aA j P,aA j Q⟩ (fun hS1=> ?_)
     try simp only[Act.put,qL,qZ,qU]
     refine wpAnyH_take (i:=3) (oi:={ dst:=some 22,op:=Op.unOp UnOp.not 4 (Operand.tmp 21),type:=4,pos:= "doc.go:137",after:=#[{ on:=2,ground:=Ground.data }],guard:=none }) (v:=.bool false) rfl (by kernel_rfl) (by kernel_rfl) (by kernel_rfl) (fun _ _ _ h=>h) (qH ⟨by rfl,by(intro W hW;obtain⟨g0,g1⟩:=hW;go_simp)⟩) hS1 ?_
     try simp only[Act.put,qL,qZ,qU]
     refine wpAnyH_take (i:=4) (oi:={ dst:=some 23,op:=Op.move (Operand.tmp 22),type:=4,pos:= "doc.go:137",after:=#[{ on:=3,ground:=Ground.data },{ on:=2,ground:=Ground.chain }],guard:=none }) (v:=.bool false) rfl (by kernel_rfl) (by kernel_rfl) (by kernel_rfl) (fun _ _ _ h=>h) (qH ⟨by rfl,by(intro W hW;obtain⟨g0,g1⟩:=hW;go_simp)⟩) hS1 ?_
     try simp only[Act.put,qL,qZ,qU]
     refine wpAnyH_take (i:=5) (oi:={ dst:=some 24,op:=Op.move (Operand.tmp 0),type:=43,pos:= "doc.go:137",after:=#[{ on:=4,ground:=Ground.guard }],guard:=some (4,true) }) (v:=undef) rfl (by kernel_rfl) (by kernel_rfl) (by kernel_rfl) (fun _ _ _ h=>h) (qF ⟨by rfl,rfl⟩) hS1 ?_
     try simp only[Act.put,qL,qZ,qU]
     refine wpAnyH_take (i:=6) (oi:={ dst:=some 25,op:=Op.nilCheck (Operand.tmp 24),type:=0,pos:= "doc.go:137",after:=#[{ on:=5,ground:=Ground.data },{ on:=4,ground:=Ground.guard }],guard:=some (4,true) }) (v:=undef) rfl (by kernel_rfl) (by kernel_rfl) (by kernel_rfl) (fun _ _ _ h=>h) (qF ⟨by rfl,rfl⟩) hS1 ?_
     try simp only[Act.put,qL,qZ,qU]
     refine wpAnyH_take (i:=7) (oi:={ dst:=some 26,op:=Op.fieldAddr 93 (Operand.tmp 25) 2,type:=0,pos:= "doc.go:137",after:=#[{ on:=6,ground:=Ground.data },{ on:=4,ground:=Ground.guard }],guard:=some (4,true) }) (v:=undef) rfl (by kernel_rfl) (by kernel_rfl) (by kernel_rfl) (fun _ _ _ h=>h) (qF ⟨by rfl,rfl⟩) hS1 ?_
     try simp only[Act.put,qL,qZ,qU]
     refine wpAnyH_take (i:=8) (oi:={ dst:=some 27,op:=Op.load 91 (Operand.tmp 26),type:=91,pos:= "doc.go:137",after:=#[{ on:=7,ground:=Ground.data },{ on:=4,ground:=Ground.guard }],guard:=some (4,true) }) (v:=undef) rfl (by kernel_rfl) (by kernel_rfl) (by kernel_rfl) (fun _ _ _ h=>h) (qF ⟨by rfl,rfl⟩) hS1 ?_
     try simp only[Act.put,qL,qZ,qU]
     refine wpAnyH_take (i:=9) (oi:={ dst:=some 28,op:=Op.load 80 (Operand.tmp 5),type:=80,pos:= "doc.go:137",after:=#[{ on:=4,ground:=Ground.guard }],guard:=some (4,true) }) (v:=undef) rfl (by kernel_rfl) (by kernel_rfl) (by kernel_rfl) (fun _ _ _ h=>h) (qF ⟨by rfl,rfl⟩) hS1 ?_
     try simp only[Act.put,qL,qZ,qU]
     refine wpAnyH_take (i:=10) (oi:={ dst:=some 29,op:=Op.lookup 91 (Operand.tmp 27) (Operand.tmp 28) false,type:=194,pos:= "doc.go:137",after:=#[{ on:=8,ground:=Ground.data },{ on:=9,ground:=Ground.data },{ on:=4,ground:=Ground.guard }],guard:=some (4,true) }) (v:=undef) rfl (by kernel_rfl) (by kernel_rfl) (by kernel_rfl) (fun _ _ _ h=>h) (qF ⟨by rfl,rfl⟩) hS1 ?_
     try simp only[Act.put,qL,qZ,qU]
     refine wpAnyH_take (i:=11) (oi:={ dst:=some 30,op:=Op.fieldAddr 97 (Operand.tmp 3) 2,type:=0,pos:= "doc.go:137",after:=#[{ on:=4,ground:=Ground.guard }],guard:=some (4,true) }) (v:=undef) rfl (by kernel_rfl) (by kernel_rfl) (by kernel_rfl) (fun _ _ _ h=>h) (qF ⟨by rfl,rfl⟩) hS1 ?_
     try simp only[Act.put,qL,qZ,qU]
     refine wpAnyH_take (i:=12) (oi:={ dst:=some 31,op:=Op.load 9 (Operand.tmp 30),type:=9,pos:= "doc.go:137",after:=#[{ on:=11,ground:=Ground.data },{ on:=4,ground:=Ground.guard }],guard:=some (4,true) }) (v:=undef) rfl (by kernel_rfl) (by kernel_rfl) (by kernel_rfl) (fun _ _ _ h=>h) (qF ⟨by rfl,rfl⟩) hS1 ?_
     try simp only[Act.put,qL,qZ,qU]
     refine wpAnyH_take (i:=13) (oi:={ dst:=some 32,op:=Op.call { callee:=Callee.value (Operand.func 135),args:=#[Operand.tmp 29,Operand.tmp 31],argTypes:=#[194,9] },type:=4,pos:= "doc.go:137",after:=#[{ on:=10,ground:=Ground.data },{ on:=12,ground:=Ground.data },{ on:=4,ground:=Ground.chain },{ on:=4,ground:=Ground.guard }],guard:=some (4,true) }) (v:=undef) rfl (by kernel_rfl) (by kernel_rfl) (by kernel_rfl) (fun _ _ _ h=>h) (qF ⟨by rfl,rfl⟩) hS1 ?_
     try simp only[Act.put,qL,qZ,qU]
     refine wpAnyH_take (i:=14) (oi:={ dst:=some 33,op:=Op.unOp UnOp.not 4 (Operand.tmp 32),type:=4,pos:= "doc.go:137",after:=#[{ on:=13,ground:=Ground.data },{ on:=4,ground:=Ground.guard }],guard:=some (4,true) }) (v:=undef) rfl (by kernel_rfl) (by kernel_rfl) (by kernel_rfl) (fun _ _ _ h=>h) (qF ⟨by rfl,rfl⟩) hS1 ?_
     try simp only[Act.put,qL,qZ,qU]
     refine wpAnyH_take (i:=15) (oi:={ dst:=some 34,op:=Op.pick (Operand.tmp 23) (Operand.tmp 33) (Operand.const (Value.bool false)),type:=4,pos:= "doc.go:137",after:=#[{ on:=4,ground:=Ground.data },{ on:=14,ground:=Ground.data }],guard:=none }) (v:=.bool false) rfl (by kernel_rfl) (by kernel_rfl) (by kernel_rfl) (fun _ _ _ h=>h) (qH ⟨by rfl,by(intro W hW;obtain⟨g0,g1⟩:=hW;go_simp)⟩) hS1 ?_
     try simp only[Act.put,qL,qZ,qU]
     refine wpAnyH_done (by kernel_rfl) ?_ _
     all_goals
      have bf:=z9 (SetSt.skip (y.out.below F.out) am.out HX.out (qH ag.out))
      clear j V X an P Q y0 y3 y5
      go_wp2_with fail
      go_roundw
      case rel=>exact⟨k+1,_,by omega,by go_num,bf⟩
      case measure=>simp[intOf];omega
   ·obtain rfl:k=J:=by omega
    have bt:¬(k:Int)<k:=by omega
    go_wp2_with fail
    go_end0
    exact⟨rfl,M',by rw[ax.out];exact y.out⟩
end Ih
namespace Ii
open La (iR)
variable {S:Dq}{a b:Int}{w:World}{m:Mem}{G:Nat->Prop}{o:Ox}
theorem zF(I:Inv S):Dm.vecE S.known=0:=by
 refine Dm.fO.2 ⟨I.klen,fun x hx=> ?_⟩;obtain⟨i,c,e⟩:=yA.1 hx;have f:i<8:=by rw[<-I.klen];exact c
 have a:=I.kno ((i:Int)+1) (by omega) (by omega);unfold kn at a;rw[show((i:Int)+1-1).toNat=i by omega,qA,qB c] at a;simp only[xT] at a;rw[e] at a;have g:=vQ (fun o:Ox=>decide (o.1.1=(i:Int)+1)) S.ops;have h:=I.few;omega
theorem has_eq(I:Inv S)(hd:dotE a b=0):Dm.hasB S.known a b=decide (b<=kn S a):=by
 have c:Dm.withE S.known a b=0:=by unfold Dm.withE;rw[if_pos (zF I)];exact hd
 unfold Dm.hasB;rw[c,decide_eq_true rfl,yY];rfl
theorem add_eq(I:Inv S)(hd:dotE a b=0)(hk:¬b<=kn S a):Dm.oZ S.known a b=if kn S a+1<b then 6 else 0:=by
 have c:Dm.withE S.known a b=0:=by unfold Dm.withE;rw[if_pos (zF I)];exact hd
 unfold Dm.oZ;rw[c,if_neg (by decide),if_neg (show¬b<=Dm.known S.known a from hk)];rfl
theorem aET{vk:Value}{l:List Int}(h:DocMem w m S G)(h1:KnAt w vk l)(i1:In G vk):
  DocMem (w.setCell ⟨m.D,2,none⟩ vk) { m with vk:=vk } { S with known:=l } G/\Chg (fun g=>g=m.D) w (w.setCell ⟨m.D,2,none⟩ vk):=by
 have b:∀g,g≠m.D->(w.setCell ⟨m.D,2,none⟩ vk).heap[g]? =w.heap[g]? :=fun g hg=>set_block _ _ _ _ hg
 have d:Stay G w (w.setCell ⟨m.D,2,none⟩ vk):=fun g hg=>b g (fun e=>h.off g hg (qH e))
 have f:∀g a t,w.heap[g]? =some (.cells a t (0,0))->t≠93->g≠m.D:=fun g a t hg ht e=>by
  rw[e,h.blk] at hg;injection hg with hg
  injection hg with _ hg _
  exact ht hg.symm
 obtain⟨L,q,n,j⟩:=h.ops;refine⟨⟨?_,cR h.book h.bookG d,h.bookG,cI h.marks h.marksG d,h.marksG,cW h1 i1 d,i1,⟨L,q,aP n (fun g hg=> ?_),fun y hy=>⟨bI (j y hy).1 (j y hy).2 d,(j y hy).2⟩⟩,MapAt.stay h.map (b _ ?_),fun x hx=>aP (h.rows x hx) (fun g hg=> ?_),h.apart,fun g hg=>by rw[set_size];exact h.lt g hg,h.off⟩, ?_⟩
 ·rw[set_heap h.blk];rfl
 ·obtain⟨_,a,k⟩:=aL n g hg;exact b g (f g a _ k (by decide))
 ·intro e;obtain⟨s,o,i,_⟩:=h.map;rw[e,h.blk] at i;cases i
 ·obtain⟨_,a,k⟩:=aL (h.rows x hx) g hg;exact b g (f g a _ k (by decide))
 ·exact(Chg.refl (fun g=>g=m.D) w).setCell (p:=⟨m.D,2,none⟩) rfl _
theorem jI:(Tryz.prog.info? 97).map (fun i=>(i.zero,i.size,i.bytes))=some (some (.agg #[.int .i64 0,.int .i64 0,.int .i64 0,.string ⟨#[]⟩,.int .i64 0,.slice none 0 0]),6,72):=by kernel_rfl
theorem eQ{ops:Array Oper}{o:Oper}{a:Act}{W:World}{K:Act->World->Prop}{Q:Exit->Act->World->Prop}{E:Prop}(hgd:o.guard=none)(sO xO:Operand)(ho:o.op=.call { callee:=.builtin .append,args:=#[sO,xO],argTypes:=#[50,50] })(v:Value)(n:Nat)(L:List (Ox × Value))(x:Ox)(px:Option Addr)(nx cx:Nat)(hs:a.eval sO=v)(h0:Nat)(hx:a.eval xO=.slice (some ⟨h0,0,none⟩) 1 1)(hlen:n+1<=1048576)(hown:W.ownsRow 0 97 6 v n (flatO L))(hc0:W.heap[h0]? =some (.cells #[.int .i64 x.1.1,.int .i64 x.1.2,.int .i64 x.2.1,.string x.2.2.1,.int .i64 x.2.2.2.1,.slice px nx cx] 97))(h:∀v' w',w'.ownsRow 0 97 6 v' (n+1) (flatO (L++[(x,.slice px nx cx)]))->W.grownBy w' v.ownBlock->(v'.ownBlock=v.ownBlock\/v'.ownBlock=some W.heap.size)->K (a.put o.dst v') w'):
  if Region.wanted o (yielded ops a.tmps)=true then Oper.wp Tryz.prog o a W K Q else E:=by
 have f:Region.wanted o (yielded ops a.tmps)=true:=by simp[Region.wanted,hgd]
 rw[if_pos f];obtain⟨g,i,b,c,d⟩:=info_parts jI;have e:flatO [(x,Value.slice px nx cx)]=[zI x.1.1,zI x.1.2,zI x.2.1,.string x.2.2.1,zI x.2.2.2.1,.slice px nx cx]:=rfl
 obtain⟨v',w',k,l,m,_,p⟩:=run_append_own_at (P:=Tryz.prog) W 0 50 o.type 97 g (.agg #[zI 0,zI 0,zI 0,.string ⟨#[]⟩,zI 0,zS]) 6 72 Tryz.underlying50 i b c d rfl (by decide) v n (flatO L) hown (zA h0) 1 1 (flatO [(x,.slice px nx cx)]) rfl (by
  intro j u hu;rw[jU,qY];rw[e] at hu;exact aB hc0 (by simpa using hu)) (by
  intro u hu;rw[e] at hu;simp only[jD,vO,or_false] at hu;rcases hu with rfl | rfl | rfl | rfl | rfl | rfl<;>rfl) (by unfold maxLen;omega) (by omega) (jW _)
 unfold Oper.wp execOp;simp only[ho,resolve,invoke,builtin,jZ,vB,vU,xN,jY,vM,hs,hx,k];refine h v' w' ?_ m p;rw[eH];exact l
theorem aHF{w1 w2:World}{v9 vs':Value}{L:List (Ox × Value)}(h:DocMem w m S G)(hL:L.map (·.1)=S.ops)(hLd:∀y ∈ L,DtsAt w y.2 y.1.2.2.2.2/\In G y.2)(hb:zB w w1)(hn:w1.ownsRow w.heap.size 80 2 vs' o.2.2.2.2.length (flatD o.2.2.2.2))(hg:w1.grownBy w2 m.vo.ownBlock)(hr:w2.ownsRow 0 97 6 v9 (S.ops.length+1) (flatO (L++[(o,vs')])))(hl:v9.ownBlock=m.vo.ownBlock\/v9.ownBlock=some w1.heap.size):
  DocMem (w2.setCell ⟨m.D,3,none⟩ v9) { m with vo:=v9 } { S with ops:=S.ops++[o] } (fun g=>G g\/vs'.ownBlock=some g)/\Chg (Wr m) w (w2.setCell ⟨m.D,3,none⟩ v9)/\∀g,Wr { m with vo:=v9 } g->Wr m g\/w.heap.size<=g:=by
 have f:=h.below hb;obtain⟨V,X,Q,Y⟩:=f.ops;have v:∀g,m.vo.ownBlock=some g->∃d,w1.heap[g]? =some (.cells d 97 (0,0)):=fun g hgg=>(aL Q g hgg).2
 have l:w1.heap[m.D]? =some (.cells #[m.vb,m.vm,m.vk,m.vo,.map (some m.B)] 93):=f.blk
 have H:∀g,m.vo.ownBlock=some g->g≠m.D:=fun g hgg e=>by
  obtain⟨d,i⟩:=v g hgg;rw[e,l] at i;injection i with i
  injection i with _ i _
  exact absurd i (by decide)
 have q:∀g,g<w1.heap.size->g≠m.D->m.vo.ownBlock≠some g->(w2.setCell ⟨m.D,3,none⟩ v9).heap[g]? =w1.heap[g]? :=fun g hgl hne hnv=>by
  rw[set_block _ _ _ _ hne];exact hg.block g hgl (fun e=>hnv e.symm)
 have F:w2.heap[m.D]? =some (.cells #[m.vb,m.vm,m.vk,m.vo,.map (some m.B)] 93):=by
  rw[hg.block _ (qG.1 l).1 (fun e=>H m.D e.symm rfl)];exact l
 have N:∀g,Wr m g->g<w.heap.size:=h.sX;have A:Stay G w1 (w2.setCell ⟨m.D,3,none⟩ v9):=fun g hgg=>q g (f.lt g hgg) (fun e=>h.off g hgg (qH e)) (fun e=>h.off g hgg (qF (qF (qH e))))
 have z:∀g,vs'.ownBlock=some g->w.heap.size<=g/\g<w1.heap.size/\∃d,w1.heap[g]? =some (.cells d 80 (0,0)):=fun g hgg=>⟨iR hn g hgg,aL hn g hgg⟩
 have I:∀g,Wr { m with vo:=v9 } g->Wr m g\/(w.heap.size<=g/\g=w1.heap.size):=by
  rintro g (e | e | e | e)
  ·exact qH (qH e)
  ·exact qH (qF (qH e))
  ·have O:v9.ownBlock=some g:=e;rcases hl with j | j
   ·exact qH (qF (qF (qH (by rw[<-j];exact O))))
   ·rw[O] at j;injection j with j;exact qF ⟨by rw[j];exact hb.size,j⟩
  ·exact qH (qF (qF (qF e)))
 have r:∀g d t,w1.heap[g]? =some (.cells d t (0,0))->t≠97->t≠93->g≠m.D/\m.vo.ownBlock≠some g:=fun g d t h9 ht ht2=>by
  refine⟨fun e=> ?_,fun e=> ?_⟩
  ·rw[e,l] at h9;injection h9 with h9
   injection h9 with _ h9 _
   exact ht2 h9.symm
  ·obtain⟨R,T⟩:=v g e;rw[T] at h9;injection h9 with h9
   injection h9 with _ h9 _
   exact ht h9.symm
 have J:DtsAt (w2.setCell ⟨m.D,3,none⟩ v9) vs' o.2.2.2.2:=gO (aP hn fun g hgg=>by
  obtain⟨_,C,d,E⟩:=z g hgg;obtain⟨K,M⟩:=r g d _ E (by decide) (by decide);exact q g C K M)
 refine⟨⟨?_,cR f.book f.bookG A,f.bookG.mono fun g e=>qH e,cI f.marks f.marksG A,f.marksG.mono fun g e=>qH e,cW f.known f.knownG A,f.knownG.mono fun g e=>qH e, ?_, ?_,fun x hx=>aP (f.rows x hx) (fun g hgg=> ?_),f.apart, ?_, ?_⟩, ?_,fun g hgg=> ?_⟩
 ·rw[set_heap F];rfl
 ·refine⟨L++[(o,vs')],by rw[xL,hL];rfl, ?_,fun y hy=> ?_⟩
  ·rw[qE];refine aP hr fun g hgg=>set_block _ _ _ _ (fun e=> ?_)
   have j:g=m.D:=e;obtain⟨_,d,i⟩:=aL hr g hgg;rw[j,F] at i;injection i with i
   injection i with _ i _
   exact absurd i (by decide)
  ·rcases jB.1 hy with hy | hy
   ·exact⟨bI ((hLd y hy).1.below hb) (hLd y hy).2 A,(hLd y hy).2.mono fun g e=>qH e⟩
   ·rw[qP.1 hy];exact⟨J,fun a n c e _=>qF (by have j:vs'=Value.slice (some a) n c:=e;rw[j];rfl)⟩
 ·obtain⟨Z,P,s,_⟩:=f.map;refine MapAt.stay f.map (q _ (MapAt.lt f.map) (fun e=> ?_) (fun e=> ?_))
  ·rw[e,l] at s;cases s
  ·obtain⟨d,i⟩:=v _ e;rw[i] at s;cases s
 ·obtain⟨C,d,E⟩:=aL (f.rows x hx) g hgg;obtain⟨K,M⟩:=r g d _ E (by decide) (by decide);exact q g C K M
 ·rintro g (e | e)
  ·rw[set_size];exact jE (f.lt g e) hg.size
  ·rw[set_size];exact jE (z g e).2.1 hg.size
 ·rintro g (e | e) j
  ·rcases I g j with e3 | e3
   ·exact h.off g e e3
   ·have:=h.lt g e;omega
  ·obtain⟨q1,C,d,E⟩:=z g e;rcases I g j with e3 | e3
   ·have:=N g e3;omega
   ·omega
 ·refine(Chg.ofBelow hb (Wr m)).trans ?_;have U:Chg (Wr m) w1 w2:=Chg.grown hg fun g e=>qF (qF (qH e))
  exact U.setCell (p:=⟨m.D,3,none⟩) (qH rfl) _
 ·rcases I g hgg with e | e
  ·exact qH e
  ·exact qF e.1
theorem jn_next{M M':List Ent}(I:Inv S)(hnew:isNew S o=true)(hj:Jn M S)(h:∀d q,d≠o.1->(q ∈ getJ M' d↔q ∈ getJ M d\/(d ∈ o.2.2.2.2/\Dm.hasB (next S o).known d.1 d.2=false/\q=o.2.2.1))):Jn M' (next S o):=by
 obtain⟨m,y,n,v⟩:=aZ.1 hnew;obtain⟨p,z,A,r⟩:=aO.1 m;obtain⟨g,i,B,C⟩:=bH.1 p;intro d q hd hun;obtain⟨j,k,D,E⟩:=bH.1 hd;rw[rO S o d.1 I.klen j k g i] at hun;have l:d≠o.1:=by rintro rfl;rw[if_pos rfl] at hun;omega
 have b:kn S d.1<d.2:=by
  by_cases e:d.1=o.1.1
  ·rw[if_pos e] at hun;rw[e];omega
  ·rw[if_neg e] at hun;exact hun
 have s:Dm.hasB (next S o).known d.1 d.2=false:=by
  rw[has_eq (inv_next I hnew) hd,rO S o d.1 I.klen j k g i,decide_eq_false];omega
 rw[h d q l,hj d q hd b,s];show _↔saw (S.ops++[o]) q d=true
 rw[oE,xJ];by_cases c:o.2.1=4
 ·simp only[c,decide_true,yY,qX,decide_eq_true_eq,true_and];constructor
  ·rintro(e | ⟨e,f⟩)
   ·exact qH e
   ·exact qF ⟨f.symm,e⟩
  ·rintro(e | ⟨f,e⟩)
   ·exact qH e
   ·exact qF ⟨e,f.symm⟩
 ·have t:=(bB.1 r).2.2.1 c;rw[t,decide_eq_false c];simp
end Ii
namespace Ij
open Ka Ih Ii
open La (iR)
def gU (w:World) (D:Nat) (S:Dq) (F:Nat→Prop) (o:Ox) (e:Ending) (w':World):Prop:=
 e=.returned (.tuple #[.bool (isNew S o),errV (apE S o)])∧(isNew S o=false→Below w.heap.size w w')∧∃F',DocAt w' D (apS S o) F'∧Chg F w w'∧∀g,F' g→F g∨w.heap.size≤g
variable {w w' W w5:World}{S:Dq}{F G:Nat->Prop}{o:Ox}{v:Value}{g B h:Nat}{m:Mem}{a b t c:Int}{p:ByteArray}
theorem gU.no{D:Nat}(h:DocAt w D S F)(hn:isNew S o=false)(he:errV (apE S o)=v)(hb:zB w w'):gU w D S F o (.returned (.tuple #[.bool false,v])) w':=by
 refine⟨by rw[hn,he],fun _=>hb,F, ?_,Chg.ofBelow hb F,fun g hg=>qH hg⟩;unfold apS;rw[hn];exact h.below hb
def Mid (w:World) (F:Nat→Prop) (m':Mem) (S':Dq) (W:World):Prop:=∃G',DocMem W m' S' G'∧Chg F w W∧(∀g,G' g→F g∨w.heap.size≤g)∧(∀g,Wr m' g→F g∨w.heap.size≤g)
theorem Mid.blk{w W:World}{F:Nat->Prop}{m':Mem}{S':Dq}(h:Mid w F m' S' W):W.heap[m'.D]? =some (.cells #[m'.vb,m'.vm,m'.vk,m'.vo,.map (some m'.B)] 93):=by
 obtain⟨G',a,_⟩:=h;exact a.blk
theorem Mid.chg{m':Mem}{S':Dq}(h:Mid w F m' S' W):Chg F w W:=by obtain⟨G',_,h2,_⟩:=h;exact h2
def Ct (W:World) (g:Nat):Prop:=W.heap[g]? =some (.cells #[.slice none 0 0,.slice none 0 0,.slice none 0 0] 90)
theorem pQ(w:World)(O:Obj):Ct ((w.alloc O).alloc (.cells #[.slice none 0 0,.slice none 0 0,.slice none 0 0] 90)) (w.heap.size+1):=by
 have h:=heap_alloc_new (w.alloc O) (.cells #[zS,zS,zS] 90);rwa [show(w.alloc O).heap.size=w.heap.size+1 by simp] at h
theorem Ct.lt(h:Ct W g):g<W.heap.size:=(qG.1 h).1
abbrev set3 (w:World) (g:Nat) (x y z:Value):World:=((w.setCell ⟨g,0,none⟩ x).setCell ⟨g,1,none⟩ y).setCell ⟨g,2,none⟩ z
theorem mT(w:World)(g:Nat)(x y z:Value)(k:Nat)(h:k≠g):(set3 w g x y z).heap[k]? =w.heap[k]? :=by
 rw[set_block _ _ _ _ h,set_block _ _ _ _ h,set_block _ _ _ _ h]
theorem vI(w:World)(g:Nat)(x y z:Value):(set3 w g x y z).heap.size=w.heap.size:=by rw[set_size,set_size,set_size]
theorem eR(h:Below B w w')(hg:B<=g)(x y z:Value):Below B w (set3 w' g x y z):=
 ((h.setCell (p:=(zA g)) hg _).setCell (p:=⟨g,1,none⟩) hg _).setCell (p:=⟨g,2,none⟩) hg _
def BePost (w:World) (S:Dq) (G:Nat→Prop) (o:Ox) (e:Ending) (w':World):Prop:=
 ∃pb nb cb pm nm cm pk nk ck,e=.returned (.tuple #[.agg #[.slice pb nb cb,.slice pm nm cm,.slice pk nk ck],.bool (isNew S o),errV (apE S o)])∧Below w.heap.size w w'∧
  (isNew S o=true→(Lj.BookAt w' (.slice pb nb cb) (doB S o)∧In (News G w w') (.slice pb nb cb))∧(MksAt w' (.slice pm nm cm) (doM S o)∧In (News G w w') (.slice pm nm cm))∧KnAt w' (.slice pk nk ck) (S.known.set (o.1.1-1).toNat o.1.2)∧In (News G w w') (.slice pk nk ck))
theorem BePost.no(hn:isNew S o=false)(he:errV (apE S o)=v)(hb:zB w w'):BePost w S G o (.returned (.tuple #[.agg #[.slice none 0 0,.slice none 0 0,.slice none 0 0],.bool false,v])) w':=
 ⟨none,0,0,none,0,0,none,0,0,by rw[hn,he],hb,fun h=>by rw[hn] at h;cases h⟩
theorem BePost.yes{w4:World}{pb pm:Option Addr}{nb cb nm cm gk ck:Nat}(hn:isNew S o=true)(hlt:∀g,G g->g<w.heap.size)(hb4:zB w w4)(ht:Ct w4 (w.heap.size+1))(hb5:zB w4 w5)(h1:Lj.BookAt w5 (.slice pb nb cb) (doB S o))(i1:In (News G w4 w5) (.slice pb nb cb))(h2:MksAt w5 (.slice pm nm cm) (doM S o))(i2:In (News G w4 w5) (.slice pm nm cm))(hk:Za.IntsIn w4 (some ⟨gk,0,none⟩) (S.known.set (o.1.1-1).toNat o.1.2))(hl:(S.known.set (o.1.1-1).toNat o.1.2).length=8)(hgk:w.heap.size+1<gk):
  BePost w S G o (.returned (.tuple #[.agg #[.slice pb nb cb,.slice pm nm cm,.slice (some ⟨gk,0,none⟩) 8 ck],.bool true,.nilIface])) (set3 w5 (w.heap.size+1) (.slice pb nb cb) (.slice pm nm cm) (.slice (some ⟨gk,0,none⟩) 8 ck)):=by
 obtain⟨l,p,m,f⟩:=aZ.1 hn
 have h:apE S o=0:=by
  unfold apE;rw[if_neg (by simpa using l),if_neg (by omega),if_neg (by omega),if_neg (by omega)];exact f
 have q:=hb4.size;have r:=hb5.size;have s:=ht.lt
 have i:Stay (News G w4 w5) w5 (set3 w5 (w.heap.size+1) (.slice pb nb cb) (.slice pm nm cm) (.slice (some (zA gk)) 8 ck)):=fun g hg=>mT _ _ _ _ _ g (by
  rcases hg with e | e
  ·have:=hlt g e;omega
  ·omega)
 have d:∀g,News G w4 w5 g->News G w (set3 w5 (w.heap.size+1) (.slice pb nb cb) (.slice pm nm cm) (.slice (some (zA gk)) 8 ck)) g:=fun g hg=>by
  rcases hg with e | e
  ·exact qH e
  ·exact qF ⟨by omega,by rw[vI];exact e.2⟩
 have t:gk<w4.heap.size:=by
  rcases hk with e | ⟨b,o9,hp,hcs⟩
  ·rw[e] at hl;simp at hl
  ·injection hp with hp
   injection hp with hp1 hp2
   rw[hp1];exact qJ _ _ (hcs 0 (by omega))
 have j:KnAt w5 (.slice (some (zA gk)) 8 ck) (S.known.set (o.1.1-1).toNat o.1.2):=⟨_,_,by rw[hl],hk.below hb5⟩;refine⟨pb,nb,cb,pm,nm,cm,some (zA gk),8,ck,by rw[hn,h];rfl,eR (hb4.trans ⟨hb5.os,hb5.tape,hb5.output,hb5.size,fun k hk=>hb5.block k (by omega)⟩) (by omega) _ _ _,fun _=>⟨⟨cR h1 i1 i,i1.mono d⟩,⟨cI h2 i2 i,i2.mono d⟩,cW j (G:=fun g=>g=gk) (fun a n c e _=>by injection e with e1;injection e1 with e1;rw[<-e1]) (fun g e=>mT _ _ _ _ _ g (by rw[e];omega)),fun a n c e _=> ?_⟩⟩;injection e with e1
 injection e1 with e1
 rw[<-e1];exact qF ⟨by show w.heap.size<=gk;omega,by rw[vI];show gk<w5.heap.size;omega⟩
theorem aAz{vb vm vk:Value}{B:List Bm.Leaf}{M:List Mk}{l:List Int}(h:DocOk w m S G)(hF:∀g,F g↔(G g\/Wr m g))(hb:zB w w5)(h1:Lj.BookAt w5 vb B)(i1:In (News G w w5) vb)(h2:MksAt w5 vm M)(i2:In (News G w w5) vm)(h3:KnAt w5 vk l)(i3:In (News G w w5) vk):
  Mid w F { m with vb:=vb,vm:=vm,vk:=vk } ⟨B,M,l,S.ops⟩ (set3 w5 m.D vb vm vk):=by
 obtain⟨c,d⟩:=aIJ h.mem hb h1 i1 h2 i2
 have a:∀g,News G w w5 g->g≠m.D:=fun g hg e=>by
  rcases hg with e9 | e9
  ·exact h.mem.off g e9 (qH e)
  ·have:=h.mem.sX m.D (qH rfl);omega
 have f:=cW h3 i3 (w':=(w5.setCell ⟨m.D,0,none⟩ vb).setCell ⟨m.D,1,none⟩ vm) (fun g hg=>by rw[set_block _ _ _ _ (a g hg),set_block _ _ _ _ (a g hg)]);obtain⟨i,j⟩:=aET c f i3;have b:∀g,g=m.D->F g:=fun g e=>(hF g).2 (qF (qH e))
 refine⟨_,i,(d.mono b).trans (j.mono b),fun g hg=> ?_,fun g hg=>qH ((hF g).2 (qF hg))⟩;rcases hg with e | e
 ·exact qH ((hF g).2 (qH e))
 ·exact qF e.1
theorem mid_ops{w6 w7 w8:World}{G':Nat->Prop}{v9 vs':Value}{L:List (Ox × Value)}(h1:DocMem w6 m S G')(h2:Chg F w w6)(h3:∀g,G' g->F g\/w.heap.size<=g)(h4:∀g,Wr m g->F g\/w.heap.size<=g)(q1:L.map (·.1)=S.ops)(q2:∀y ∈ L,DtsAt w6 y.2 y.1.2.2.2.2/\In G' y.2)(hb:zB w6 w7)(hn:w7.ownsRow w6.heap.size 80 2 vs' o.2.2.2.2.length (flatD o.2.2.2.2))(hg:w7.grownBy w8 m.vo.ownBlock)(hr:w8.ownsRow 0 97 6 v9 (S.ops.length+1) (flatO (L++[(o,vs')])))(hl:v9.ownBlock=m.vo.ownBlock\/v9.ownBlock=some w7.heap.size):
  Mid w F { m with vo:=v9 } { S with ops:=S.ops++[o] } (w8.setCell ⟨m.D,3,none⟩ v9):=by
 obtain⟨a,b,c⟩:=aHF h1 q1 q2 hb hn hg hr hl;have d:=h2.size;refine⟨_,a,h2.next b h4,fun g hgg=> ?_,fun g hgg=> ?_⟩
 ·rcases hgg with e | e
  ·exact h3 g e
  ·exact qF (qO d (iR hn g e))
 ·rcases c g hgg with e | e
  ·exact h4 g e
  ·exact qF (by omega)
theorem gQ(h:Below B w.drew w'):Below B w w':=⟨h.os,h.tape,h.output,h.size,h.block⟩
theorem uE{W':World}(s:Six W h a b t p c v)(hs:W'.heap[h]? =W.heap[h]?):Six W' h a b t p c v:=by
 obtain⟨d,e,f,g,i,j⟩:=s;exact⟨(aM hs).trans d,(aM hs).trans e,(aM hs).trans f,(aM hs).trans g,(aM hs).trans i,(aM hs).trans j⟩
theorem aIB(s:Six W h a b t p c v):h<W.heap.size:=qJ _ _ s.1
theorem aHM{w9 w10:World}{m0:Mem}{vs:Value}{M':List Ent}(h0:DocOk w m0 S G)(hM:m.M=m0.M)(hnew:isNew S o=true)(G':Nat->Prop)(h2:Chg F w w9)(h3:∀g,G' g->F g\/w.heap.size<=g)(h4:∀g,Wr m g->F g\/w.heap.size<=g)(h:SetSt w9 m (next S o) G' (40*S.ops.length) o.1.1 o.1.2 o.2.1 o.2.2.1 o.2.2.2.1 vs o.2.2.2.2 o.2.2.2.2.length w10 M'):gU w m.D S F o (.returned (.tuple #[.bool true,.nilIface])) w10:=by
 obtain⟨b,l,i,c⟩:=aZ.1 hnew;have j:=(bB.1 (aO.1 b).2.2.2).2.2.2.1
 have f:apE S o=0:=by
  unfold apE;rw[if_neg (by simpa using b),if_neg (by omega),if_neg (by omega),if_neg (by omega)];exact c
 refine⟨by rw[hnew,f];rfl,fun a=>(by rw[hnew] at a;cases a),fun g=>G' g\/Wr { m with M:=M' } g, ?_,h2.next h.chg h4,fun g hg=> ?_⟩
 ·unfold apS;rw[hnew,if_pos rfl];refine⟨{ m with M:=M' },G',rfl,⟨h.mem,inv_next h0.inv hnew,jn_next h0.inv hnew h0.jn ?_,fun x hx=> ?_⟩,fun g=>Iff.rfl⟩
  ·intro d q hd;have a:=h.jn d q hd;rw[yJ] at a;have k:getJ m.M d=getJ m0.M d:=by rw[hM]
   rw[k] at a;exact a
  ·have a:=h.short x hx;show x.2.2.length<=40*(S.ops++[o]).length
   rw[qE];simp only[vV];omega
 ·have n:=h2.size;rcases hg with e | e
  ·exact h3 g e
  ·rcases h.own g e with e | e
   ·exact h4 g e
   ·exact qF (by omega)
end Ij
end Go.Proofs.YtjcemlmlfoilmaaGreatDoor
