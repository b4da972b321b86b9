import Derived.Test.YtjcemlmlfoilmaaGreatDoorJ7
set_option linter.unusedVariables false
set_option maxRecDepth 100000
set_option maxHeartbeats 8000000
namespace Go.Proofs.YtjcemlmlfoilmaaGreatDoor
open Go.RowKit Cm Ka Na Om Oz
open Go.Proofs.Tryz (prog)
namespace Va
open La (bel aD aH)
def icmp (a b:Int):Int:=if a<b then -1 else if b<a then 1 else 0
def or2 (a b:Int):Int:=if a=0 then b else a
theorem nL{a b:Int}:icmp a b<0↔a<b:=by
 unfold icmp;split
 ·constructor<;>intro h<;>omega
 ·split
  ·constructor<;>intro h<;>omega
  ·constructor<;>intro h<;>omega
theorem oB{a b:Int}:icmp a b=0↔a=b:=by
 unfold icmp;split
 ·constructor<;>intro h<;>omega
 ·split
  ·constructor<;>intro h<;>omega
  ·constructor<;>intro h<;>omega
theorem zO{a b:Int}:or2 a b<0↔a<0\/(a=0/\b<0):=by
 unfold or2;split<;>omega
def dcmp (a b:Dt):Int:=or2 (icmp a.1 b.1) (icmp a.2 b.2)
theorem rP{a b:Dt}:dcmp a b<0↔dlt a b=true:=by
 unfold dcmp dlt;rw[zO,nL,oB,nL];simp
theorem pO(a:Int)(w:World):
  Calls prog 200 #[.int .i64 a] w fun e w'=>e=.returned (.bool false)/\w'=w:=by
 go_in;go_wp2;go_ret;exact⟨by first | rfl | simp,rfl⟩
theorem iT(a b:Int)(w:World):
  Calls prog 196 #[.int .i64 a,.int .i64 b] w fun e w'=>e=.returned (.int .i64 (icmp a b))/\w'=w:=by
 have H:Hid (icmp a b=if a<b then -1 else if b<a then 1 else 0):=rfl
 go_in
 go_wp2_with (go_at_call 200;refine(pO _ _).mono ?_;rintro e w' ⟨rfl,d⟩;subst w')
 all_goals
  go_ret
  refine⟨?_,rfl⟩
  rw[H.out]
  first
   | (rw[if_pos (by omega)];rfl)
   | (rw[if_neg (by omega),if_pos (by omega)];rfl)
   | (rw[if_neg (by omega),if_neg (by omega)];rfl)
theorem zL(g:Nat)(a b:Int)(w:World)(h0:w.cell? ⟨g,0,none⟩=some (.int .i64 a))(h1:w.cell? ⟨g,1,none⟩=some (.int .i64 b)):
  Calls prog 190 #[.slice (some ⟨g,0,none⟩) 2 2] w fun e w'=>e=.returned (.int .i64 (or2 a b))/\w'=w:=by
 have H:Hid (or2 a b=if a=0 then b else a):=rfl;go_in;go_wp2;go_loop [5,8] (fun _ i=>∃(k:Nat),k<=2/\i=zI k/\Hid ((1<=k->a=0)/\(2<=k->b=0))) (fun _ i=>2-(intOf i).toNat)
 case atStart=>exact⟨0,by omega,rfl,⟨fun h=>by omega,fun h=>by omega⟩⟩
 case round=>
  obtain⟨k,q,rfl,f⟩:=hrel;have m:k=0\/k=1\/k=2:=by omega
  rcases m with rfl | rfl | rfl
  ·by_cases c:a=0
   ·subst c;go_wp2_with fail;go_round
    case rel=>exact⟨1,by omega,by go_num,⟨fun _=>by first | rfl | trivial,fun h=>by omega⟩⟩
    case measure=>simp[intOf]
   ·have o:(a !=0)=true:=by simpa using c
    have j:Hid (or2 a b=a):=by unfold Hid;rw[H.out,if_neg c]
    clear c;go_wp2_with fail;go_ret;exact⟨by rw[j.out];rfl,rfl⟩
  ·obtain rfl:=f.out.1 (by omega);by_cases l:b=0
   ·subst l;go_wp2_with fail;go_round
    case rel=>exact⟨2,by omega,by go_num,⟨fun _=>by first | rfl | trivial,fun _=>by first | rfl | trivial⟩⟩
    case measure=>simp[intOf]
   ·have p:(b !=0)=true:=by simpa using l
    have j:Hid (or2 0 b=b):=by unfold Hid;rw[H.out,if_pos rfl]
    clear l;go_wp2_with fail;go_ret;exact⟨by rw[j.out];rfl,rfl⟩
  ·obtain rfl:=f.out.1 (by omega);obtain rfl:=f.out.2 (by omega);go_wp2_with fail;go_ret;exact⟨by rw[H.out];rfl,rfl⟩
theorem aAm(a b:Int)(W:World)(n:Nat)(t:TypeId)(hn:n=W.heap.size):
  Calls prog 190 #[.slice (some ⟨n,0,none⟩) 2 2] (W.alloc (.cells #[.int .i64 a,.int .i64 b] t)).drew fun e w'=>e=.returned (.int .i64 (or2 a b))/\w'=(W.alloc (.cells #[.int .i64 a,.int .i64 b] t)).drew:=by
 subst hn;have c:(W.alloc (.cells #[zI a,zI b] t)).drew.heap[W.heap.size]? =some (.cells #[zI a,zI b] t):=heap_alloc_new W (.cells #[zI a,zI b] t);exact zL W.heap.size a b _ (by simp only[World.cell?,c];rfl) (by simp only[World.cell?,c];rfl)
theorem dN(a1 a2 b1 b2:Int)(w:World):
  Calls prog 185 #[.agg #[.int .i64 a1,.int .i64 a2],.agg #[.int .i64 b1,.int .i64 b2]] w fun e w'=>e=.returned (.int .i64 (dcmp (a1,a2) (b1,b2)))/\zB w w':=by
 have a:Hid (dcmp (a1,a2) (b1,b2)=or2 (icmp a1 b1) (icmp a2 b2)):=rfl
 have b:Hid (∀O1 O2 O3,zB w (((w.alloc O1).alloc O2).alloc O3).drew):=fun O1 O2 O3=>(((zb w O1).alloc (by simp) O2).alloc (by simp;omega) O3).drew
 rw[a.out]
 clear a
 go_in
 go_wp2_with fail
 go_region_held3 (fun W=>W.cell? (zW w)=some (zI a1)/\W.cell? ⟨w.heap.size,1,none⟩=some (zI a2)/\W.cell? (zV w)=some (zI b1)/\W.cell? ⟨w.heap.size+1,1,none⟩=some (zI b2)) (go_keep) (first
  | (go_at_call 196;refine(iT _ _ _).mono ?_;rintro e w7 ⟨rfl,c⟩;subst w7)
  | (go_at_call 190;refine(aAm (icmp a1 b1) (icmp a2 b2) _ _ _ ?_).mono ?_;(simp);rintro e w7 ⟨rfl,c⟩;subst w7))
 all_goals
  go_wp2_with fail
  go_ret
  exact⟨rfl,b.out _ _ _⟩
theorem eF(who m:Int)(w:World):
  Calls prog 138 #[.agg #[.int .i64 who,.int .i64 m]] w fun e w'=>e=.returned (errV (dotE who m))/\zB w w':=by
 go_in
 go_wp2
 all_goals
  go_ret
  refine⟨?_,zb w _⟩
  unfold dotE
  first
   | (rw[if_pos (by omega)];rfl)
   | (rw[if_neg (by omega)];rfl)
def sawE (l:List Dt):Int:=if 40<l.length then 4 else dotsE l
theorem gT(v:Value)(l:List Dt)(w:World)(hA:DtsAt w v l):
  Calls prog 166 #[v] w fun e w'=>e=.returned (errV (sawE l)) /\ zB w w':=by
 obtain⟨p,c,rfl,h,P,af,_⟩:=hA
 obtain⟨n,H⟩:∃n,l.length=n:=⟨_,rfl⟩
 rw[H] at P
 rw[H]
 by_cases ag:40<n
 ·have R:Hid (sawE l=4):=by unfold Hid sawE;rw[H,if_pos ag]
  have hz:(40:Int)<n:=by omega
  clear H h P af
  go_in
  go_wp2
  go_ret
  exact⟨by rw[R.out];rfl,qD _ _⟩
 have R:Hid (sawE l=dotsE l):=by unfold Hid sawE;rw[H,if_neg ag]
 have hz:¬(40:Int)<n:=by omega
 clear P af
 have M:=z9 H
 have HI:=z9 h
 clear H h
 go_in
 go_wp2
 go_loopw [13] (fun i wr=>∃(k:Nat),k <=n /\ i=zI k /\ Hid (∀j,j<k -> dotE (l.getD j noneD).1 (l.getD j noneD).2=0) /\ Hid (zB w wr)) (fun i _=>n-(intOf i).toNat)
 case atStart=>exact⟨0,by omega,rfl,fun j d=>absurd d (by omega),qD _ _⟩
 case round=>
  obtain⟨k,hk,rfl,I,t⟩:=hrel
  by_cases L:k<n
  ·have S:(k:Int)<n:=by omega
   obtain⟨b,o,rfl,B⟩:=HI.out.some (by intro e;have:=M.out;rw[e] at this;simp at this;omega)
   have z:k<l.length:=by rw[M.out];exact L
   have T:=(B k z).below t.out (B k z).lt
   obtain⟨x,J⟩:=zx (l.getD k noneD)
   rw[<- J] at T
   have N:=z9 J
   obtain⟨g,r⟩:=x
   obtain⟨a1,a2⟩:=T
   simp only at a1 a2
   clear B J
   have C:=eF g r (wr.alloc (.cells #[zI g,zI r] 80))
   by_cases K:dotE g r=0
   ·rw[K,aD] at C
    have U:Hid (∀j,j<k+1 -> dotE (l.getD j noneD).1 (l.getD j noneD).2=0):=by
     intro j d
     rcases jS.1 d with h | rfl
     ·exact I.out j h
     ·rw[<- N.out];exact K
    clear K
    go_wp2_with fail
    refine C.mono ?_
    rintro e w2 ⟨rfl,F⟩
    have V:=z9 (bE t.out F)
    clear F C a1 a2
    go_wp2_with fail
    go_roundw
    case rel=>exact⟨k+1,by omega,by go_num,U,V⟩
    case measure=>simp[intOf];omega
   ·obtain⟨q,O⟩:=zx (dotE g r)
    have X:Hid (errV (sawE l)=.iface 59 (zI q)):=by
     unfold Hid;rw[R.out,gI z I.out (by rw[<- N.out];exact K), <- N.out,O,aH K]
    rw[aH K, <- O] at C
    clear K O
    go_wp2_with fail
    refine C.mono ?_
    rintro e w2 ⟨rfl,F⟩
    have V:=z9 (bE t.out F)
    clear F C
    go_wp2_with fail
    go_ret
    exact⟨by rw[X.out];rfl,V.out⟩
  ·obtain rfl:k=n:=by omega
   have HZ:=z9 (all_zero (fun j d=>I.out j (by rw[<- M.out];exact d)))
   clear I L
   go_wp2_with fail
   go_loopw [6] (fun i wr2=>∃(m:Nat),(m=0 \/ m+1 <=k) /\ i=zI ((m+1:Nat):Int) /\ Hid (∀j,j<m -> dlt (l.getD j noneD) (l.getD (j+1) noneD)=true) /\ Hid (zB w wr2)) (fun i _=>k+1-(intOf i).toNat)
   case atStart=>exact⟨0,qH rfl,rfl,fun j d=>absurd d (by omega),t⟩
   case round=>
    clear t
    obtain⟨m,hm,rfl,I,t⟩:=hrel
    by_cases L:m+1<k
    ·obtain⟨j,d⟩:∃j:Nat,j=m+1:=⟨_,rfl⟩
     have S:(j:Int)<k:=by omega
     obtain⟨b,o,rfl,B⟩:=HI.out.some (by intro e;have:=M.out;rw[e] at this;simp at this;omega)
     have z:m+1<l.length:=by rw[M.out];exact L
     have T:=(B (m+1) z).below t.out (B (m+1) z).lt
     have hb:=(B m (by omega)).below t.out (B m (by omega)).lt
     obtain⟨x,J⟩:=zx (l.getD (m+1) noneD)
     obtain⟨y,hy⟩:=zx (l.getD m noneD)
     rw[<- J, <- d] at T
     rw[<- hy] at hb
     have N:=z9 J
     have HY:=z9 hy
     obtain⟨g,r⟩:=x
     obtain⟨D,E⟩:=y
     obtain⟨a1,a2⟩:=T
     obtain⟨c1,c2⟩:=hb
     simp only at a1 a2 c1 c2
     have G:Hid (dcmp (D,E) (g,r)<0↔dlt (D,E) (g,r)=true):=rP
     obtain⟨q,O⟩:=zx (dcmp (D,E) (g,r))
     have C2:=fun W=>dN D E g r W
     rw[<- O] at C2 G
     have ax:IntKind.i64.wrap ((j:Int)-1)=(m:Int):=by rw[show(j:Int)-1=(m:Int) by omega];exact bG (by omega) (by omega)
     have ay:(m:Int)<k:=by omega
     have HJ:=z9 d
     rw[<- d]
     clear B J hy O
     by_cases az:0 <=q
     ·have X:Hid (errV (sawE l)=.iface 59 (zI 7)):=by
       have h9:dlt (D,E) (g,r)=false:=by
        cases h8:dlt (D,E) (g,r)
        ·rfl
        ·exact absurd (G.out.2 h8) (by omega)
       unfold Hid;rw[R.out,gL HZ.out z (by rw[<- N.out, <- HY.out];exact h9)];rfl
      clear d G
      go_wp2_with fail
      go_region_held3 (fun W=>W.cell? ⟨b,o+m*2,none⟩=some (zI D) /\ W.cell? ⟨b,o+m*2+1,none⟩=some (zI E) /\ W.cell? ⟨b,o+j*2,none⟩=some (zI g) /\ W.cell? ⟨b,o+j*2+1,none⟩=some (zI r)) (first | (go_keep;done) | (refine⟨aA a ?_,aA a ?_,aA a ?_,aA a ?_⟩<;>(go_split_ands;assumption))) (first
       | (go_at_call 185;refine(C2 _).mono ?_;rintro e w7 ⟨rfl,a⟩;have Y:=z9 (bel t.out.drew a)))
      all_goals
       go_wp2_with fail
       go_ret
       exact⟨by rw[X.out];rfl,Y.out⟩
     ·have h9:dlt (D,E) (g,r)=true:=G.out.1 (by omega)
      have U:Hid (∀i,i<m+1 -> dlt (l.getD i noneD) (l.getD (i+1) noneD)=true):=by
       intro i hi
       rcases jS.1 hi with h | rfl
       ·exact I.out i h
       ·rw[<- N.out, <- HY.out];exact h9
      clear h9 d G
      go_wp2_with fail
      go_region_held3 (fun W=>W.cell? ⟨b,o+m*2,none⟩=some (zI D) /\ W.cell? ⟨b,o+m*2+1,none⟩=some (zI E) /\ W.cell? ⟨b,o+j*2,none⟩=some (zI g) /\ W.cell? ⟨b,o+j*2+1,none⟩=some (zI r)) (first | (go_keep;done) | (refine⟨aA a ?_,aA a ?_,aA a ?_,aA a ?_⟩<;>(go_split_ands;assumption))) (first
       | (go_at_call 185;refine(C2 _).mono ?_;rintro e w7 ⟨rfl,a⟩;have Y:=z9 (bel t.out.drew a)))
      all_goals
       go_wp2_with fail
       go_roundw
       case rel=>exact⟨m+1,qF (by omega),by rw[HJ.out];go_num,U,Y⟩
       case measure=>have:=HJ.out;simp[intOf];omega
    ·have X:Hid (errV (sawE l)=.nilIface):=by
      unfold Hid;rw[R.out,nQ HZ.out (fun i hi=>I.out i (by rw[M.out] at hi;omega))];exact aD
     obtain⟨j,d⟩:∃j:Nat,j=m+1:=⟨_,rfl⟩
     have S:¬(j:Int)<k:=by omega
     rw[<- d]
     clear d hm
     go_wp2_with fail
     go_ret
     exact⟨by rw[X.out];rfl,t.out⟩
theorem bV(n:Int)(w:World):
  Calls prog 74 #[.int .i64 n] w fun e w'=>e=.returned (.bool (isLetter n))/\w'=w:=by
 go_in;go_wp2
 all_goals
  go_ret;exact⟨aW (by first | (simp[isLetter, *];done) | (simp only[isLetter];rw[decide_eq_false (by omega)];rfl)),rfl⟩
end Va
namespace Vb
open Va
open La (bel)
def letE (t c:Int):Int:=if t=1 then(if isLetter c=true then 0 else 1) else if c=0 then 0 else 3
def seenE (t:Int) (s:List Dt):Int:=if t=4 then sawE s else if s=[] then 0 else 3
variable (a b t:Int)(p:ByteArray)(c:Int)(v:Value)(s:List Dt)(w:World)
theorem aGQ:lawOf ((a,b),t,p,c,s)=if letE t c≠0 then letE t c else seenE t s:=by
 unfold lawOf letE seenE sawE;simp only;by_cases e:t=1
 ·subst e;cases hl:isLetter c
  ·simp
  ·by_cases d:s=[]
   ·subst d;simp[show dotsE []=0 from rfl]
   ·simp[d]
 ·by_cases g:c=0
  ·subst g;by_cases f:t=4
   ·subst f;simp
   ·by_cases d:s=[]
    ·subst d;simp[e,f,show dotsE []=0 from rfl]
    ·simp[e,f,d]
  ·simp[e,g]
theorem rJ:
  Calls prog 140 #[.agg #[.int .i64 a,.int .i64 b,.int .i64 t,.string p,.int .i64 c,v]] w fun e w'=>e=.returned (errV (letE t c))/\zB w w':=by
 have g:Hid (∀O,zB w (w.alloc O)):=fun O=>zb w O
 by_cases f:t=1
 ·subst f;have h:=fun W=>bV c W
  cases hl:isLetter c
  ·have d:Hid (letE 1 c=1):=by unfold Hid letE;rw[if_pos rfl,if_neg (by rw[hl];decide)]
   rw[hl] at h;rw[d.out];clear hl;go_in;go_wp2_with fail;refine(h _).mono ?_;rintro e w2 ⟨rfl,j⟩;subst w2;go_wp2_with fail;go_ret;exact⟨rfl,g.out _⟩
  ·have d:Hid (letE 1 c=0):=by unfold Hid letE;rw[if_pos rfl,if_pos hl]
   rw[hl] at h;rw[d.out];clear hl;go_in;go_wp2_with fail;refine(h _).mono ?_;rintro e w2 ⟨rfl,j⟩;subst w2;go_wp2_with fail;go_ret;exact⟨rfl,g.out _⟩
 ·have k:(t==1)=false:=by simpa using f
  by_cases i:c=0
  ·subst i;have d:Hid (letE t 0=0):=by unfold Hid letE;rw[if_neg f,if_pos rfl]
   rw[d.out];clear f;go_in;go_wp2_with fail;go_ret;exact⟨rfl,g.out _⟩
  ·have d:Hid (letE t c=3):=by unfold Hid letE;rw[if_neg f,if_neg i]
   have l:(c !=0)=true:=by simpa using i
   rw[d.out];clear f i;go_in;go_wp2_with fail;go_ret;exact⟨rfl,g.out _⟩
theorem aAi(hd:DtsAt w v s):
  Calls prog 141 #[.agg #[.int .i64 a,.int .i64 b,.int .i64 t,.string p,.int .i64 c,v]] w fun e w'=>e=.returned (errV (seenE t s))/\zB w w':=by
 have k:Hid (∀O,zB w (w.alloc O)):=fun O=>(qD _ w).alloc (qC _) O
 by_cases f:t=4
 ·subst f;have g:Hid (seenE 4 s=sawE s):=by unfold Hid seenE;rw[if_pos rfl]
  obtain⟨z,o⟩:=zx (errV (sawE s))
  have r:Hid (∀W,DtsAt W v s->Calls prog 166 #[v] W fun e w'=>e=.returned z/\zB W w'):=by
   rw[o];exact fun W h=>gT v s W h
  rw[g.out,<-o];have y:=z9 hd;obtain⟨A,B,d,_⟩:=hd;obtain⟨n,i⟩:=zx s.length;rw[<-i] at d;subst d;clear o g i;go_in;go_wp2_with fail;refine(r.out _ (y.out.below (k.out _))).mono ?_;rintro e w2 ⟨rfl,m⟩;have q:Hid (zB w w2):=bel (k.out _) m;clear m;go_wp2_with fail;go_ret;exact⟨rfl,q.out⟩
 ·have D:(t==4)=false:=by simpa using f
  obtain⟨A,B,d,_⟩:=hd;by_cases j:s=[]
  ·have g:Hid (seenE t s=0):=by unfold Hid seenE;rw[if_neg f,if_pos j]
   rw[g.out];rw[j] at d;subst d;clear f j;simp only[yW];go_in;go_wp2_with fail;go_ret;exact⟨rfl,k.out _⟩
  ·have g:Hid (seenE t s=3):=by unfold Hid seenE;rw[if_neg f,if_neg j]
   rw[g.out];obtain⟨n,i⟩:=zx s.length
   have E:(0:Int)<n:=by
    rcases Nat.eq_zero_or_pos n with h | h
    ·exact absurd (qK (i.symm.trans h)) j
    ·omega
   rw[<-i] at d;subst d;clear f j i;go_in;go_wp2_with fail;go_ret;exact⟨rfl,k.out _⟩
end Vb
namespace Vc
open Kb Ov Va Vb
open La (bel aD aH)
theorem oW{w w2:World}{a b t:Int}{p:ByteArray}{c:Int}{v:Value}{T:TypeId}(hb:Below (w.alloc (.cells #[.int .i64 a,.int .i64 b,.int .i64 t,.string p,.int .i64 c,v] T)).heap.size (w.alloc (.cells #[.int .i64 a,.int .i64 b,.int .i64 t,.string p,.int .i64 c,v] T)) w2):
  Six w2 w.heap.size a b t p c v/\zB w w2:=⟨(aT w a b t p c v T).below hb,bel (zb w _) hb⟩
theorem cM:aEg:=by
 intro a b t p c v s w hd hp;obtain⟨L,M,Q,_⟩:=id hd;obtain⟨n,R⟩:=zx s.length;rw[<-R] at Q;subst Q;have Y:=z9 hd;clear hd R
 have g:Hid (opE ((a,b),t,p,c,s)=if dotE a b≠0 then dotE a b else if t<1\/4<t then 1 else if Pm.chk p.toList≠0 then Pm.chk p.toList else if letE t c≠0 then letE t c else seenE t s):=by
  unfold Hid;rw[<-aGQ a b t p c s];rfl
 have y:=fun W=>eF a b W
 by_cases j:dotE a b=0
 case neg=>
  obtain⟨k,m⟩:=zx (dotE a b);have o:Hid (errV (opE ((a,b),t,p,c,s))=.iface 59 (zI k)):=by unfold Hid;rw[g.out,if_pos j,m];exact aH j
  rw[aH j,<-m] at y;rw[o.out];clear j m g;go_in;go_wp2_with fail;refine(y _).mono ?_;rintro e w2 ⟨rfl,d⟩;have i:Hid (zB w w2):=(oW d).2;clear d;go_wp2_with fail;go_ret;exact⟨rfl,i.out⟩
 rw[j,aD] at y;by_cases l:t<1\/4<t
 case pos=>
  have o:Hid (errV (opE ((a,b),t,p,c,s))=.iface 59 (zI 1)):=by unfold Hid;rw[g.out,if_neg (by simpa using j),if_pos l];rfl
  rw[o.out];clear j g;go_in;go_wp2_with fail;refine(y _).mono ?_;rintro e w2 ⟨rfl,d⟩;obtain⟨⟨E,F,G,H,I,J⟩,f⟩:=oW d;have i:=z9 f;clear d f;rcases l with l | l
  ·go_wp2_with fail;go_ret;exact⟨rfl,i.out⟩
  ·have T:¬t<1:=by omega
   go_wp2_with fail;go_ret;exact⟨rfl,i.out⟩
 have aa:¬t<1:=fun h=>l (qH h)
 have T:¬4<t:=fun h=>l (qF h)
 have K:=fun W=>cQ p W hp
 by_cases r:Pm.chk p.toList=0
 case neg=>
  obtain⟨k,m⟩:=zx (Pm.chk p.toList);have o:Hid (errV (opE ((a,b),t,p,c,s))=.iface 59 (zI k)):=by unfold Hid;rw[g.out,if_neg (by simpa using j),if_neg l,if_pos r,m];exact aH r
  rw[aH r,<-m] at K;rw[o.out];clear j l r m g;go_in;go_wp2_with fail;refine(y _).mono ?_;rintro e w2 ⟨rfl,d⟩;obtain⟨⟨E,F,G,H,I,J⟩,f⟩:=oW d;have i:=z9 f;clear d f;go_wp2_with fail;refine(K _).mono ?_;rintro e w3 ⟨rfl,U⟩;subst w3;go_wp2_with fail;go_ret;exact⟨rfl,i.out⟩
 rw[r,aD] at K;have N:=fun W=>rJ a b t p c (.slice L n M) W
 by_cases A:letE t c=0
 case neg=>
  obtain⟨k,m⟩:=zx (letE t c);have o:Hid (errV (opE ((a,b),t,p,c,s))=.iface 59 (zI k)):=by unfold Hid;rw[g.out,if_neg (by simpa using j),if_neg l,if_neg (by simpa using r),if_pos A,m];exact aH A
  rw[aH A,<-m] at N;rw[o.out];clear j l r A m g;go_in;go_wp2_with fail;refine(y _).mono ?_;rintro e w2 ⟨rfl,d⟩;obtain⟨⟨E,F,G,H,I,J⟩,f⟩:=oW d;have i:=z9 f;clear d f;go_wp2_with fail;refine(K _).mono ?_;rintro e w3 ⟨rfl,U⟩;subst w3;go_wp2_with fail;refine(N _).mono ?_;rintro e w4 ⟨rfl,q⟩;have B:=z9 (bel i.out q);clear q;go_wp2_with fail;go_ret;exact⟨rfl,B.out⟩
 rw[A,aD] at N;obtain⟨z,P⟩:=zx (errV (seenE t s));have o:Hid (errV (opE ((a,b),t,p,c,s))=z):=by unfold Hid;rw[g.out,if_neg (by simpa using j),if_neg l,if_neg (by simpa using r),if_neg (by simpa using A),P]
 have Z:Hid (∀W,DtsAt W (.slice L n M) s->Calls prog 141 #[.agg #[zI a,zI b,zI t,.string p,zI c,.slice L n M]] W fun e w'=>e=.returned z/\zB W w'):=by
  rw[P];exact fun W h=>aAi a b t p c _ s W h
 rw[o.out];clear j l r A P g o;go_in;go_wp2_with fail;refine(y _).mono ?_;rintro e w2 ⟨rfl,d⟩;obtain⟨⟨E,F,G,H,I,J⟩,f⟩:=oW d;have i:=z9 f;clear d f;go_wp2_with fail;refine(K _).mono ?_;rintro e w3 ⟨rfl,U⟩;subst w3;go_wp2_with fail;refine(N _).mono ?_;rintro e w4 ⟨rfl,q⟩;have B:=z9 (bel i.out q);obtain⟨q0,q1,q2,q3,q4,q5⟩:=(show Six w2 w.heap.size a b t p c (.slice L n M) from⟨E,F,G,H,I,J⟩).below q;clear q E F G H I J;go_wp2_with fail;refine(Z.out _ (Y.out.below B.out)).mono ?_;rintro e w5 ⟨rfl,O⟩;have V:=z9 (bel B.out O);clear O;go_wp2_with fail;go_ret;exact⟨rfl,V.out⟩
end Vc
end Go.Proofs.YtjcemlmlfoilmaaGreatDoor
