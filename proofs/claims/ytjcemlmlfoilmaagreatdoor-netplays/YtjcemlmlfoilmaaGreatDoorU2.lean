import Derived.Test.YtjcemlmlfoilmaaGreatDoorU1
import Derived.Test.YtjcemlmlfoilmaaGreatDoorP2
set_option linter.unusedVariables false
set_option maxRecDepth 100000
set_option maxHeartbeats 8000000
namespace Go.Proofs.YtjcemlmlfoilmaaGreatDoor
open Go.RowKit Ka Om Hm Ia Ii Il Im Um Ub Ud
open Go.Proofs.Tryz (prog)
namespace Ue
open Kb Uc
open La (bel aD aH)
open Lj (BookAt)
def EdPost (w:World) (E:Int) (L:List Ox) (e:Ending) (w':World):Prop:=
 ∃v,e=.returned (.tuple #[v,errV E])∧(E=0→OpsNew w.heap.size w' v L)∧(E≠0→v=.slice none 0 0)∧Below w.heap.size w w'
theorem EdPost.no{w w':World}{E k:Int}{L:List Ox}(h:E=k)(hk:k≠0)(hb:zB w w'):EdPost w E L (.returned (.tuple #[.slice none 0 0,.iface 59 (.int .i64 k)])) w':=
 ⟨_,by rw[h,aH hk],fun e=>absurd (h.symm.trans e) hk,fun _=>rfl,hb⟩
def insQ (a b:ByteArray) (who:Int) (t:ByteArray):List Ox:=(List.range t.size).map fun k=>((0,0),1,nthP a b who (k+1),((t.toList.getD k 0).toNat:Int),[])
theorem gB(a b:ByteArray)(who:Int)(t:ByteArray):(insQ a b who t).length=t.size:=by unfold insQ;simp
theorem aDz{a b:ByteArray}{who:Int}{t:ByteArray}{k:Nat}(hk:k<t.size):(insQ a b who t).getD k oz=((0,0),1,nthP a b who (k+1),((t.toList.getD k 0).toNat:Int),[]):=by
 unfold insQ;rw[qA,qT,yG hk];rfl
variable {w1:World}(D:Nat)(S:Dq)(F:Nat->Prop)(who off:Int)(t:ByteArray)(w:World)
theorem aGt:redot who (kn S who) (insQ (leftP S.book off.toNat) (rightP S.book off.toNat) who t)=insL S who off t:=by
 unfold redot insL;rw[gB];refine kD fun k hk=> ?_
 rw[aDz (vW.1 hk)];rfl
theorem lS(k:Nat)(h:k<t.size):t.toList.getD k 0=t[k]:=by
 have a:k<t.toList.length:=by rw[Om.aJ];exact h
 rw[qA,qB a];simp only[ByteArray.toList_eq,Array.getElem_toList,xT];rfl
theorem rT{w:World}{g n:Nat}{xs:List Value}(h:w1.ownsRow w.heap.size 97 6 (.slice (some ⟨g,0,none⟩) n n) n xs):lY w1 g n []:=by
 obtain⟨_,e | ⟨j,i,a,e,_,c,_,_,b,_⟩⟩:=h
 ·exact absurd e.1 (by intro e9;cases e9)
 ·injection e with e1 e2 e3
  injection e1 with e1
  injection e1 with e1
  exact⟨a,by rw[e1];exact c,by rw[b,<-e3],rfl⟩
theorem dF{w w0:World}(h:w0.grownBy w1 none)(hb:zB w w0):zB w w1:=
 hb.trans ⟨h.os,h.tape,h.output,h.size,fun k hk=>h.block k (jE hk hb.size) (by intro e;cases e)⟩
theorem aCP(h:DocAt w D S F)(hw:Pm.isWho who=false):
  Calls prog 75 #[.pointer (some ⟨D,0,none⟩),.int .i64 who,.int .i64 off,.string t] w (EdPost w (insE S who off t) (insL S who off t)):=by
 have b:Hid (insE S who off t=1):=by unfold Hid insE;rw[if_pos hw]
 have C:=fun w=>aCB who w (fY.1 hw)
 clear h hw;go_in;go_wp2_with fail;refine(C _).mono ?_;rintro e w2 ⟨rfl,hw⟩;have a:=hw.symm;subst a;clear hw C;go_wp2_with fail;go_ret2;exact EdPost.no b.out (by decide) (qD _ _)
theorem aAI(h:DocAt w D S F)(hm:t.size<=maxLen)(hw1:1<=who)(hw8:who<=8)(ht:textE t≠0):
  Calls prog 75 #[.pointer (some ⟨D,0,none⟩),.int .i64 who,.int .i64 off,.string t] w (EdPost w (insE S who off t) (insL S who off t)):=by
 have c:Hid (insE S who off t=textE t):=by unfold Hid insE;rw[bN.2 ⟨hw1,hw8⟩,if_neg (by simp),if_pos ht]
 have C:=fun w=>mV who w hw1 hw8
 have a:=aAb t w hm;have d:=z9 ht;rw[aH ht] at a;obtain⟨l,b⟩:=zx (textE t);rw[<-b] at a c d;clear h ht b hm hw1 hw8;go_in;go_wp2_with fail;refine(C _).mono ?_;rintro e w2 ⟨rfl,f⟩;have g:=f.symm;subst g;clear f C;go_wp2_with fail;refine a.mono ?_;rintro e w2 ⟨rfl,i⟩;have j:=z9 i;clear i a;go_wp2_with fail;go_ret2;exact EdPost.no c.out d.out j.out
theorem aB9(h:DocAt w D S F)(hm:t.size<=maxLen)(hw1:1<=who)(hw8:who<=8)(ht:textE t=0)(ha:aroundE S.book off≠0):
  Calls prog 75 #[.pointer (some ⟨D,0,none⟩),.int .i64 who,.int .i64 off,.string t] w (EdPost w (insE S who off t) (insL S who off t)):=by
 have o:Hid (insE S who off t=1):=by unfold Hid insE;rw[bN.2 ⟨hw1,hw8⟩,if_neg (by simp),if_neg (by simpa using ht),if_pos ha]
 have C:=fun w=>mV who w hw1 hw8
 have d:=aAb t w hm;rw[ht,aD] at d;have g:=z9 h;have p:=z9 ha;clear h ht hm hw1 hw8 ha;go_in;go_wp2_with fail;refine(C _).mono ?_;rintro e w2 ⟨rfl,i⟩;have j:=i.symm;subst j;clear i C;go_wp2_with fail;refine d.mono ?_;rintro e w2 ⟨rfl,f⟩;have r:=z9 f;have k:=eJ D S F w2 (g.out.below f);clear f d;go_wp2_with fail;refine k.mono ?_;rintro e w3 ⟨s,rfl,a,b⟩;have l:=aEI s S.book off w3 a.1 g.out.inv.book p.out;have m:=z9 (bel r.out b);clear k a b;go_wp2_with fail;refine l.mono ?_;rintro e w4 ⟨rfl,c⟩;have n:=z9 (bel m.out c);clear l c;go_wp2_with fail;go_ret2;exact EdPost.no o.out (by decide) n.out
theorem aCN(F:Nat→Prop)(who:Int)(off:Nat)(t:ByteArray)(w:World)(h:DocAt w D S F)(hm:t.size≤maxLen)(hw1:1≤who)(hw8:who≤8)(ht:textE t=0)(ha:off≤(seenP S.book).length):
  Calls prog 75 #[.pointer (some ⟨D,0,none⟩),.int .i64 who,.int .i64 off,.string t] w (EdPost w (insE S who off t) (insL S who off t)):=by
 have HE:Hid (insE S who off t=rowE (leftP S.book off) (rightP S.book off) who t.size):=by unfold Hid insE;rw[bN.2 ⟨hw1,hw8⟩,if_neg (by simp),if_neg (by simpa using ht),if_neg (by rw[bX.2 ⟨by omega,by omega⟩];simp),xK]
 have C:=fun w=>mV who w hw1 hw8
 have CT:=aAb t w hm
 rw[ht,aD] at CT
 have HD:=z9 h
 have HA:=z9 ha
 have ht2:=(eX.1 ht).1
 obtain⟨s1,s2,_,_⟩:=iN h.inv.book off
 have HIL:Hid (redot who (kn S who) (insQ (leftP S.book off) (rightP S.book off) who t)=insL S who off t):=by
  have:=aGt S who off t
  rwa [xK] at this
 obtain⟨n,hn⟩:=zx t.size
 have HN:=z9 hn.symm
 have hn2:n≤200:=by omega
 have hnz:(n:Int)≤200:=by omega
 obtain⟨i0,hi,hz0,hz1,hz2⟩:=info_parts Ii.jI
 have CA0:Hid (∀vb W,BookAt W vb S.book→Calls prog 99 #[vb,zI off] W fun e w'=>e=.returned (.tuple #[.string (leftP S.book off),.string (rightP S.book off),.nilIface])∧zB W w'):=fun vb W hk=>aEL vb S.book off W hk h.inv.book ha
 obtain⟨a,haa⟩:=zx (leftP S.book off)
 obtain⟨b,hbb⟩:=zx (rightP S.book off)
 rw[←haa,←hbb] at HE HIL CA0
 rw[←haa] at s1
 rw[←hbb] at s2
 have HS1:=z9 s1
 have HS2:=z9 s2
 have HTZ:Hid ((t.size:Int)=n):=by unfold Hid;omega
 have hts:t.size≤200:=by omega
 have HW:Hid (1≤who∧who≤8):=⟨hw1,hw8⟩
 clear h ht hm hw1 hw8 ha haa hbb s1 s2 hn ht2
 go_in
 go_wp2_with fail
 refine(C _).mono ?_
 rintro e w2 ⟨rfl,hw⟩
 have hw2:=hw.symm
 subst hw2
 clear hw C
 go_wp2_with fail
 refine CT.mono ?_
 rintro e w2 ⟨rfl,hb⟩
 have HB:=z9 hb
 have CB:=eJ D S F w2 (HD.out.below hb)
 clear hb CT
 go_wp2_with fail
 refine CB.mono ?_
 rintro e w3 ⟨vb,rfl,hk3,hb3⟩
 have CA:=CA0.out vb w3 hk3.1
 have HB3:=z9 (bel HB.out hb3)
 clear CB hk3 hb3 CA0
 go_wp2_with fail
 refine CA.mono ?_
 rintro e w4 ⟨rfl,hb4⟩
 have HB4:=z9 (bel HB3.out hb4)
 clear CA hb4
 go_wp2_with (at_make;refine wpList_make_full _ rfl (.tmp 39) (.tmp 39) 50 rfl w.heap.size 97 i0 (.agg #[zI 0,zI 0,zI 0,.string ⟨#[]⟩,zI 0,zS]) 6 Tryz.underlying50 hi hz0 hz1 .i64 .i64 (t.size:Int) (t.size:Int) n rfl rfl HTZ.out HTZ.out (by rw[hz2];omega) (by unfold maxLen;omega) HB4.out.size ?_;intro w5 hown hgrow;have HST0:Hid (OpsSt w n (insQ a b who t) w4.heap.size 0 w5 []):=⟨dF hgrow HB4.out,rT hown,rfl,fun y hy=>(by cases hy)⟩;clear hown hgrow)
 go_loopw [12,43] (fun va vi wr=>∃(k:Nat) (L:List (Ox × Value)),k≤n∧vi=zI k∧va=.string (nthP a b who k)∧Hid (rowE a b who k=0)∧Hid (OpsSt w n (insQ a b who t) w4.heap.size k wr L)) (fun _ vi _=>n-(intOf vi).toNat)
 case atStart=>exact⟨0,[],by omega,rfl,rfl,rfl,HST0⟩
 case round=>
  clear HST0
  obtain⟨k,L,hk,rfl,rfl,HR,HST⟩:=hrel
  by_cases hlt:k<n
  ·have hltz:(k:Int)<n:=by omega
   have hkt:k<t.size:=by rw[HN.out];exact hlt
   have hktz:(k:Int)<t.size:=by omega
   have C9:Calls prog 100 #[.string (nthP a b who k),.string b,zI who] wr fun e w'=>e=.returned (.tuple #[.string (nthP a b who (k+1)),errV (rowE a b who (k+1))])∧zB wr w':=by
    rw[aCq HR.out]
    refine(Pe.aAG (nthP a b who k) b who wr ?_ ?_).mono ?_
    ·have:=lT HR.out HS1.out k (qC _);unfold maxLen;omega
    ·have:=HS2.out;unfold maxLen;omega
    ·rintro e w' ⟨rfl,hb⟩;exact⟨rfl,hb⟩
   have HX:Hid ((((0,0),1,nthP a b who (k+1),((t[k]'hkt).toNat:Int),[]):Ox)=(insQ a b who t).getD k oz):=by
    unfold Hid;rw[aDz hkt,lS t k hkt]
   have hx255:((t[k]'hkt).toNat:Int)≤255:=by have:=(t[k]'hkt).toNat_lt;omega
   obtain⟨p2,hp2⟩:=zx (nthP a b who (k+1))
   rw[←hp2] at C9 HX
   have HP2:=z9 hp2
   clear hp2
   by_cases hz:rowE a b who (k+1)=0
   ·rw[hz,aD] at C9
    have HR2:=z9 hz
    clear hz
    go_wp2_with fail
    refine C9.mono ?_
    rintro e w6 ⟨rfl,hb6⟩
    have HST2:=z9 (HST.out.below hb6)
    obtain⟨⟨y0,z0⟩,g0⟩:=HST2.out.row.eA hlt 0 (by omega)
    obtain⟨⟨y1,z1⟩,g1⟩:=HST2.out.row.eA hlt 1 (by omega)
    obtain⟨⟨y2,z2⟩,g2⟩:=HST2.out.row.eA hlt 2 (by omega)
    obtain⟨⟨y3,z3⟩,g3⟩:=HST2.out.row.eA hlt 3 (by omega)
    obtain⟨⟨y4,z4⟩,g4⟩:=HST2.out.row.eA hlt 4 (by omega)
    obtain⟨⟨y5,z5⟩,g5⟩:=HST2.out.row.eA hlt 5 (by omega)
    rw[vL] at z0 g0
    have HP:Hid (OpsSt w n (insQ a b who t) w4.heap.size (k+1) (w6s w6 w4.heap.size (k*6) ((0,0),1,p2,((t[k]'hkt).toNat:Int),[]) (zS)) (L++[(((0,0),1,p2,((t[k]'hkt).toNat:Int),[]),zS)])):=HST2.out.put HB4.out.size (by rw[gB,HN.out]) hlt HX.out (jT _ _ _ _)
    clear C9 hb6
    go_wp2_with fail
    go_roundw
    case rel=>exact⟨k+1,_,by omega,by go_num,by rw[HP2.out],HR2,HP⟩
    case measure=>simp[intOf];omega
   ·have HE2:Hid (insE S who off t=rowE a b who (k+1)):=by unfold Hid;rw[HE.out];exact tN hz _ (by omega)
    have HZ:=z9 hz
    rw[aH hz] at C9
    obtain⟨ez,hez⟩:=zx (rowE a b who (k+1))
    rw[←hez] at C9 HE2 HZ
    clear hz hez
    go_wp2_with fail
    refine C9.mono ?_
    rintro e w6 ⟨rfl,hb6⟩
    have HB6:=z9 (bel HST.out.bl hb6)
    clear C9 hb6
    go_wp2_with fail
    go_ret2
    exact EdPost.no HE2.out HZ.out HB6.out
  ·obtain rfl:n=k:=by omega
   have hltz:¬(n:Int)<n:=by omega
   have hq:OpsNew w.heap.size wr (.slice (some (zW w4)) n n) (insQ a b who t):=by
    refine⟨w4.heap.size,L,by rw[gB,HN.out],HB4.out.size, ?_,by rw[gB,HN.out];exact HST.out.row,by rw[gB,HN.out];omega,HST.out.own⟩
    rw[HST.out.ls,qW (by rw[gB,HN.out];exact qC _)]
   have CD:=fD D S F who w.heap.size (insQ a b who t) (.slice (some (zW w4)) n n) wr (HD.out.below HST.out.bl) HW.out.1 HW.out.2 hq HST.out.bl.size (by rw[gB,HN.out];omega)
   have HE2:Hid (insE S who off t=0):=by unfold Hid;rw[HE.out,HN.out];exact HR.out
   rw[HIL.out] at CD
   clear hq
   go_wp2_with fail
   refine CD.mono ?_
   rintro e w6 ⟨rfl,ho6,hb6⟩
   have HO6:=z9 ho6
   have HB6:=z9 (HST.out.bl.trans hb6)
   clear CD ho6 hb6
   go_wp2_with fail
   go_ret2
   exact⟨_,by rw[HE2.out];rfl,fun _=>HO6.out,fun e=>absurd HE2.out e,HB6.out⟩
theorem aCd(h:DocAt w D S F)(hm:t.size<=maxLen):
  Calls prog 75 #[.pointer (some ⟨D,0,none⟩),.int .i64 who,.int .i64 off,.string t] w (EdPost w (insE S who off t) (insL S who off t)):=by
 cases hw:Pm.isWho who with
 | false=>exact aCP D S F who off t w h hw
 | true=>
  obtain⟨a,b⟩:=bN.1 hw
  by_cases c:textE t=0
  ·by_cases d:aroundE S.book off=0
   ·obtain⟨g,i⟩:=bX.1 d
    obtain⟨o,f⟩:∃o:Nat,off=o:=⟨off.toNat,by omega⟩
    subst f
    exact aCN D S F who o t w h hm a b c (by omega)
   ·exact aB9 D S F who off t w h hm a b c d
  ·exact aAI D S F who off t w h hm a b c
end Ue
namespace Uf
open Na Ue
open La (bel aD aH own_below)
def atV (S:Dq) (who off:Int):ByteArray:=if atE S who off=0 then atP S off else⟨#[]⟩
variable (D:Nat)(S:Dq)(F:Nat->Prop)(who off:Int)(w:World)
theorem aI0(S:Dq)(F:Nat->Prop)(who off:Int)(w:World)(hw:Pm.isWho who=false):
  Calls prog 103 #[.pointer (some ⟨D,0,none⟩),.int .i64 who,.int .i64 off] w fun e w'=>e=.returned (.tuple #[.string ⟨#[]⟩,.iface 59 (.int .i64 1)])/\zB w w':=by
 have C:=fun w=>aCB who w (fY.1 hw)
 clear hw;go_in;go_wp2_with fail;refine(C _).mono ?_;rintro e w2 ⟨rfl,hw⟩;have a:=hw.symm;subst a;clear hw C;go_wp2_with fail;go_ret2;exact⟨rfl,qD _ _⟩
theorem aIA(h:DocAt w D S F)(hw1:1<=who)(hw8:who<=8)(ho:off<0\/(¬off<0/\((seenP S.book).length:Int)<=off)):
  Calls prog 103 #[.pointer (some ⟨D,0,none⟩),.int .i64 who,.int .i64 off] w fun e w'=>e=.returned (.tuple #[.string ⟨#[]⟩,.iface 59 (.int .i64 1)])/\zB w w':=by
 have C:=fun w=>mV who w hw1 hw8
 have g:=eJ D S F w h;have i:=bR h.inv;have q:=z9 i;obtain⟨m,f⟩:=zx ((seenP S.book).length);rw[<-f] at ho;have r:=z9 f;clear h hw1 hw8 f i;rcases ho with h1 | ⟨h1,h2⟩
 all_goals
  go_in;go_wp2_with fail;refine(C _).mono ?_;rintro e w2 ⟨rfl,j⟩;have k:=j.symm;subst k;clear j C;go_wp2_with fail;refine g.mono ?_;rintro e w3 ⟨s,rfl,a,b⟩;have l:=eK s S.book w3 a.1 (by have:=q.out;omega);have n:=z9 b;clear g a b;go_wp2_with fail;refine l.mono ?_;rintro e w4 ⟨v,rfl,c,d⟩;obtain⟨y,z,rfl,o⟩:=c.shape;rw[<-r.out] at o |-;have p:=z9 (bel n.out d);clear c d l;go_wp2_with fail;go_ret2;exact⟨rfl,p.out⟩
theorem aJb(off:Nat)(w:World)(h:DocAt w D S F)(hw1:1<=who)(hw8:who<=8)(ho:off<(seenP S.book).length):
  Calls prog 103 #[.pointer (some ⟨D,0,none⟩),.int .i64 who,.int .i64 off] w fun e w'=>e=.returned (.tuple #[.string (atP S off),.nilIface])/\zB w w':=by
 have C:=fun w=>mV who w hw1 hw8
 have k:=eJ D S F w h;have l:=bR h.inv;have z:=z9 l;obtain⟨m,n⟩:=zx ((seenP S.book).length);have H:off<m:=by omega
 have I:¬(m:Int)<=off:=by omega
 have J:¬(off:Int)<0:=by omega
 have i:=z9 n;obtain⟨p,j⟩:=zx (atP S off);have A:Hid (p=(seenP S.book).getD off ⟨#[]⟩):=by unfold Hid;rw[j];unfold atP;rw[xK]
 rw[<-j];clear h hw1 hw8 n ho l j;go_in;go_wp2_with fail;refine(C _).mono ?_;rintro e w2 ⟨rfl,o⟩;have q:=o.symm;subst q;clear o C;go_wp2_with fail;refine k.mono ?_;rintro e w3 ⟨B,rfl,b,c⟩;have r:=eK B S.book w3 b.1 (by have:=z.out;omega);have s:=z9 c;clear k b c;go_wp2_with fail;refine r.mono ?_;rintro e w4 ⟨N,rfl,d,f⟩;obtain⟨O,P,t,_,v,K,g⟩:=d.cells (by rw[<-i.out];omega);rw[<-i.out] at t v;subst t;have a:=g off (by rw[<-i.out];omega);rw[<-A.out] at a;have y:=z9 (bel s.out f);clear d f r g;go_wp2_with fail;go_ret2;exact⟨rfl,y.out⟩
theorem sD(h:DocAt w D S F):
  Calls prog 103 #[.pointer (some ⟨D,0,none⟩),.int .i64 who,.int .i64 off] w fun e w'=>e=.returned (.tuple #[.string (atV S who off),errV (atE S who off)])/\zB w w':=by
 cases hw:Pm.isWho who with
 | false=>
  have a:atE S who off=1:=by unfold atE;rw[if_pos hw]
  have b:atV S who off=⟨#[]⟩:=by unfold atV;rw[a];rfl
  rw[a,b]
  exact aI0 D S F who off w hw
 | true=>
  obtain⟨c,d⟩:=bN.1 hw
  by_cases f:off<0\/((seenP S.book).length:Int)<=off
  ·have a:atE S who off=1:=by unfold atE;rw[hw,if_neg (by simp),if_pos f]
   have b:atV S who off=⟨#[]⟩:=by unfold atV;rw[a];rfl
   rw[a,b]
   exact aIA D S F who off w h c d (by omega)
  ·have a:atE S who off=0:=by unfold atE;rw[hw,if_neg (by simp),if_neg f]
   have b:atV S who off=atP S off:=by unfold atV;rw[if_pos a]
   rw[a,b]
   obtain⟨o,g⟩:∃o:Nat,off=o:=⟨off.toNat,by omega⟩
   subst g
   exact aJb D S F who o w h c d (by omega)
theorem fF{S:Dq}{who off:Int}:atE S who off=0↔(1<=who/\who<=8)/\0<=off/\off<(seenP S.book).length:=by
 unfold atE
 cases hw:Pm.isWho who with
 | false=>rw[if_pos rfl];have:=fY.1 hw;omega
 | true=>
  have:=bN.1 hw
  rw[if_neg (by simp)]
  by_cases h:off<0\/((seenP S.book).length:Int)<=off
  ·rw[if_pos h];omega
  ·rw[if_neg h];omega
theorem atE_cases:atE S who off=0\/atE S who off=1:=by
 unfold atE;split
 ·exact qF rfl
 ·split
  ·exact qF rfl
  ·exact qH rfl
theorem aIP{S:Dq}{who off:Int}(I:Inv S)(h:atE S who off=0):Pm.chk (atP S off).toList=0/\atP S off ∈ seenP S.book:=by
 obtain⟨_,g,i⟩:=fF.1 h;have a:off.toNat<(seenP S.book).length:=by omega
 have b:atP S off ∈ seenP S.book:=by
  unfold atP;rw[qA,qB a];exact jF a
 obtain⟨x,f,_,e⟩:=pR b;obtain⟨_,c,_⟩:=Bm.aU.1 I.book;exact⟨by rw[<-e];exact(Bm.cG.1 (c x f)).1,b⟩
theorem aCZ{B:Nat}(x:Ox)(v:Value)(hB:B<=w.heap.size)(hv:w.ownsRow B 80 2 v x.2.2.2.2.length (flatD x.2.2.2.2)):
  OpsNew B (w.alloc (.cells #[.int .i64 x.1.1,.int .i64 x.1.2,.int .i64 x.2.1,.string x.2.2.1,.int .i64 x.2.2.2.1,v] 97)) (.slice (some ⟨w.heap.size,0,none⟩) 1 1) [x]:=by
 refine⟨w.heap.size,[(x,v)],rfl,hB,rfl,⟨_,heap_alloc_new w _,rfl,rfl⟩,by simp,fun y hy=> ?_⟩;rw[qP.1 hy];exact own_below hv (zb _ _)
theorem aEJ(h:DocAt w D S F):
  Calls prog 77 #[.pointer (some ⟨D,0,none⟩),.int .i64 who,.int .i64 off] w (EdPost w (atE S who off) (splL S who off)):=by
 have C:=sD D S F who off w h;have y:=z9 h;rcases atE_cases S who off with h0 | h0
 ·obtain⟨⟨d,f⟩,_⟩:=fF.1 h0;rw[h0,show atV S who off=atP S off by unfold atV;rw[if_pos h0],aD] at C;have c:=z9 h0;obtain⟨p,m⟩:=zx (atP S off);rw[<-m] at C;have z:Hid (redot who (kn S who) [((0,0),3,p,0,[])]=splL S who off):=by unfold Hid splL redot;rw[m];simp
  have o:Hid (1<=who/\who<=8):=⟨d,f⟩;clear h h0 m d f;go_in;go_wp2_with fail;refine C.mono ?_;rintro e w2 ⟨rfl,a⟩;have i:=z9 a;have q:=aCZ (B:=w.heap.size) w2 ((0,0),3,p,0,[]) (zS) a.size (jT _ _ _ _);have b:Hid (zB w (w2.alloc (.cells #[zI 0,zI 0,zI 3,.string p,zI 0,zS] 97))):=a.alloc a.size _;have n:=fD D S F who w.heap.size [((0,0),3,p,0,[])] (.slice (some (zW w2)) 1 1) _ (y.out.below b.out) o.out.1 o.out.2 q b.out.size (by simp);rw[z.out] at n;clear a C q;go_wp2_with fail;refine n.mono ?_;rintro e w6 ⟨rfl,j,k⟩;have r:=z9 j;have s:=z9 (b.out.trans k);clear n j k;go_wp2_with fail;go_ret2;exact⟨_,by rw[c.out];rfl,fun _=>r.out,fun e=>absurd c.out e,s.out⟩
 ·rw[h0,show atV S who off=⟨#[]⟩ by unfold atV;rw[h0];rfl,aH (by decide)] at C;have c:=z9 h0;clear h h0;go_in;go_wp2_with fail;refine C.mono ?_;rintro e w2 ⟨rfl,a⟩;have i:=z9 a;clear a C;go_wp2_with fail;go_ret2;exact EdPost.no c.out (by decide) i.out
end Uf
namespace Uq
open Oz Ue
open La (bel)
def delQ (S:Dq) (a n:Nat):List Ox:=(List.range n).map fun k=>((0,0),2,(seenP S.book).getD (a+k) ⟨#[]⟩,0,[])
variable {k:Nat}(D:Nat)(S:Dq)(F:Nat->Prop)(who:Int)(a n:Nat)(w:World)
theorem bQ:(delQ S a n).length=n:=by unfold delQ;simp
theorem aDC{S:Dq}{a n:Nat}(hk:k<n):(delQ S a n).getD k oz=((0,0),2,(seenP S.book).getD (a+k) ⟨#[]⟩,0,[]):=by
 unfold delQ;rw[qA,qT,yG hk];rfl
theorem aC8{S:Dq}{a n:Nat}(hk:k<n):(aGJ S a ((a+n:Nat):Int)).getD k ⟨#[]⟩=(seenP S.book).getD (a+k) ⟨#[]⟩:=by
 unfold aGJ;rw[xK,xK,qA,qA,xQ,jC (by omega)]
theorem aGe:redot who (kn S who) (delQ S a n)=delL S who a ((a+n:Nat):Int):=by
 unfold redot delL;rw[bQ,show(((a+n:Nat):Int)-(a:Int)).toNat=n by omega];refine kD fun k hk=> ?_
 rw[aDC (vW.1 hk)];unfold aIl;rw[aC8 (vW.1 hk)]
theorem aCH(F:Nat->Prop)(who a b:Int)(w:World)(hw:Pm.isWho who=false):
  Calls prog 76 #[.pointer (some ⟨D,0,none⟩),.int .i64 who,.int .i64 a,.int .i64 b] w (EdPost w (delE S who a b) (delL S who a b)):=by
 have d:Hid (delE S who a b=1):=by unfold Hid delE;rw[if_pos hw]
 have C:=fun w=>aCB who w (fY.1 hw)
 clear hw;go_in;go_wp2_with fail;refine(C _).mono ?_;rintro e w2 ⟨rfl,hw⟩;have c:=hw.symm;subst c;clear hw C;go_wp2_with fail;go_ret2;exact EdPost.no d.out (by decide) (qD _ _)
theorem aB2(a b:Int)(w:World)(h:DocAt w D S F)(hw1:1<=who)(hw8:who<=8)(ho:a<0\/b<a\/((seenP S.book).length:Int)<b):
  Calls prog 76 #[.pointer (some ⟨D,0,none⟩),.int .i64 who,.int .i64 a,.int .i64 b] w (EdPost w (delE S who a b) (delL S who a b)):=by
 have t:Hid (delE S who a b=1):=by unfold Hid delE;rw[bN.2 ⟨hw1,hw8⟩,if_neg (by simp),if_pos ho]
 have C:=fun w=>mV who w hw1 hw8
 have k:=eJ D S F w h;have i:=bR h.inv;have v:=z9 i;obtain⟨m,j⟩:=zx ((seenP S.book).length);rw[<-j] at ho;have y:=z9 j;have l:a<0\/(¬a<0/\b<a)\/(¬a<0/\¬b<a/\(m:Int)<b):=by omega
 clear h hw1 hw8 j i ho;rcases l with h1 | ⟨h1,h2⟩ | ⟨h1,h2,i⟩
 all_goals
  go_in;go_wp2_with fail;refine(C _).mono ?_;rintro e w2 ⟨rfl,n⟩;have o:=n.symm;subst o;clear n C;go_wp2_with fail;refine k.mono ?_;rintro e w3 ⟨z,rfl,c,d⟩;have p:=eK z S.book w3 c.1 (by have:=v.out;omega);have q:=z9 d;clear k c d;go_wp2_with fail;refine p.mono ?_;rintro e w4 ⟨G,rfl,f,g⟩;obtain⟨H,I,rfl,r⟩:=f.shape;rw[<-y.out] at r |-;have s:=z9 (bel q.out g);clear f g p;go_wp2_with fail;go_ret2;exact EdPost.no t.out (by decide) s.out
theorem aBM(h:DocAt w D S F)(hw1:1<=who)(hw8:who<=8)(ho:a+n<=(seenP S.book).length):
  Calls prog 76 #[.pointer (some ⟨D,0,none⟩),.int .i64 who,.int .i64 (a:Int),.int .i64 ((a:Int)+n)] w (EdPost w 0 (delL S who a ((a+n:Nat):Int))):=by
 have C:=fun w=>mV who w hw1 hw8
 have CB:=eJ D S F w h;have HD:=z9 h;have Q:=bR h.inv;have h4:=dA S.book;have H3:=z9 Q;obtain⟨m,hm⟩:=zx ((seenP S.book).length);have E:=z9 hm;have a6:m<=300:=by omega
 have ax:a+n<=m:=by omega
 have q1:¬(a:Int)<0:=by omega
 have q2:¬((a:Int)+n)<a:=by omega
 have q3:¬(m:Int)<(a:Int)+n:=by omega
 have q4:(0:Int)<=(a:Int):=by omega
 have q5:(a:Int)<=(a:Int)+n:=by omega
 have q6:(a:Int)+n<=m:=by omega
 have G:Hid (1<=who/\who<=8):=⟨hw1,hw8⟩;have J:=z9 (aGe S who a n);obtain⟨i0,hi,K,M,N⟩:=info_parts Ii.jI;have s:Hid ((a:Int)+n-a=n):=by unfold Hid;omega
 clear h hw1 hw8 hm Q h4 ho;go_in;go_wp2_with fail;refine(C _).mono ?_;rintro e w2 ⟨rfl,hw⟩;have al:=hw.symm;subst al;clear hw C;go_wp2_with fail;refine CB.mono ?_;rintro e w3 ⟨vb,rfl,R,T⟩;have CP:=eK vb S.book w3 R.1 (by have:=H3.out;omega);have an:=z9 T;clear CB R T;go_wp2_with fail;refine CP.mono ?_;rintro e w4 ⟨v1,rfl,O,U⟩;have f:=z9 (bel an.out U)
 obtain⟨p1,c1,ao,a7,a8,P⟩:∃p c,v1=.slice p m c/\m<=c/\c<=maxLen/\Hid ((p=none/\m=0/\c=0)\/∃g,p=some (zA g)/\∀j,j<m->w4.cell? ⟨g,j,none⟩=some (.string ((seenP S.book).getD j ⟨#[]⟩))):=by
  have hr:=O.row;rcases O.2 with⟨e,e0⟩ | ⟨g,cap,cur,rfl,h1,h2,Q,h4,_⟩
  ·exact⟨none,0,by rw[e,E.out,e0],by rw[E.out,e0];exact qC _,by unfold maxLen;omega,qH ⟨rfl,by rw[E.out,e0],rfl⟩⟩
  ·refine⟨some (zA g),cap,by rw[E.out],by rw[E.out];exact Q,h4,qF ⟨g,rfl,fun j hj=> ?_⟩⟩;rw[E.out] at hj;have:=hr.cells (g:=g) rfl j (.string ((seenP S.book).getD j ⟨#[]⟩)) (by rw[qT,qB hj,qA,qB hj];rfl);rw[jU,qY] at this;exact this
 subst ao;clear O U CP;have q7:(m:Int)<=c1:=by omega
 have q8:(a:Int)+n<=c1:=by omega
 have a9:(0<=(a:Int)/\(a:Int)<=(a:Int)+n)/\(a:Int)+n<=(m:Int):=⟨⟨by omega,by omega⟩,by omega⟩;by_cases X:n=0
 ·have H0:=z9 X;clear X;rcases P.out with⟨rfl,e2,e3⟩ | ⟨g,rfl,hcs⟩
  ·clear P e2 e3;go_wp2_with (at_make;refine wpList_make_full _ rfl (.tmp 39) (.tmp 39) 50 rfl w.heap.size 97 i0 (.agg #[zI 0,zI 0,zI 0,.string ⟨#[]⟩,zI 0,zS]) 6 Tryz.underlying50 hi K M .i64 .i64 ((a:Int)+n-a) ((a:Int)+n-a) n rfl rfl s.out s.out (by rw[N];omega) (by unfold maxLen;omega) f.out.size ?_;intro w5 hown hgrow;have d:Hid (OpsSt w n (delQ S a n) w4.heap.size 0 w5 []):=⟨dF hgrow f.out,rT hown,rfl,fun y hy=>(by cases hy)⟩;clear hown hgrow)
   all_goals
    go_loopw [46] (fun vi wr=>∃(k:Nat) (L:List (Ox × Value)),k<=n/\vi=zI k/\Hid (OpsSt w n (delQ S a n) w4.heap.size k wr L)) (fun vi _=>n-(intOf vi).toNat)
    case atStart=>exact⟨0,[],by omega,rfl,d⟩
    case round=>
     clear d;obtain⟨k,L,hk,rfl,b⟩:=hrel;obtain rfl:n=k:=by have:=H0.out;omega
     have A:¬(n:Int)<n:=by omega
     have t:OpsNew w.heap.size wr (.slice (some (zW w4)) n n) (delQ S a n):=by
      refine⟨w4.heap.size,L,by rw[bQ],f.out.size, ?_,by rw[bQ];exact b.out.row,by rw[bQ];omega,b.out.own⟩;rw[b.out.ls,qW (by rw[bQ];exact qC _)]
     have r:=fD D S F who w.heap.size (delQ S a n) (.slice (some (zW w4)) n n) wr (HD.out.below b.out.bl) G.out.1 G.out.2 t b.out.bl.size (by rw[bQ];omega);rw[J.out] at r;clear t;go_wp2_with fail;refine r.mono ?_;rintro e w6 ⟨rfl,l,o⟩;have v:=z9 l;have z:=z9 (b.out.bl.trans o);clear r l o;go_wp2_with fail;go_ret2;exact⟨_,rfl,fun _=>v.out,fun e=>absurd rfl e,z.out⟩
  ·clear P hcs;go_wp2_with (at_make;refine wpList_make_full _ rfl (.tmp 39) (.tmp 39) 50 rfl w.heap.size 97 i0 (.agg #[zI 0,zI 0,zI 0,.string ⟨#[]⟩,zI 0,zS]) 6 Tryz.underlying50 hi K M .i64 .i64 ((a:Int)+n-a) ((a:Int)+n-a) n rfl rfl s.out s.out (by rw[N];omega) (by unfold maxLen;omega) f.out.size ?_;intro w5 hown hgrow;have d:Hid (OpsSt w n (delQ S a n) w4.heap.size 0 w5 []):=⟨dF hgrow f.out,rT hown,rfl,fun y hy=>(by cases hy)⟩;clear hown hgrow)
   all_goals
    go_loopw [46] (fun vi wr=>∃(k:Nat) (L:List (Ox × Value)),k<=n/\vi=zI k/\Hid (OpsSt w n (delQ S a n) w4.heap.size k wr L)) (fun vi _=>n-(intOf vi).toNat)
    case atStart=>exact⟨0,[],by omega,rfl,d⟩
    case round=>
     clear d;obtain⟨k,L,hk,rfl,b⟩:=hrel;obtain rfl:n=k:=by have:=H0.out;omega
     have A:¬(n:Int)<n:=by omega
     have t:OpsNew w.heap.size wr (.slice (some (zW w4)) n n) (delQ S a n):=by
      refine⟨w4.heap.size,L,by rw[bQ],f.out.size, ?_,by rw[bQ];exact b.out.row,by rw[bQ];omega,b.out.own⟩;rw[b.out.ls,qW (by rw[bQ];exact qC _)]
     have r:=fD D S F who w.heap.size (delQ S a n) (.slice (some (zW w4)) n n) wr (HD.out.below b.out.bl) G.out.1 G.out.2 t b.out.bl.size (by rw[bQ];omega);rw[J.out] at r;clear t;go_wp2_with fail;refine r.mono ?_;rintro e w6 ⟨rfl,l,o⟩;have v:=z9 l;have z:=z9 (b.out.bl.trans o);clear r l o;go_wp2_with fail;go_ret2;exact⟨_,rfl,fun _=>v.out,fun e=>absurd rfl e,z.out⟩
 ·have a1:¬c1=a:=by omega
  rcases P.out with⟨rfl,e2,e3⟩ | ⟨g,rfl,hcs⟩
  ·omega
  ·have Y:=z9 hcs;clear P hcs;go_wp2_with (at_make;refine wpList_make_full _ rfl (.tmp 39) (.tmp 39) 50 rfl w.heap.size 97 i0 (.agg #[zI 0,zI 0,zI 0,.string ⟨#[]⟩,zI 0,zS]) 6 Tryz.underlying50 hi K M .i64 .i64 ((a:Int)+n-a) ((a:Int)+n-a) n rfl rfl s.out s.out (by rw[N];omega) (by unfold maxLen;omega) f.out.size ?_;intro w5 hown hgrow;have d:Hid (OpsSt w n (delQ S a n) w4.heap.size 0 w5 []):=⟨dF hgrow f.out,rT hown,rfl,fun y hy=>(by cases hy)⟩;have Z:Hid (∀j,j<m->w5.cell? ⟨g,j,none⟩=some (.string ((seenP S.book).getD j ⟨#[]⟩))):=(fun j hj=>aA (dF (w:=w4) hgrow (qD _ _)) (Y.out j hj));clear hown hgrow);go_loopw [46] (fun vi wr=>∃(k:Nat) (L:List (Ox × Value)),k<=n/\vi=zI k/\Hid (OpsSt w n (delQ S a n) w4.heap.size k wr L)/\Hid (∀j,j<m->wr.cell? ⟨g,j,none⟩=some (.string ((seenP S.book).getD j ⟨#[]⟩)))) (fun vi _=>n-(intOf vi).toNat)
   case atStart=>exact⟨0,[],by omega,rfl,d,Z⟩
   case round=>
    clear d Z;obtain⟨k,L,hk,rfl,b,aa⟩:=hrel;by_cases q:k<n
    ·have A:(k:Int)<n:=by omega
     have ar:=aa.out (a+k) (by omega);obtain⟨p,hp⟩:=zx ((seenP S.book).getD (a+k) ⟨#[]⟩);rw[<-hp] at ar;have HX:Hid ((((0,0),2,p,0,[]):Ox)=(delQ S a n).getD k oz):=by unfold Hid;rw[aDC q,hp]
     have ab:g≠w4.heap.size:=by
      have:=qJ _ _ (Y.out (a+k) (by omega));simp only at this;omega
     have au:Hid (∀j,j<m->(w6s wr w4.heap.size (k*6) ((0,0),2,p,0,[]) (zS)).cell? ⟨g,j,none⟩=some (.string ((seenP S.book).getD j ⟨#[]⟩))):=fun j hj=>(aM (pF _ _ _ _ _ _ ab)).trans (aa.out j hj)
     obtain⟨⟨y0,z0⟩,g0⟩:=b.out.row.eA q 0 (by omega);obtain⟨⟨y1,z1⟩,g1⟩:=b.out.row.eA q 1 (by omega);obtain⟨⟨y2,z2⟩,g2⟩:=b.out.row.eA q 2 (by omega);obtain⟨⟨y3,z3⟩,g3⟩:=b.out.row.eA q 3 (by omega);obtain⟨⟨y4,z4⟩,g4⟩:=b.out.row.eA q 4 (by omega);obtain⟨⟨y5,z5⟩,g5⟩:=b.out.row.eA q 5 (by omega);rw[vL] at z0 g0;have av:Hid (OpsSt w n (delQ S a n) w4.heap.size (k+1) (w6s wr w4.heap.size (k*6) ((0,0),2,p,0,[]) (zS)) (L++[(((0,0),2,p,0,[]),zS)])):=b.out.put f.out.size (by rw[bQ]) q HX.out (jT _ _ _ _);clear hp ab;go_wp2_with fail;go_roundw
     case rel=>exact⟨k+1,_,by omega,by go_num,av,au⟩
     case measure=>simp[intOf];omega
    ·obtain rfl:n=k:=by omega
     have A:¬(n:Int)<n:=by omega
     have t:OpsNew w.heap.size wr (.slice (some (zW w4)) n n) (delQ S a n):=by
      refine⟨w4.heap.size,L,by rw[bQ],f.out.size, ?_,by rw[bQ];exact b.out.row,by rw[bQ];omega,b.out.own⟩;rw[b.out.ls,qW (by rw[bQ];exact qC _)]
     have r:=fD D S F who w.heap.size (delQ S a n) (.slice (some (zW w4)) n n) wr (HD.out.below b.out.bl) G.out.1 G.out.2 t b.out.bl.size (by rw[bQ];omega);rw[J.out] at r;clear t;go_wp2_with fail;refine r.mono ?_;rintro e w6 ⟨rfl,l,o⟩;have v:=z9 l;have z:=z9 (b.out.bl.trans o);clear r l o;go_wp2_with fail;go_ret2;exact⟨_,rfl,fun _=>v.out,fun e=>absurd rfl e,z.out⟩
theorem aCl(a b:Int)(w:World)(h:DocAt w D S F):
  Calls prog 76 #[.pointer (some ⟨D,0,none⟩),.int .i64 who,.int .i64 a,.int .i64 b] w (EdPost w (delE S who a b) (delL S who a b)):=by
 cases hw:Pm.isWho who with
 | false=>exact aCH D S F who a b w hw
 | true=>
  obtain⟨d,e⟩:=bN.1 hw
  by_cases f:a<0\/b<a\/((seenP S.book).length:Int)<b
  ·exact aB2 D S F who a b w h d e f
  ·have i:delE S who a b=0:=by unfold delE;rw[hw,if_neg (by simp),if_neg f]
   obtain⟨x,j⟩:∃x:Nat,a=x:=⟨a.toNat,by omega⟩
   obtain⟨n,k⟩:∃n:Nat,b=((x+n:Nat):Int):=⟨(b-a).toNat,by omega⟩
   subst j k
   rw[i]
   have:=aBM D S F who x n w h d e (by omega)
   rw[show((x:Int)+(n:Int))=((x+n:Nat):Int) by omega] at this
   exact this
end Uq
namespace Ur
open Cm Oi Ie Ue Uf
open La (bel aD aH)
theorem aBK{m:Mk}(h:markE m=0):Pm.chk m.1.toList=0:=by
 unfold markE at h;by_cases e:Pm.chk m.1.toList=0
 ·exact e
 ·rw[if_pos e] at h;exact h
theorem aBp{l:List Mk}(h:marksE l=0):∀x ∈ l,x.1.size<=maxLen:=fun x hx=>cE (aBK ((aY.1 h).2.1 x hx))
theorem aDI{S:Dq}{who off:Int}(h:atE S who off≠0):fusE S who off=atE S who off:=by unfold fusE;rw[if_pos h]
variable (D:Nat)(S:Dq)(F:Nat->Prop)(who off:Int)(w:World)
theorem aHI(h:DocAt w D S F)(h0:atE S who off=0):
  Calls prog 78 #[.pointer (some ⟨D,0,none⟩),.int .i64 who,.int .i64 off] w (EdPost w (fusE S who off) (fusL S who off)):=by
 have C:=sD D S F who off w h;have J:=z9 h;obtain⟨⟨q,r⟩,_⟩:=fF.1 h0;obtain⟨a,_⟩:=aIP h.inv h0;rw[h0,show atV S who off=atP S off by unfold atV;rw[if_pos h0],aD] at C;obtain⟨p,o⟩:=zx (atP S off);rw[<-o] at C a;have K:Hid (fusE S who off=if dotsAt S.marks p=[] then 5 else 0):=by unfold Hid fusE;rw[if_neg (by simpa using h0),o]
 have HL:Hid (redot who (kn S who) [((0,0),4,p,0,dotsAt S.marks p)]=fusL S who off):=by unfold Hid fusL redot;rw[o];simp
 have L:Hid (1<=who/\who<=8):=⟨q,r⟩;have M:=z9 (iL.2 ⟨h.inv.marks,a⟩);have N:=z9 (aBp h.inv.marks);have O:=z9 (cE a);clear h h0 o q r a;go_in;go_wp2_with fail;refine C.mono ?_;rintro e w2 ⟨rfl,i⟩;have P:=z9 i;have Q:=oO D S F w2 (J.out.below i);clear i C;go_wp2_with fail;refine Q.mono ?_;rintro e w3 ⟨vm,rfl,j,s⟩;obtain⟨pm,nm,cm,rfl⟩:∃p n c,vm=.slice p n c:=by obtain⟨p,c,e,_⟩:=j.1;exact⟨_,_,_,e⟩
 have t:=z9 (bel P.out s);have R:=Ni.aGD pm nm cm S.marks p w3 j.1 N.out O.out M.out;clear Q j s;go_wp2_with fail;refine R.mono ?_;rintro e w4 ⟨v4,rfl,k,v⟩;have b:=z9 (bel t.out v);have T:=z9 (lR k t.out.size);obtain⟨U,f,V,rfl,y⟩:=aG k;clear R k v;by_cases g:dotsAt S.marks p=[]
 ·have z:f=0:=by rw[y.out,g];rfl
  subst z;have X:Hid (fusE S who off=5):=by unfold Hid;rw[K.out,if_pos g]
  clear g;go_wp2_with fail;go_ret2;exact EdPost.no X.out (by decide) b.out
 ·have A:Hid (fusE S who off=0):=by unfold Hid;rw[K.out,if_neg g]
  have z:0<f:=by rw[y.out];exact yF.2 g
  have ah:((f:Int)==0)=false:=by simp;omega
  have ai:¬f=0:=by omega
  have Y:=aCZ (B:=w.heap.size) w4 ((0,0),4,p,0,dotsAt S.marks p) (.slice U f V) b.out.size T.out;have l:Hid (zB w (w4.alloc (.cells #[zI 0,zI 0,zI 4,.string p,zI 0,.slice U f V] 97))):=b.out.alloc b.out.size _;have I:=fD D S F who w.heap.size [((0,0),4,p,0,dotsAt S.marks p)] (.slice (some (zW w4)) 1 1) _ (J.out.below l.out) L.out.1 L.out.2 Y l.out.size (by simp);rw[HL.out] at I;clear g Y;go_wp2_with fail;refine I.mono ?_;rintro e w6 ⟨rfl,E,G⟩;have Z:=z9 E;have aa:=z9 (l.out.trans G);clear I E G;go_wp2_with fail;go_ret2;exact⟨_,by rw[A.out];rfl,fun _=>Z.out,fun e=>absurd A.out e,aa.out⟩
theorem aFF(h:DocAt w D S F):
  Calls prog 78 #[.pointer (some ⟨D,0,none⟩),.int .i64 who,.int .i64 off] w (EdPost w (fusE S who off) (fusL S who off)):=by
 rcases atE_cases S who off with h0 | h0
 ·exact aHI D S F who off w h h0
 ·have C:=sD D S F who off w h;rw[h0,show atV S who off=⟨#[]⟩ by unfold atV;rw[h0];rfl,aH (by decide)] at C;have d:Hid (fusE S who off=1):=by unfold Hid;rw[aDI (by rw[h0];decide)];exact h0
  clear h h0;go_in;go_wp2_with fail;refine C.mono ?_;rintro e w2 ⟨rfl,a⟩;have b:=z9 a;clear a C;go_wp2_with fail;go_ret2;exact EdPost.no d.out (by decide) b.out
end Ur
end Go.Proofs.YtjcemlmlfoilmaaGreatDoor
