import Derived.Test.YtjcemlmlfoilmaaGreatDoorAc
import Derived.Test.YtjcemlmlfoilmaaGreatDoorV2
set_option linter.unusedSimpArgs false
set_option linter.unusedVariables false
set_option maxRecDepth 100000
set_option maxHeartbeats 8000000
namespace Go.Proofs.YtjcemlmlfoilmaaGreatDoor
open Go.RowKit Ka Om Oa Oz Ia Im Aa Ac Hm Um
namespace Ae
open Cm Na Oi If Ii Iq
open La (bel aD aH aS own_below Lies)
theorem jI:(Tryz.prog.info? 97).map (fun i=>(i.zero,i.size,i.bytes))=some (some (.agg #[.int .i64 0,.int .i64 0,.int .i64 0,.string ⟨#[]⟩,.int .i64 0,.slice none 0 0]),6,72):=by kernel_rfl
theorem oP(w:World)(x:Ox)(u:Value)(t:TypeId):∀j y,(flatO [(x,u)])[j]? =some y->(w.alloc (.cells #[.int .i64 x.1.1,.int .i64 x.1.2,.int .i64 x.2.1,.string x.2.2.1,.int .i64 x.2.2.2.1,u] t)).cell? ((⟨w.heap.size,0,none⟩:Addr).add j)=some y:=by
 intro j y hu;have e:flatO [(x,u)]=[zI x.1.1,zI x.1.2,zI x.2.1,.string x.2.2.1,zI x.2.2.2.1,u]:=rfl;rw[e] at hu;rw[jU,qY];simp only[World.cell?,(heap_alloc_new w (.cells #[zI x.1.1,zI x.1.2,zI x.2.1,.string x.2.2.1,zI x.2.2.2.1,u] t))];simpa using hu
variable {w w':World}{B n:Nat}{v:List Int}{L:List (Ox × Value)}{l:List Ox}(x:Ox)(u:Value)
theorem aGj(hu:u.oneCell'=true):∀y ∈ flatO [(x,u)],y.oneCell'=true:=by
 intro y hy;have e:flatO [(x,u)]=[zI x.1.1,zI x.1.2,zI x.2.1,.string x.2.2.1,zI x.2.2.2.1,u]:=rfl;rw[e] at hy;simp only[jD,vO,or_false] at hy;rcases hy with rfl | rfl | rfl | rfl | rfl | rfl
 all_goals first | rfl | exact hu
theorem cT{v:Value}{a b:List (Ox × Value)}{m:Nat}(hn:a.length=n)(hm:b.length=m)(h:w.ownsRow B 97 6 v (n+m) (flatO a++flatO b)):RowL B w v (a++b):=by
 unfold RowL;rw[qE,eH,hn,hm];exact h
theorem wF{C:Nat}{v u:Value}{s:List Dt}(hr:RowL B w v L)(hs:w.ownsRow C 80 2 u s.length (flatD s))(hg:w.grownBy w' v.ownBlock):w'.ownsRow C 80 2 u s.length (flatD s):=by
 refine aP hs fun g hg2=>hg.block g (aL hs g hg2).1 (fun e=> ?_)
 obtain⟨_,d,c⟩:=aL hs g hg2;obtain⟨_,f,a⟩:=aL hr g e.symm;rw[c] at a;injection a with a
 injection a with _ a _
 exact absurd a (by decide)
def aHj (k:Int) (L:List Ox):List Ox:=if k=0 then L else[]
def iH (w:World) (l:List Ox) (v:List Int) (e:Ending) (w':World):Prop:=∃p n c,e=.returned (.tuple #[.slice p n c,errV (lackE l v)])∧OpsJ (New w.heap.size w') (New w.heap.size w') w' (.slice p n c) (aHj (lackE l v) (lackL l v))∧Below w.heap.size w w'
theorem iH.no{k:Int}(h:lackE l v=k)(hk:k≠0)(hb:zB w w'):iH w l v (.returned (.tuple #[.slice none 0 0,.iface 59 (.int .i64 k)])) w':=
 ⟨none,0,0,by rw[h,aH hk],by rw[h];unfold aHj;rw[if_neg hk];exact OpsJ.nil _ _ _,hb⟩
theorem iH.yes{p:Option Addr}{c:Nat}(h:lackE l v=0)(hr:RowL w.heap.size w' (.slice p n c) L)(hd:∀y ∈ L,w'.ownsRow w.heap.size 80 2 y.2 y.1.2.2.2.2.length (flatD y.1.2.2.2.2))(hL:L.map (·.1)=lackL l v)(hb:zB w w'):iH w l v (.returned (.tuple #[.slice p n c,.nilIface])) w':=by
 refine⟨p,n,c,by rw[h,aD], ?_,hb⟩;rw[h];unfold aHj;rw[if_pos rfl,<-hL];exact OpsJ.own hr fun y hy=>⟨gO (hd y hy),fun a n c e hn=>⟨Lies.own (hd y hy) a n c e hn,(aL (hd y hy) a.block (by rw[e];rfl)).1⟩⟩
theorem aEY(vl vv:Value)(l:List Ox)(v:List Int)(w:World)(hl:OpsAt w vl l)(hsz:∀x ∈ l,x.2.2.1.size≤maxLen)(hv:KnAt w vv v):
  Calls Tryz.prog 80 #[vl,vv] w (iH w l v):=by
 obtain⟨q,c,rfl,hin,hlc,hcm,_⟩:=hl
 obtain⟨pv,cv,rfl,hvin⟩:=hv
 obtain⟨n,hn⟩:=zx l.length
 obtain⟨m,hm⟩:=zx v.length
 have hnm:n≤maxLen:=by omega
 have hnz:(n:Int)≤9223372036854775807:=by unfold maxLen at hnm;omega
 rw[←hn,←hm]
 have CV:Calls Tryz.prog 107 #[.slice pv m cv] w fun e w'=>e=.returned (errV (Dm.vecE v))∧w'=w:=Db.tW pv m cv v w hm.symm hvin
 have HN:=z9 hn.symm
 have HM:=z9 hm.symm
 have HI:=z9 hin
 have HV:=z9 hvin
 have HSZ:=z9 hsz
 have HLE:Hid (lackE l v=if Dm.vecE v≠0 then Dm.vecE v else packE l):=rfl
 obtain⟨k0,hk0⟩:=zx (Dm.vecE v)
 rw[←hk0] at CV HLE
 have HK0:=z9 hk0
 clear hin hsz hn hm hlc hcm hvin hk0
 by_cases hz:k0=0
 ·subst hz
  rw[aD] at CV
  have HLP:Hid (lackE l v=packE l):=by unfold Hid;rw[HLE.out,if_neg (by decide)]
  clear HLE
  by_cases h4:400<n
  ·have h4z:(400:Int)<n:=by omega
   have HLF:Hid (lackE l v=4):=by unfold Hid;rw[HLP.out];unfold packE;rw[HN.out,if_pos h4]
   go_in
   go_wp2_with fail
   refine CV.mono ?_
   rintro e w1 ⟨rfl,rfl⟩
   go_wp2_with fail
   go_ret2
   exact iH.no HLF.out (by decide) (qD _ _)
  ·have h4z:¬(400:Int)<n:=by omega
   have HLF:Hid (lackE l v=firstE l):=by unfold Hid;rw[HLP.out];unfold packE;rw[HN.out,if_neg h4]
   obtain⟨i0,hi,hz0,hz1,hzz2⟩:=info_parts jI
   go_in
   go_wp2_with fail
   refine CV.mono ?_
   rintro e w1 ⟨rfl,rfl⟩
   go_wp2_with fail
   go_loopw [7,24] (fun v7 vi wr=>∃(k:Nat) (L:List (Ox × Value)),k≤n∧vi=zI k∧(∃P N C,v7=.slice P N C)∧Hid (L.length≤k)∧Hid (RowL w1.heap.size wr v7 L)∧Hid (∀y ∈ L,wr.ownsRow w1.heap.size 80 2 y.2 y.1.2.2.2.2.length (flatD y.1.2.2.2.2))∧Hid (L.map (·.1)=lackL (l.take k) v)∧Hid (∀o ∈ l.take k,opE o=0)∧Hid (zB w1 wr)) (fun _ vi _=>n-(intOf vi).toNat)
   case atStart=>exact⟨0,[],by omega,rfl,⟨_,_,_,rfl⟩,jW _,jT _ _ _ _,fun y hy=>by simp at hy,rfl,fun o ho=>by simp at ho,qD _ _⟩
   case round=>
    obtain⟨k,L,hk,rfl,⟨p0,n0,c0,rfl⟩,HLK,HRW,HDW,HLM,HOK,HB⟩:=hrel
    by_cases hlt:k<n
    ·have hltz:(k:Int)<n:=by omega
     have hkl:k<l.length:=by rw[HN.out];exact hlt
     obtain⟨bo,oo,rfl,hc⟩:=HI.out.some (by intro e;rw[e] at hkl;simp at hkl)
     have ha0:=hc k hkl
     have hxm:=HSZ.out _ (cP hkl)
     have hstep:=wT (v:=v) hkl
     have hfst:=aB8 hkl HOK.out
     have htk:=Aa.eB hkl
     obtain⟨x,hx⟩:=zx (l.getD k oz)
     rw[←hx] at ha0 hxm hstep hfst htk
     have HST:=z9 hstep
     have HFS:=z9 hfst
     have HTK:=z9 htk
     obtain⟨⟨xa,xb⟩,xt,xp,xc,xs⟩:=x
     obtain⟨vx,⟨g0,g1,g2,g3,g4,g5⟩,hdx0⟩:=ha0
     simp only at g0 g1 g2 g3 g4 g5 hdx0 hxm
     obtain⟨ps,ns,cs,rfl⟩:∃pv nv cv,vx=.slice pv nv cv:=by obtain⟨_,_,e9,_⟩:=hdx0;exact⟨_,_,_,e9⟩
     have a0:=aA HB.out g0
     have a1:=aA HB.out g1
     have a2:=aA HB.out g2
     have a3:=aA HB.out g3
     have a4:=aA HB.out g4
     have a5:=aA HB.out g5
     obtain⟨W1,hW1⟩:=zx (wr.alloc (.cells #[zI xa,zI xb,zI xt,.string xp,zI xc,.slice ps ns cs] 97))
     have HBW:Hid (zB wr W1):=by rw[hW1];exact(qD _ _).alloc (qC _) _
     have HS1:Hid (Six W1 wr.heap.size xa xb xt xp xc (.slice ps ns cs)):=by rw[hW1];exact aT wr xa xb xt xp xc (.slice ps ns cs) 97
     have HB1:=z9 (bel HB.out HBW.out)
     have HDX:Hid (∀W,zB w1 W→DtsAt W (.slice ps ns cs) xs):=fun W hb=>hdx0.below hb
     have C1:=Vc.cM xa xb xt xp xc (.slice ps ns cs) xs W1 (HDX.out _ HB1.out) hxm
     obtain⟨s0,s1,s2,s3,s4,s5⟩:=aT wr xa xb xt xp xc (.slice ps ns cs) 97
     rw[hW1] at C1
     clear hc hx hkl hdx0 hxm hstep hfst htk g0 g1 g2 g3 g4 g5
     go_wp2_with fail
     refine C1.mono ?_
     rw[←hW1]
     rintro e w3 ⟨he,hb3⟩
     have HB3:=z9 (bel HB1.out hb3)
     have HX3:=z9 hb3
     clear a0 a1 a2 a3 a4 a5 s0 s1 s2 s3 s4 s5 C1 hb3 hW1
     by_cases hz9:opE ((xa,xb),xt,xp,xc,xs)=0
     ·rw[hz9,aD] at he
      subst he
      have HOZ:=z9 hz9
      have HDV:Hid (dotE xa xb=0):=(aO.1 hz9).1
      have HSL:Hid (xs.length≤1048576):=by
       have h40:xs.length≤40:=(bB.1 (aO.1 hz9).2.2.2).2.2.2.1
       unfold Hid;omega
      obtain⟨s0,s1,s2,s3,s4,s5⟩:=HS1.out.below HX3.out
      have CH:=Dd.aDm pv m cv v xa xb w3 HM.out (HV.out.below HB3.out)
      obtain⟨hb9,hhb⟩:=zx (Dm.hasB v xa xb)
      obtain⟨k9,hk9⟩:=zx (Za.errV (Dm.withE v xa xb))
      rw[←hhb,←hk9] at CH
      have HLX:Hid (lacks v ((xa,xb),xt,xp,xc,xs)= !hb9):=by
       unfold Hid lacks
       rw[hhb]
       have hw:Dm.withE v xa xb=0:=by unfold Dm.withE;rw[if_pos HK0.out.symm];exact HDV.out
       unfold Dm.hasB
       rw[hw,decide_eq_true rfl,yY];rfl
      clear hz9 hhb hk9
      go_wp2_with fail
      refine CH.mono ?_
      rintro e w4 ⟨rfl,hb4⟩
      have HB4:=z9 (bel HB3.out hb4)
      have HX4:=z9 (bel HX3.out hb4)
      have HR4:=z9 (bel HBW.out HX4.out)
      have HOK2:Hid (∀o ∈ l.take (k+1),opE o=0):=by
       intro o ho
       rw[HTK.out] at ho
       rcases jB.1 ho with ho | ho
       ·exact HOK.out o ho
       ·rw[qP.1 ho];exact HOZ.out
      clear hb4 CH s0 s1 s2 s3 s4 s5
      cases hb9
      ·
       have HL2:Hid (lackL (l.take (k+1)) v=lackL (l.take k) v++[((xa,xb),xt,xp,xc,xs)]):=by
        unfold Hid;rw[HST.out,HLX.out];rfl
       obtain⟨s0,s1,s2,s3,s4,s5⟩:=HS1.out.below HX4.out
       have CC:=tL xa xb xt xp xc (.slice ps ns cs) xs w4 (HDX.out w4 HB4.out) HSL.out
       go_wp2_with fail
       refine CC.mono ?_
       rintro e w5 ⟨v5,rfl,ho5,hb5⟩
       obtain⟨p5,n5,c5,hv5,_⟩:=aG ho5
       subst hv5
       have HB5:=z9 (bel HB4.out hb5)
       have HR5:=z9 (bel HR4.out hb5)
       have HO5:=z9 (lR ho5 HB4.out.size)
       have KW5:=z9 (own_below HRW.out HR5.out)
       have KD5:Hid (∀y ∈ L,w5.ownsRow w1.heap.size 80 2 y.2 y.1.2.2.2.2.length (flatD y.1.2.2.2.2)):=fun y hy=>own_below (HDW.out y hy) HR5.out
       have HN6:=z9 (oP w5 ((xa,xb),xt,xp,xc,xs) (.slice p5 n5 c5) 97)
       have HSZ6:Hid (∀O1,w1.heap.size≤(w5.alloc O1).heap.size):=fun O1=>by have:=HB5.out.size;simp;omega
       have HBX:Hid (∀O1,zB w5 (w5.alloc O1)):=fun O1=>(qD _ _).alloc (qC _) O1
       have hcap1:L.length+1≤maxLen:=by have:=HLK.out;unfold maxLen;omega
       have hcap2:(L.length+1)*72≤140737488355328:=by have:=HLK.out;omega
       clear hb5 CC ho5 s0 s1 s2 s3 s4 s5
       go_wp2_with (at_builtin;refine wpList_append_own_at _ rfl (.tmp 42) (.tmp 45) 50 rfl w1.heap.size 97 i0 (.agg #[zI 0,zI 0,zI 0,.string ⟨#[]⟩,zI 0,zS]) 6 72 Tryz.underlying50 hi hz0 hz1 hzz2 rfl (by decide) (.slice p0 n0 c0) L.length (flatO L) rfl (World.ownsRow.alloc KW5.out _) (zW w5) 1 1 (flatO [(((xa,xb),xt,xp,xc,xs),Value.slice p5 n5 c5)]) rfl rfl HN6.out (aGj _ _ rfl) hcap1 hcap2 (HSZ6.out _) ?_;intro v9 w9 hown9 hgrow9 _ hat9;have KW9:=z9 (cT rfl rfl hown9);have K9:Hid (zB w1 w9):=aS KW5.out (HB5.out.alloc HB5.out.size _) hgrow9 (HSZ6.out _);have KD9:Hid (∀y ∈ L++[(((xa,xb),xt,xp,xc,xs),Value.slice p5 n5 c5)],w9.ownsRow w1.heap.size 80 2 y.2 y.1.2.2.2.2.length (flatD y.1.2.2.2.2)):=(fun y hy=>by(rcases jB.1 hy with hy | hy);(exact wF (own_below KW5.out (HBX.out _)) (own_below (KD5.out y hy) (HBX.out _)) hgrow9);(rw[qP.1 hy];exact wF (own_below KW5.out (HBX.out _)) (own_below HO5.out (HBX.out _)) hgrow9));obtain⟨p9,N9,c9,hv9,_⟩:=aG KW9.out;subst hv9;clear hown9 hgrow9 hat9)
       go_roundw
       case rel=>exact⟨k+1,L++[(((xa,xb),xt,xp,xc,xs),Value.slice p5 n5 c5)],by omega,by go_num,⟨_,_,_,rfl⟩,by unfold Hid;rw[qE];have:=HLK.out;simp;omega,KW9,KD9,by unfold Hid;rw[HL2.out,xL,HLM.out];rfl,HOK2,K9⟩
       case measure=>simp[intOf];omega
      ·have HL2:Hid (lackL (l.take (k+1)) v=lackL (l.take k) v):=by
        unfold Hid;rw[HST.out,HLX.out];simp
       go_wp2_with fail
       go_roundw
       case rel=>exact⟨k+1,L,by omega,by go_num,⟨_,_,_,rfl⟩,by unfold Hid;have:=HLK.out;omega,own_below HRW.out HR4.out,fun y hy=>own_below (HDW.out y hy) HR4.out,by unfold Hid;rw[HL2.out,HLM.out],HOK2,HB4⟩
       case measure=>simp[intOf];omega
     ·have HE:Hid (lackE l v=opE ((xa,xb),xt,xp,xc,xs)):=by unfold Hid;rw[HLF.out,HFS.out hz9]
      have HZ9:=z9 hz9
      rw[aH hz9] at he
      obtain⟨ez,hez⟩:=zx (opE ((xa,xb),xt,xp,xc,xs))
      rw[←hez] at he HE HZ9
      subst he
      clear hz9 hez HFS HST HTK HDX HS1
      go_wp2_with fail
      go_ret2
      exact iH.no HE.out HZ9.out HB3.out
    ·obtain rfl:n=k:=by omega
     have hltz:¬(n:Int)<n:=by omega
     have htk:Hid (l.take n=l):=by unfold Hid;rw[←HN.out,yJ]
     go_wp2_with fail
     go_ret2
     rw[htk.out] at HLM HOK
     exact iH.yes (by rw[HLF.out];exact pU.2 HOK.out) HRW.out HDW.out HLM.out HB.out
 ·have HLF:Hid (lackE l v=k0):=by unfold Hid;rw[HLE.out,if_pos hz]
  rw[aH hz] at CV
  have HZ:=z9 hz
  clear hz
  go_in
  go_wp2_with fail
  refine CV.mono ?_
  rintro e w1 ⟨rfl,rfl⟩
  go_wp2_with fail
  go_ret2
  exact iH.no HLF.out HZ.out (qD _ _)
end Ae
namespace Af
open Kb Oc Ik
open La (aD aH)
def aIY (w:World) (D:Nat) (S:Dq) (F:Nat→Prop) (L:List Ox) (e:Ending) (w':World):Prop:=
 e=.returned (.tuple #[.int .i64 (takeN S L),errV (runE S L)])∧∃F',DocAt w' D (runS S L) F'∧Chg F w w'∧∀g,F' g→F g∨w.heap.size≤g
theorem aGK(D:Nat)(S:Dq)(F R Q:Nat->Prop)(v:Value)(L:List Ox)(w:World)(h:DocAt w D S F)(ho:OpsJ R Q w v L)(hG:∀g,R g\/Q g->g<w.heap.size/\¬F g)(hsz:∀x ∈ L,x.2.2.1.size<=maxLen):
  Calls Tryz.prog 84 #[.pointer (some ⟨D,0,none⟩),v] w (aIY w D S F L):=by
 obtain⟨q,c,rfl,al,bc,bd,_⟩:=ho;obtain⟨n,hn⟩:=zx L.length;have be:n<=maxLen:=by omega
 have b4:(n:Int)<=9223372036854775807:=by unfold maxLen at be;omega
 rw[<-hn];have HN:=z9 hn.symm;have HI:=z9 al;have HG:=z9 hG;have bg:=z9 hsz;have am:=z9 h;clear h al hG hsz hn bc bd;go_in;go_wp2_with fail;go_loopw [6,13] (fun vm vi wr=>∃(k:Nat) (m:Int) (I:Nat->Prop),k<=n/\vi=zI k/\vm=zI m/\0<=m/\m<=k/\Hid (m=cntN S (L.take k))/\Hid (DocAt wr D (runS S (L.take k)) I)/\Hid (∀g,I g->F g\/w.heap.size<=g)/\Hid (Chg F w wr)/\Hid (runE S (L.take k)=0)) (fun _ vi _=>n-(intOf vi).toNat)
 case atStart=>exact⟨0,0,F,by omega,rfl,rfl,by omega,by omega,rfl,am,fun g hg=>qH hg,Chg.refl _ _,rfl⟩
 case round=>
  clear am;obtain⟨k,m,I,hk,rfl,rfl,bh,b5,P,y,z,i,j⟩:=hrel;by_cases bi:k<n
  ·have ay:(k:Int)<n:=by omega
   have a:k<L.length:=by rw[HN.out];exact bi
   obtain⟨bo,oo,rfl,_,hc⟩:=(HI.out.stay (i.out.stay fun g hg=>HG.out g (qH hg)) (i.out.stay fun g hg=>HG.out g (qF hg))).some (by intro e;rw[e] at a;simp at a);have ha:=hc k a;have A:=bg.out _ (cP a);obtain⟨T,U⟩:=aAe (S:=S) a j.out;have V:=nH (S:=S) a j.out;have X:=aDL (S:=S) a j.out;obtain⟨x,hx⟩:=zx (L.getD k oz);rw[<-hx] at ha A T U V X;have Y:=z9 T;have Z:=z9 U;have B:=z9 X;have aa:=z9 V;obtain⟨⟨o,p⟩,r,s,t,xs⟩:=x;obtain⟨vx,⟨a0,a1,a2,a3,a4,a5⟩,E,ao⟩:=ha;simp only at a0 a1 a2 a3 a4 a5 E A;obtain⟨J,K,M,rfl⟩:∃J K M,vx=.slice J K M:=by obtain⟨_,_,e9,_⟩:=E;exact⟨_,_,_,e9⟩
   have ac:In (fun g=>¬I g) (.slice J K M):=ao.mono fun g hg hf=>by
    obtain⟨q1,q2⟩:=HG.out g (qF hg);rcases z.out g hf with e | e
    ·exact q2 e
    ·omega
   have G:Hid (zB wr (wr.alloc (.cells #[zI o,zI p,zI r,.string s,zI t,.slice J K M] 97))):=(qD _ _).alloc (qC _) _;obtain⟨Sk,ap⟩:=zx (runS S (L.take k));rw[<-ap] at Y Z B aa y;have C:=uZ D Sk I o p r s t (.slice J K M) xs _ (y.out.below G.out) (E.below G.out) ac A;obtain⟨e0,e1,e2,e3,e4,e5⟩:=aT wr o p r s t (.slice J K M) 97;clear hc hx a E A T U V X ac ao ap;go_wp2_with fail;refine C.mono ?_;rintro e w7 ⟨N,_,O,l,ae,af⟩;have ag:Hid (Chg F w w7):=(i.out.trans (Chg.ofBelow G.out F)).next ae z.out
   have ah:Hid (∀g,O g->F g\/w.heap.size<=g):=fun g hg=>by
    rcases af g hg with e | e
    ·exact z.out g e
    ·exact qF (qO i.out.size (qO G.out.size e))
   obtain⟨bn,ai⟩:=zx (isNew Sk ((o,p),r,s,t,xs));rw[<-ai] at N B;by_cases b:apE Sk ((o,p),r,s,t,xs)=0
   ·rw[b,aD] at N;subst N;have H:Hid (DocAt w7 D (runS S (L.take (k+1))) O):=by unfold Hid;rw[Z.out b];exact l
    have aq:Hid (runE S (L.take (k+1))=0):=by unfold Hid;rw[Y.out,b]
    have ar:Hid (cntN S (L.take (k+1))=m+(if bn then 1 else 0)):=by unfold Hid;rw[B.out b,P.out]
    clear l ae af ai b C a0 a1 a2 a3 a4 a5 e0 e1 e2 e3 e4 e5;cases bn
    ·go_wp2_with fail;go_roundw
     case rel=>exact⟨k+1,m,O,by omega,by go_num,rfl,bh,by omega,by unfold Hid;rw[ar.out];simp,H,ah,ag,aq⟩
     case measure=>simp[intOf];omega
    ·go_wp2_with fail;go_roundw
     case rel=>exact⟨k+1,m+1,O,by omega,by go_num,rfl,by omega,by omega,by unfold Hid;rw[ar.out];rfl,H,ah,ag,aq⟩
     case measure=>simp[intOf];omega
   ·obtain⟨z1,z2⟩:=aa.out b;rw[aH b] at N;have au:Hid (errV (runE S L)=.iface 59 (zI (apE Sk ((o,p),r,s,t,xs)))):=by unfold Hid;rw[z1,aH b]
    have bw:Hid (takeN S L=0):=by unfold Hid takeN;rw[z1,if_pos b]
    have H:Hid (DocAt w7 D (runS S L) O):=by unfold Hid;rw[iQ b] at l;rw[z2];exact l
    obtain⟨ez,av⟩:=zx (apE Sk ((o,p),r,s,t,xs));rw[<-av] at N au;subst N;clear l ae af ai b C a0 a1 a2 a3 a4 a5 e0 e1 e2 e3 e4 e5 z1 z2 av Y Z B aa;go_wp2_with fail;go_ret2;exact⟨by rw[au.out,bw.out];rfl,O,H.out,ag.out,ah.out⟩
  ·obtain rfl:n=k:=by omega
   have ay:¬(n:Int)<n:=by omega
   have bx:Hid (L.take n=L):=by unfold Hid;rw[<-HN.out,yJ]
   go_wp2_with fail;go_ret2;rw[bx.out] at y j P;exact⟨by unfold takeN;rw[j.out,P.out,if_neg (by decide)];rfl,I,y.out,i.out,z.out⟩
theorem pC{l:List Ox}(h:∀o ∈ l,opE o=0):∀x ∈ l,x.2.2.1.size<=maxLen:=fun x hx=>by
 have h3:=(aO.1 (h x hx)).2.2.1
 by_cases h12:12<x.2.2.1.toList.length
 ·unfold Pm.chk at h3;rw[if_pos h12] at h3;cases h3
 ·rw[Om.aJ] at h12
  unfold maxLen;omega
theorem aIe{w w':World}{F:Nat->Prop}{D:Nat}{S:Dq}(h:DocAt w D S F):∀g,New w.heap.size w' g\/New w.heap.size w' g->g<w'.heap.size/\¬F g:=fun g hg=>by
 have hg:New w.heap.size w' g:=by rcases hg with e | e<;>exact e
 exact⟨hg.2,fun e=>by have:=h.lt g e;have:=hg.1;omega⟩
end Af
namespace Ag
open Ae Af Ov
open La (bel aD aH)
def qR (A:Dq) (v:List Int):ByteArray:=if Dm.vecE v≠0 then⟨#[]⟩ else packS (lackL A.ops v)
theorem aEp{A:Dq}(IA:Inv A)(v:List Int):lackE A.ops v=Dm.vecE v:=by
 unfold lackE;by_cases h:Dm.vecE v=0
 ·rw[if_neg (by simpa using h),h];exact dC.2 ⟨IA.few,IA.right⟩
 ·rw[if_pos h]
theorem lO{A:Dq}(IA:Inv A)(v:List Int):packE (lackL A.ops v)=0:=dC.2 ⟨qO (aA6 _ _) IA.few,fun o ho=>IA.right o (nI ho)⟩
theorem aCF(D : Nat)(A : Dq)(F : Nat -> Prop)(vv : Value)(v : List Int)(w : World)(h : DocAt w D A F)(hv : KnAt w vv v) :
  Calls Tryz.prog 52 #[.pointer (some ⟨D, 0, none⟩), vv] w fun e w' => e = .returned (.tuple #[.string (qR A v), errV (Dm.vecE v)]) /\ zB w w' := by
 have I := z9 h.inv;have z := z9 (pC h.inv.right);have J := z9 hv;have B := z9 (aEp h.inv v);obtain ⟨K, L, M, rfl⟩ : ∃ p n c, vv = .slice p n c := by obtain ⟨_, _, s, _⟩ := hv; exact ⟨_, _, _, s⟩
 have C := aDb D A F w h;clear h hv;obtain⟨k,t⟩:=zx (Dm.vecE v);have l := z9 t;go_in;go_wp2_with fail;refine C.mono ?_;rintro e w1 ⟨N, rfl, d, f⟩;have E := z9 f;obtain ⟨O, P, Q, rfl⟩ : ∃ p n c, N = .slice p n c := by obtain ⟨_, _, s, _⟩ := d.at; exact ⟨_, _, _, s⟩
 have G := aEY (.slice O P Q) (.slice K L M) A.ops v w1 d.at z.out (J.out.below f);clear d f C;go_wp2_with fail;refine G.mono ?_;rintro e w3 ⟨R, S, U, g, a, o⟩;rw [B.out, <- t] at g a;have q := z9 (bel E.out o);clear o G t;by_cases i : k = 0
 ·subst i;rw [aD] at g;subst g;unfold aHj at a;rw [if_pos rfl] at a;have j : Hid (qR A v = packS (lackL A.ops v)) := by unfold Hid qR; rw [<- l.out, if_neg (by decide)]
  have m := Vf.aEl (.slice R S U) (lackL A.ops v) w3 a.at (fun x hx => z.out x (nI hx));rw [lO I.out v, aD, <- j.out] at m;obtain⟨T,y⟩:=zx (qR A v);rw [<- y] at m;have V := z9 y;clear a y;go_wp2_with fail;refine m.mono ?_;rintro e w4 ⟨rfl, r⟩;have H := z9 (bel q.out r);clear r m;go_wp2_with fail;go_ret2;exact ⟨by rw [V.out, <- l.out, aD]; rfl, H.out⟩
 ·rw [aH i] at g;subst g;have j : Hid (qR A v = ⟨#[]⟩) := by unfold Hid qR; rw [<- l.out, if_pos i]
  have X := z9 i;clear i a;go_wp2_with fail;go_ret2;exact ⟨by rw [j.out, <- l.out, aH X.out]; rfl, q.out⟩
def OnPost (w:World) (D:Nat) (S:Dq) (F:Nat→Prop) (s:ByteArray) (e:Ending) (w':World):Prop:=
 e=.returned (.tuple #[.int .i64 (opnN S s),errV (opnE S s)])∧∃F',DocAt w' D (runS S (opnL s)) F'∧Chg F w w'∧∀g,F' g→F g∨w.heap.size≤g
theorem aHx(D:Nat)(S:Dq)(F:Nat->Prop)(s:ByteArray)(w:World)(h:DocAt w D S F)(hs:s.size<=maxLen)(hv:Hid ((unpB s.toList).isSome=true)):
  Calls Tryz.prog 56 #[.pointer (some ⟨D,0,none⟩),.string s] w (OnPost w D S F s):=by
 have H:=z9 h
 clear h
 cases hu:unpB s.toList with
 | none=>exact absurd hv.out (by rw[hu];simp)
 | some l=>
  have C:=Vn.kR s w l hs hu
  rw[aD] at C
  have a:Hid (opnL s=l):=by unfold Hid opnL;rw[hu];rfl
  have y:Hid (opnE S s=runE S l):=by unfold Hid opnE;rw[hu,a.out];rfl
  have z:Hid (opnN S s=takeN S l):=by unfold Hid opnN;rw[hu,a.out];rfl
  have A:Hid (∀x ∈ l,x.2.2.1.size<=maxLen):=by
   have:=pC (uV s)
   rw[a.out] at this;exact this
  clear hu
  go_in
  go_wp2_with fail
  refine C.mono ?_
  rintro e w1 ⟨I,rfl,i,b⟩
  have d:=z9 (OpsJ.kept i)
  obtain⟨J,K,L,rfl⟩:∃p n c,I=.slice p n c:=by obtain⟨_,_,B,_⟩:=d.out;exact⟨_,_,_,B⟩
  have j:=z9 b
  have E:=aGK D S F _ _ (.slice J K L) l w1 (H.out.below b) d.out (aIe H.out) A.out
  clear i b C d
  go_wp2_with fail
  refine E.mono ?_
  rintro e w2 ⟨f,M,k,m,o⟩
  rw[<-y.out,<-z.out] at f
  have N:Hid (OnPost w D S F s e w2):=⟨f,M,by rw[a.out];exact k,(Chg.ofBelow j.out F).trans m,fun g hg=>by
   rcases o g hg with e | e
   ·exact qH e
   ·exact qF (qO j.out.size e)⟩
  obtain⟨P,q⟩:=zx (opnN S s)
  obtain⟨B,r⟩:=zx (errV (opnE S s))
  rw[<-q,<-r] at f
  subst f
  clear k m o E q r y z a A
  go_wp2_with fail
  go_ret2
  exact N.out
end Ag
end Go.Proofs.YtjcemlmlfoilmaaGreatDoor
