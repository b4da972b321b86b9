import Derived.Test.YtlmdchpbpgcfmaaGreatDoorAc
import Derived.Test.YtlmdchpbpgcfmaaGreatDoorJ8
import Derived.Test.YtlmdchpbpgcfmaaGreatDoorV1
import Derived.Test.YtlmdchpbpgcfmaaGreatDoorV2
set_option linter.unusedSimpArgs false
set_option linter.unusedVariables false
set_option maxRecDepth 100000
set_option maxHeartbeats 8000000
/- What sync.Lacks answers. -/
namespace Go.Proofs.YtlmdchpbpgcfmaaGreatDoor
namespace Ae
open Go.ChangeShapes Go.WideShapes Go.ChangeAt Go.RowKit Cm Ka Kb Na Om Oa Oz Oc Og Oi Hm Ia Ib Ic Idc Ie If Ig Ih Ii Ij Ik Il Im Iq Aa Ac
open La (bel bel_drew errV_zero errV_ne own_ge own_grow own_below Lies)
theorem infoO:(Tryz.prog.info? 75).map (fun i=>(i.zero,i.size,i.bytes))=some (some (.agg #[.int .i64 0,.int .i64 0,.int .i64 0,.string ⟨#[]⟩,.int .i64 0,.slice none 0 0]),6,72):=by kernel_rfl
theorem op_new (w:World) (x:Ox) (u:Value) (t:TypeId):∀j y,(flatO [(x,u)])[j]? =some y→(w.alloc (.cells #[.int .i64 x.1.1,.int .i64 x.1.2,.int .i64 x.2.1,.string x.2.2.1,.int .i64 x.2.2.2.1,u] t)).cell? ((⟨w.heap.size,0,none⟩:Addr).add j)=some y:=by
 intro j y hu
 have h2:=heap_alloc_new w (.cells #[.int .i64 x.1.1,.int .i64 x.1.2,.int .i64 x.2.1,.string x.2.2.1,.int .i64 x.2.2.2.1,u] t)
 have e:flatO [(x,u)]=[.int .i64 x.1.1,.int .i64 x.1.2,.int .i64 x.2.1,.string x.2.2.1,.int .i64 x.2.2.2.1,u]:=rfl
 rw[e] at hu
 rw[Addr.add_lit,Nat.zero_add]
 simp only[World.cell?,h2]
 simpa using hu
theorem op_one (x:Ox) (u:Value) (hu:u.oneCell'=true):∀y ∈ flatO [(x,u)],y.oneCell'=true:=by
 intro y hy
 have e:flatO [(x,u)]=[.int .i64 x.1.1,.int .i64 x.1.2,.int .i64 x.2.1,.string x.2.2.1,.int .i64 x.2.2.2.1,u]:=rfl
 rw[e] at hy
 simp only[List.mem_cons,List.not_mem_nil,or_false] at hy
 rcases hy with rfl | rfl | rfl | rfl | rfl | rfl
 all_goals first | rfl | exact hu
theorem own_app {w:World} {B:Nat} {v:Value} {a b:List (Ox × Value)} {n m:Nat} (hn:a.length=n) (hm:b.length=m) (h:w.ownsRow B 75 6 v (n+m) (flatO a++flatO b)):RowL B w v (a++b):=by
 unfold RowL;rw[List.length_append,flatO_append,hn,hm];exact h
/- dots that a row's op saw stay while the row grows -/
theorem seen_grow {w w':World} {B C:Nat} {v u:Value} {L:List (Ox × Value)} {s:List Dt} (hr:RowL B w v L) (hs:w.ownsRow C 72 2 u s.length (flatD s)) (hg:w.grownBy w' v.ownBlock):w'.ownsRow C 72 2 u s.length (flatD s):=by
 refine own_stay hs fun g hg2=>hg.block g (own_lt hs g hg2).1 (fun e=> ?_)
 obtain⟨_,c1,h1⟩:=own_lt hs g hg2
 obtain⟨_,c2,h2⟩:=own_lt hr g e.symm
 rw[h1] at h2
 injection h2 with h2
 injection h2 with _ h2 _
 exact absurd h2 (by decide)
def outL (k:Int) (L:List Ox):List Ox:=if k=0 then L else[]
def LkPost (w:World) (l:List Ox) (v:List Int) (e:Ending) (w':World):Prop:=∃p n c,e=.returned (.tuple #[.slice p n c,errV (lackE l v)])∧OpsJ (New w.heap.size w') (New w.heap.size w') w' (.slice p n c) (outL (lackE l v) (lackL l v))∧Below w.heap.size w w'
theorem LkPost.no {w w':World} {l:List Ox} {v:List Int} {k:Int} (h:lackE l v=k) (hk:k≠0) (hb:Below w.heap.size w w'):LkPost w l v (.returned (.tuple #[.slice none 0 0,.iface 84 (.int .i64 k)])) w':=
 ⟨none,0,0,by rw[h,errV_ne hk],by rw[h];unfold outL;rw[if_neg hk];exact OpsJ.nil _ _ _,hb⟩
theorem LkPost.yes {w w':World} {l:List Ox} {v:List Int} {p:Option Addr} {n c:Nat} {L:List (Ox × Value)} (h:lackE l v=0) (hr:RowL w.heap.size w' (.slice p n c) L) (hd:∀y ∈ L,w'.ownsRow w.heap.size 72 2 y.2 y.1.2.2.2.2.length (flatD y.1.2.2.2.2)) (hL:L.map (·.1)=lackL l v) (hb:Below w.heap.size w w'):LkPost w l v (.returned (.tuple #[.slice p n c,.nilIface])) w':=by
 refine⟨p,n,c,by rw[h,errV_zero], ?_,hb⟩
 rw[h]
 unfold outL
 rw[if_pos rfl,←hL]
 exact OpsJ.own hr fun y hy=>⟨own_dts (hd y hy),fun a n c e hn=>⟨Lies.own (hd y hy) a n c e hn,(own_lt (hd y hy) a.block (by rw[e];rfl)).1⟩⟩
theorem lacks_any (vl vv:Value) (l:List Ox) (v:List Int) (w:World) (hl:OpsAt w vl l) (hsz:∀x ∈ l,x.2.2.1.size≤maxLen) (hv:KnAt w vv v):
  Calls Tryz.prog 125 #[vl,vv] w (LkPost w l v):=by
 obtain⟨q,c,rfl,hin,hlc,hcm,_⟩:=hl
 obtain⟨pv,cv,rfl,hvin⟩:=hv
 obtain⟨n,hn⟩:∃n,n=l.length:=⟨_,rfl⟩
 obtain⟨m,hm⟩:∃m,m=v.length:=⟨_,rfl⟩
 have hnm:n≤maxLen:=by omega
 have hnz:(n:Int)≤9223372036854775807:=by unfold maxLen at hnm;omega
 rw[←hn,←hm]
 have CV:Calls Tryz.prog 161 #[.slice pv m cv] w fun e w'=>e=.returned (errV (Dm.vecE v))∧w'=w:=Db.vector_any pv m cv v w hm.symm hvin
 have HN:=z9 hn.symm
 have HM:=z9 hm.symm
 have HI:=z9 hin
 have HV:=z9 hvin
 have HSZ:=z9 hsz
 have HLE:Hid (lackE l v=if Dm.vecE v≠0 then Dm.vecE v else packE l):=rfl
 obtain⟨k0,hk0⟩:∃k0,k0=Dm.vecE v:=⟨_,rfl⟩
 rw[←hk0] at CV HLE
 have HK0:=z9 hk0
 clear hin hsz hn hm hlc hcm hvin hk0
 by_cases hz:k0=0
 ·subst hz
  rw[errV_zero] at CV
  have HLP:Hid (lackE l v=packE l):=by unfold Hid;rw[HLE.out,if_neg (by decide)]
  clear HLE
  by_cases h4:400<n
  ·have h4z:(400:Int)<n:=by omega
   have HLF:Hid (lackE l v=4):=by unfold Hid;rw[HLP.out];unfold packE;rw[HN.out,if_pos h4]
   go_enter Tryz.func125,Tryz.ntmps125
   go_wp2_with fail
   refine CV.mono ?_
   rintro e w1 ⟨rfl,rfl⟩
   go_wp2_with fail
   go_ret2
   exact LkPost.no HLF.out (by decide) (Below.refl _ _)
  ·have h4z:¬(400:Int)<n:=by omega
   have HLF:Hid (lackE l v=firstE l):=by unfold Hid;rw[HLP.out];unfold packE;rw[HN.out,if_neg h4]
   obtain⟨i0,hi,hz0,hz1,hzz2⟩:=info_parts infoO
   go_enter Tryz.func125,Tryz.ntmps125
   go_wp2_with fail
   refine CV.mono ?_
   rintro e w1 ⟨rfl,rfl⟩
   go_wp2_with fail
   go_loopw [7,24] (fun v7 vi wr=>∃(k:Nat) (L:List (Ox × Value)),k≤n∧vi=.int .i64 k∧(∃P N C,v7=.slice P N C)∧Hid (L.length≤k)∧Hid (RowL w1.heap.size wr v7 L)∧Hid (∀y ∈ L,wr.ownsRow w1.heap.size 72 2 y.2 y.1.2.2.2.2.length (flatD y.1.2.2.2.2))∧Hid (L.map (·.1)=lackL (l.take k) v)∧Hid (∀o ∈ l.take k,opE o=0)∧Hid (Below w1.heap.size w1 wr)) (fun _ vi _=>n-(intOf vi).toNat)
   case atStart=>exact⟨0,[],by omega,rfl,⟨_,_,_,rfl⟩,Nat.zero_le _,World.ownsRow_nil _ _ _ _,fun y hy=>by simp at hy,rfl,fun o ho=>by simp at ho,Below.refl _ _⟩
   case round=>
    obtain⟨k,L,hk,rfl,⟨p0,n0,c0,rfl⟩,HLK,HRW,HDW,HLM,HOK,HB⟩:=hrel
    by_cases hlt:k<n
    ·have hltz:(k:Int)<n:=by omega
     have hkl:k<l.length:=by rw[HN.out];exact hlt
     obtain⟨bo,oo,rfl,hc⟩:=HI.out.some (by intro e;rw[e] at hkl;simp at hkl)
     have ha0:=hc k hkl
     have hxm:=HSZ.out _ (getO_mem hkl)
     have hstep:=lack_step (v:=v) hkl
     have hfst:=lack_first hkl HOK.out
     have htk:=Aa.take_next hkl
     obtain⟨x,hx⟩:∃x,x=l.getD k oz:=⟨_,rfl⟩
     rw[←hx] at ha0 hxm hstep hfst htk
     have HST:=z9 hstep
     have HFS:=z9 hfst
     have HTK:=z9 htk
     obtain⟨⟨xa,xb⟩,xt,xp,xc,xs⟩:=x
     obtain⟨vx,⟨g0,g1,g2,g3,g4,g5⟩,hdx0⟩:=ha0
     simp only at g0 g1 g2 g3 g4 g5 hdx0 hxm
     obtain⟨ps,ns,cs,rfl⟩:∃pv nv cv,vx=.slice pv nv cv:=by obtain⟨_,_,e9,_⟩:=hdx0;exact⟨_,_,_,e9⟩
     have a0:=keep_cell HB.out g0
     have a1:=keep_cell HB.out g1
     have a2:=keep_cell HB.out g2
     have a3:=keep_cell HB.out g3
     have a4:=keep_cell HB.out g4
     have a5:=keep_cell HB.out g5
     obtain⟨W1,hW1⟩:∃W1,W1=wr.alloc (.cells #[.int .i64 xa,.int .i64 xb,.int .i64 xt,.string xp,.int .i64 xc,.slice ps ns cs] 75):=⟨_,rfl⟩
     have HBW:Hid (Below wr.heap.size wr W1):=by rw[hW1];exact(Below.refl _ _).alloc (Nat.le_refl _) _
     have HS1:Hid (Six W1 wr.heap.size xa xb xt xp xc (.slice ps ns cs)):=by rw[hW1];exact six_new wr xa xb xt xp xc (.slice ps ns cs) 75
     have HB1:=z9 (bel HB.out HBW.out)
     have HDX:Hid (∀W,Below w1.heap.size w1 W→DtsAt W (.slice ps ns cs) xs):=fun W hb=>hdx0.below hb
     have C1:=Vc.check_says xa xb xt xp xc (.slice ps ns cs) xs W1 (HDX.out _ HB1.out) hxm
     obtain⟨s0,s1,s2,s3,s4,s5⟩:=six_new wr xa xb xt xp xc (.slice ps ns cs) 75
     rw[hW1] at C1
     clear hc hx hkl hdx0 hxm hstep hfst htk g0 g1 g2 g3 g4 g5
     go_wp2_with fail
     refine C1.mono ?_
     rw[←hW1]
     rintro e w3 ⟨he,hb3⟩
     have HB3:=z9 (bel HB1.out hb3)
     have HX3:=z9 hb3
     clear a0 a1 a2 a3 a4 a5 s0 s1 s2 s3 s4 s5 C1 hb3 hW1
     by_cases hz9:opE ((xa,xb),xt,xp,xc,xs)=0
     ·rw[hz9,errV_zero] at he
      subst he
      have HOZ:=z9 hz9
      have HDV:Hid (dotE xa xb=0):=(opE_zero.1 hz9).1
      have HSL:Hid (xs.length≤1048576):=by
       have h40:xs.length≤40:=(lawOf_zero.1 (opE_zero.1 hz9).2.2.2).2.2.2.1
       unfold Hid;omega
      obtain⟨s0,s1,s2,s3,s4,s5⟩:=HS1.out.below HX3.out
      have CH:=Dd.has_any pv m cv v xa xb w3 HM.out (HV.out.below HB3.out)
      obtain⟨hb9,hhb⟩:∃hb9,hb9=Dm.hasB v xa xb:=⟨_,rfl⟩
      obtain⟨k9,hk9⟩:∃k9,k9=Za.errV (Dm.withE v xa xb):=⟨_,rfl⟩
      rw[←hhb,←hk9] at CH
      have HLX:Hid (lacks v ((xa,xb),xt,xp,xc,xs)= !hb9):=by
       unfold Hid lacks
       rw[hhb]
       have hw:Dm.withE v xa xb=0:=by unfold Dm.withE;rw[if_pos HK0.out.symm];exact HDV.out
       unfold Dm.hasB
       rw[hw,decide_eq_true rfl,Bool.true_and];rfl
      clear hz9 hhb hk9
      go_wp2_with fail
      refine CH.mono ?_
      rintro e w4 ⟨rfl,hb4⟩
      have HB4:=z9 (bel HB3.out hb4)
      have HX4:=z9 (bel HX3.out hb4)
      have HR4:=z9 (bel HBW.out HX4.out)
      have HOK2:Hid (∀o ∈ l.take (k+1),opE o=0):=by
       intro o ho
       rw[HTK.out] at ho
       rcases List.mem_append.1 ho with ho | ho
       ·exact HOK.out o ho
       ·rw[List.mem_singleton.1 ho];exact HOZ.out
      clear hb4 CH s0 s1 s2 s3 s4 s5
      cases hb9
      ·
       have HL2:Hid (lackL (l.take (k+1)) v=lackL (l.take k) v++[((xa,xb),xt,xp,xc,xs)]):=by
        unfold Hid;rw[HST.out,HLX.out];rfl
       obtain⟨s0,s1,s2,s3,s4,s5⟩:=HS1.out.below HX4.out
       have CC:=copy_any xa xb xt xp xc (.slice ps ns cs) xs w4 (HDX.out w4 HB4.out) HSL.out
       go_wp2_with fail
       refine CC.mono ?_
       rintro e w5 ⟨v5,rfl,ho5,hb5⟩
       obtain⟨p5,n5,c5,hv5,_⟩:=own_shape ho5
       subst hv5
       have HB5:=z9 (bel HB4.out hb5)
       have HR5:=z9 (bel HR4.out hb5)
       have HO5:=z9 (own_lower ho5 HB4.out.size)
       have KW5:=z9 (own_below HRW.out HR5.out)
       have KD5:Hid (∀y ∈ L,w5.ownsRow w1.heap.size 72 2 y.2 y.1.2.2.2.2.length (flatD y.1.2.2.2.2)):=fun y hy=>own_below (HDW.out y hy) HR5.out
       have HN6:=z9 (op_new w5 ((xa,xb),xt,xp,xc,xs) (.slice p5 n5 c5) 75)
       have HSZ6:Hid (∀O1,w1.heap.size≤(w5.alloc O1).heap.size):=fun O1=>by have:=HB5.out.size;simp;omega
       have HBX:Hid (∀O1,Below w5.heap.size w5 (w5.alloc O1)):=fun O1=>(Below.refl _ _).alloc (Nat.le_refl _) O1
       have hcap1:L.length+1≤maxLen:=by have:=HLK.out;unfold maxLen;omega
       have hcap2:(L.length+1)*72≤140737488355328:=by have:=HLK.out;omega
       clear hb5 CC ho5 s0 s1 s2 s3 s4 s5
       go_wp2_with (at_builtin;refine wpList_append_own_at _ rfl (.tmp 42) (.tmp 45) 55 rfl w1.heap.size 75 i0 (.agg #[.int .i64 0,.int .i64 0,.int .i64 0,.string ⟨#[]⟩,.int .i64 0,.slice none 0 0]) 6 72 Tryz.underlying55 hi hz0 hz1 hzz2 rfl (by decide) (.slice p0 n0 c0) L.length (flatO L) rfl (World.ownsRow.alloc KW5.out _) ⟨w5.heap.size,0,none⟩ 1 1 (flatO [(((xa,xb),xt,xp,xc,xs),Value.slice p5 n5 c5)]) rfl rfl HN6.out (op_one _ _ rfl) hcap1 hcap2 (HSZ6.out _) ?_;intro v9 w9 hown9 hgrow9 _ hat9;have KW9:=z9 (own_app rfl rfl hown9);have K9:Hid (Below w1.heap.size w1 w9):=own_grow KW5.out (HB5.out.alloc HB5.out.size _) hgrow9 (HSZ6.out _);have KD9:Hid (∀y ∈ L++[(((xa,xb),xt,xp,xc,xs),Value.slice p5 n5 c5)],w9.ownsRow w1.heap.size 72 2 y.2 y.1.2.2.2.2.length (flatD y.1.2.2.2.2)):=(fun y hy=>by(rcases List.mem_append.1 hy with hy | hy);(exact seen_grow (own_below KW5.out (HBX.out _)) (own_below (KD5.out y hy) (HBX.out _)) hgrow9);(rw[List.mem_singleton.1 hy];exact seen_grow (own_below KW5.out (HBX.out _)) (own_below HO5.out (HBX.out _)) hgrow9));obtain⟨p9,N9,c9,hv9,_⟩:=own_shape KW9.out;subst hv9;clear hown9 hgrow9 hat9)
       go_roundw
       case rel=>exact⟨k+1,L++[(((xa,xb),xt,xp,xc,xs),Value.slice p5 n5 c5)],by omega,by go_num,⟨_,_,_,rfl⟩,by unfold Hid;rw[List.length_append];have:=HLK.out;simp;omega,KW9,KD9,by unfold Hid;rw[HL2.out,List.map_append,HLM.out];rfl,HOK2,K9⟩
       case measure=>simp[intOf];omega
      ·have HL2:Hid (lackL (l.take (k+1)) v=lackL (l.take k) v):=by
        unfold Hid;rw[HST.out,HLX.out];simp
       go_wp2_with fail
       go_roundw
       case rel=>exact⟨k+1,L,by omega,by go_num,⟨_,_,_,rfl⟩,by unfold Hid;have:=HLK.out;omega,own_below HRW.out HR4.out,fun y hy=>own_below (HDW.out y hy) HR4.out,by unfold Hid;rw[HL2.out,HLM.out],HOK2,HB4⟩
       case measure=>simp[intOf];omega
     ·have HE:Hid (lackE l v=opE ((xa,xb),xt,xp,xc,xs)):=by unfold Hid;rw[HLF.out,HFS.out hz9]
      have HZ9:=z9 hz9
      rw[errV_ne hz9] at he
      obtain⟨ez,hez⟩:∃ez,ez=opE ((xa,xb),xt,xp,xc,xs):=⟨_,rfl⟩
      rw[←hez] at he HE HZ9
      subst he
      clear hz9 hez HFS HST HTK HDX HS1
      go_wp2_with fail
      go_ret2
      exact LkPost.no HE.out HZ9.out HB3.out
    ·obtain rfl:n=k:=by omega
     have hltz:¬(n:Int)<n:=by omega
     have htk:Hid (l.take n=l):=by unfold Hid;rw[←HN.out,List.take_length]
     go_wp2_with fail
     go_ret2
     rw[htk.out] at HLM HOK
     exact LkPost.yes (by rw[HLF.out];exact firstE_zero.2 HOK.out) HRW.out HDW.out HLM.out HB.out
 ·have HLF:Hid (lackE l v=k0):=by unfold Hid;rw[HLE.out,if_pos hz]
  rw[errV_ne hz] at CV
  have HZ:=z9 hz
  clear hz
  go_enter Tryz.func125,Tryz.ntmps125
  go_wp2_with fail
  refine CV.mono ?_
  rintro e w1 ⟨rfl,rfl⟩
  go_wp2_with fail
  go_ret2
  exact LkPost.no HLF.out HZ.out (Below.refl _ _)
end Ae
end Go.Proofs.YtlmdchpbpgcfmaaGreatDoor
/- What sync.apply, bring and Both answer. -/
namespace Go.Proofs.YtlmdchpbpgcfmaaGreatDoor
namespace Af
open Go.ChangeShapes Go.WideShapes Go.ChangeAt Go.RowKit Cm Ka Kb Na Om Oa Oz Oc Og Oi Hm Ia Ib Ic Idc Ie If Ig Ih Ii Ij Ik Il Im Iq Um Aa Ac Ae
open La (bel bel_drew errV_zero errV_ne own_ge own_grow own_below Lies)
def TkPost (w:World) (D:Nat) (S:Dq) (F:Nat→Prop) (L:List Ox) (e:Ending) (w':World):Prop:=
 e=.returned (.tuple #[.int .i64 (takeN S L),errV (runE S L)])∧∃F',DocAt w' D (runS S L) F'∧Chg F w w'∧∀g,F' g→F g∨w.heap.size≤g
theorem take_any (D:Nat) (S:Dq) (F R Q:Nat→Prop) (v:Value) (L:List Ox) (w:World) (h:DocAt w D S F) (ho:OpsJ R Q w v L) (hG:∀g,R g∨Q g→g<w.heap.size∧¬F g) (hsz:∀x ∈ L,x.2.2.1.size≤maxLen):
  Calls Tryz.prog 129 #[.pointer (some ⟨D,0,none⟩),v] w (TkPost w D S F L):=by
 obtain⟨q,c,rfl,hin,hlc,hcm,_⟩:=ho
 obtain⟨n,hn⟩:∃n,n=L.length:=⟨_,rfl⟩
 have hnm:n≤maxLen:=by omega
 have hnz:(n:Int)≤9223372036854775807:=by unfold maxLen at hnm;omega
 rw[←hn]
 have HN:=z9 hn.symm
 have HI:=z9 hin
 have HG:=z9 hG
 have HSZ:=z9 hsz
 have HD0:=z9 h
 clear h hin hG hsz hn hlc hcm
 go_enter Tryz.func129,Tryz.ntmps129
 go_wp2_with fail
 go_loopw [6,13] (fun vm vi wr=>∃(k:Nat) (m:Int) (Fk:Nat→Prop),k≤n∧vi=.int .i64 k∧vm=.int .i64 m∧0≤m∧m≤k∧Hid (m=cntN S (L.take k))∧Hid (DocAt wr D (runS S (L.take k)) Fk)∧Hid (∀g,Fk g→F g∨w.heap.size≤g)∧Hid (Chg F w wr)∧Hid (runE S (L.take k)=0)) (fun _ vi _=>n-(intOf vi).toNat)
 case atStart=>exact⟨0,0,F,by omega,rfl,rfl,by omega,by omega,rfl,HD0,fun g hg=>Or.inl hg,Chg.refl _ _,rfl⟩
 case round=>
  clear HD0
  obtain⟨k,m,Fk,hk,rfl,rfl,hm0,hmk,HMk,HDk,HFk,HCk,HEk⟩:=hrel
  by_cases hlt:k<n
  ·have hltz:(k:Int)<n:=by omega
   have hkl:k<L.length:=by rw[HN.out];exact hlt
   obtain⟨bo,oo,rfl,_,hc⟩:=(HI.out.stay (HCk.out.stay fun g hg=>HG.out g (Or.inl hg)) (HCk.out.stay fun g hg=>HG.out g (Or.inr hg))).some (by intro e;rw[e] at hkl;simp at hkl)
   have ha:=hc k hkl
   have hxm:=HSZ.out _ (getO_mem hkl)
   obtain⟨hr1,hr2⟩:=run_go (S:=S) hkl HEk.out
   have hst:=run_stop (S:=S) hkl HEk.out
   have hrn:=cntN_go (S:=S) hkl HEk.out
   obtain⟨x,hx⟩:∃x,x=L.getD k oz:=⟨_,rfl⟩
   rw[←hx] at ha hxm hr1 hr2 hst hrn
   have HR1:=z9 hr1
   have HR2:=z9 hr2
   have HR3:=z9 hrn
   have HST:=z9 hst
   obtain⟨⟨xa,xb⟩,xt,xp,xc,xs⟩:=x
   obtain⟨vx,⟨a0,a1,a2,a3,a4,a5⟩,hdx,hix⟩:=ha
   simp only at a0 a1 a2 a3 a4 a5 hdx hxm
   obtain⟨pv,nv,cv,rfl⟩:∃pv nv cv,vx=.slice pv nv cv:=by obtain⟨_,_,e9,_⟩:=hdx;exact⟨_,_,_,e9⟩
   have hoff:In (fun g=>¬Fk g) (.slice pv nv cv):=hix.mono fun g hg hf=>by
    obtain⟨q1,q2⟩:=HG.out g (Or.inr hg)
    rcases HFk.out g hf with e | e
    ·exact q2 e
    ·omega
   have HBX:Hid (Below wr.heap.size wr (wr.alloc (.cells #[.int .i64 xa,.int .i64 xb,.int .i64 xt,.string xp,.int .i64 xc,.slice pv nv cv] 75))):=(Below.refl _ _).alloc (Nat.le_refl _) _
   obtain⟨Sk,hSk⟩:∃Sk,Sk=runS S (L.take k):=⟨_,rfl⟩
   rw[←hSk] at HR1 HR2 HR3 HST HDk
   have C:=apply_any D Sk Fk xa xb xt xp xc (.slice pv nv cv) xs _ (HDk.out.below HBX.out) (hdx.below HBX.out) hoff hxm
   obtain⟨e0,e1,e2,e3,e4,e5⟩:=six_new wr xa xb xt xp xc (.slice pv nv cv) 75
   clear hc hx hkl hdx hxm hr1 hr2 hst hrn hoff hix hSk
   go_wp2_with fail
   refine C.mono ?_
   rintro e w7 ⟨he,_,F7,hd7,hc7,hf7⟩
   have HC7:Hid (Chg F w w7):=(HCk.out.trans (Chg.ofBelow HBX.out F)).next hc7 HFk.out
   have HF7:Hid (∀g,F7 g→F g∨w.heap.size≤g):=fun g hg=>by
    rcases hf7 g hg with e | e
    ·exact HFk.out g e
    ·exact Or.inr (Nat.le_trans HCk.out.size (Nat.le_trans HBX.out.size e))
   obtain⟨bn,hbn⟩:∃bn,bn=isNew Sk ((xa,xb),xt,xp,xc,xs):=⟨_,rfl⟩
   rw[←hbn] at he HR3
   by_cases hz:apE Sk ((xa,xb),xt,xp,xc,xs)=0
   ·rw[hz,errV_zero] at he
    subst he
    have HD7:Hid (DocAt w7 D (runS S (L.take (k+1))) F7):=by unfold Hid;rw[HR2.out hz];exact hd7
    have HE7:Hid (runE S (L.take (k+1))=0):=by unfold Hid;rw[HR1.out,hz]
    have HN7:Hid (cntN S (L.take (k+1))=m+(if bn then 1 else 0)):=by unfold Hid;rw[HR3.out hz,HMk.out]
    clear hd7 hc7 hf7 hbn hz C a0 a1 a2 a3 a4 a5 e0 e1 e2 e3 e4 e5
    cases bn
    ·go_wp2_with fail
     go_roundw
     case rel=>exact⟨k+1,m,F7,by omega,by go_num,rfl,hm0,by omega,by unfold Hid;rw[HN7.out];simp,HD7,HF7,HC7,HE7⟩
     case measure=>simp[intOf];omega
    ·go_wp2_with fail
     go_roundw
     case rel=>exact⟨k+1,m+1,F7,by omega,by go_num,rfl,by omega,by omega,by unfold Hid;rw[HN7.out];rfl,HD7,HF7,HC7,HE7⟩
     case measure=>simp[intOf];omega
   ·obtain⟨z1,z2⟩:=HST.out hz
    rw[errV_ne hz] at he
    have HEE:Hid (errV (runE S L)=.iface 84 (.int .i64 (apE Sk ((xa,xb),xt,xp,xc,xs)))):=by unfold Hid;rw[z1,errV_ne hz]
    have HTN:Hid (takeN S L=0):=by unfold Hid takeN;rw[z1,if_pos hz]
    have HD7:Hid (DocAt w7 D (runS S L) F7):=by unfold Hid;rw[stay_wrong hz] at hd7;rw[z2];exact hd7
    obtain⟨ez,hez⟩:∃ez,ez=apE Sk ((xa,xb),xt,xp,xc,xs):=⟨_,rfl⟩
    rw[←hez] at he HEE
    subst he
    clear hd7 hc7 hf7 hbn hz C a0 a1 a2 a3 a4 a5 e0 e1 e2 e3 e4 e5 z1 z2 hez HR1 HR2 HR3 HST
    go_wp2_with fail
    go_ret2
    exact⟨by rw[HEE.out,HTN.out];rfl,F7,HD7.out,HC7.out,HF7.out⟩
  ·obtain rfl:n=k:=by omega
   have hltz:¬(n:Int)<n:=by omega
   have htk:Hid (L.take n=L):=by unfold Hid;rw[←HN.out,List.take_length]
   go_wp2_with fail
   go_ret2
   rw[htk.out] at HDk HEk HMk
   exact⟨by unfold takeN;rw[HEk.out,HMk.out,if_neg (by decide)];rfl,Fk,HDk.out,HCk.out,HFk.out⟩
theorem right_len {l:List Ox} (h:∀o ∈ l,opE o=0):∀x ∈ l,x.2.2.1.size≤maxLen:=fun x hx=>by
 have h3:=(opE_zero.1 (h x hx)).2.2.1
 by_cases h12:12<x.2.2.1.toList.length
 ·unfold Pm.chk at h3;rw[if_pos h12] at h3;cases h3
 ·rw[Om.len_eq] at h12
  unfold maxLen;omega
theorem new_off {w w':World} {F:Nat→Prop} {D:Nat} {S:Dq} (h:DocAt w D S F):∀g,New w.heap.size w' g∨New w.heap.size w' g→g<w'.heap.size∧¬F g:=fun g hg=>by
 have hg:New w.heap.size w' g:=by rcases hg with e | e<;>exact e
 exact⟨hg.2,fun e=>by have:=h.lt g e;have:=hg.1;omega⟩
end Af
end Go.Proofs.YtlmdchpbpgcfmaaGreatDoor
/- What sync.Parcel and Open answer. -/
namespace Go.Proofs.YtlmdchpbpgcfmaaGreatDoor
namespace Ag
open Go.ChangeShapes Go.WideShapes Go.ChangeAt Go.RowKit Cm Ka Kb Na Om Oa Oz Oc Og Oi Hm Ia Ib Ic Idc Ie If Ig Ih Ii Ij Ik Il Im Iq Um Aa Ac Ae Af Ov
open La (bel bel_drew errV_zero errV_ne own_ge own_grow own_below Lies)
/- a parcel of what a vector lacks -/
def parcS (A:Dq) (v:List Int):ByteArray:=if Dm.vecE v≠0 then⟨#[]⟩ else packS (lackL A.ops v)
theorem lackE_vec {A:Dq} (IA:Inv A) (v:List Int):lackE A.ops v=Dm.vecE v:=by
 unfold lackE
 by_cases h:Dm.vecE v=0
 ·rw[if_neg (by simpa using h),h];exact packE_zero.2 ⟨IA.few,IA.right⟩
 ·rw[if_pos h]
theorem pack_zero {A:Dq} (IA:Inv A) (v:List Int):packE (lackL A.ops v)=0:=packE_zero.2 ⟨Nat.le_trans (lack_len _ _) IA.few,fun o ho=>IA.right o (lack_mem ho)⟩
theorem parcel_any (D : Nat) (A : Dq) (F : Nat → Prop) (vv : Value) (v : List Int) (w : World) (h : DocAt w D A F) (hv : KnAt w vv v) :
  Calls Tryz.prog 80 #[.pointer (some ⟨D, 0, none⟩), vv] w fun e w' => e = .returned (.tuple #[.string (parcS A v), errV (Dm.vecE v)]) ∧ Below w.heap.size w w' := by
 have HI := z9 h.inv
 have HR := z9 (right_len h.inv.right)
 have HV := z9 hv
 have HLE := z9 (lackE_vec h.inv v)
 obtain ⟨pv, nv, cv, rfl⟩ : ∃ p n c, vv = .slice p n c := by obtain ⟨_, _, e9, _⟩ := hv; exact ⟨_, _, _, e9⟩
 have C1 := ops_get D A F w h
 clear h hv
 obtain ⟨k, hk⟩ : ∃ k, k = Dm.vecE v := ⟨_, rfl⟩
 have HK := z9 hk
 go_enter Tryz.func80, Tryz.ntmps80
 go_wp2_with fail
 refine C1.mono ?_
 rintro e w1 ⟨v1, rfl, ho1, hb1⟩
 have HB1 := z9 hb1
 obtain ⟨p1, n1, c1, rfl⟩ : ∃ p n c, v1 = .slice p n c := by obtain ⟨_, _, e9, _⟩ := ho1.at; exact ⟨_, _, _, e9⟩
 have C3 := lacks_any (.slice p1 n1 c1) (.slice pv nv cv) A.ops v w1 ho1.at HR.out (HV.out.below hb1)
 clear ho1 hb1 C1
 go_wp2_with fail
 refine C3.mono ?_
 rintro e w3 ⟨p3, n3, c3, he, ho3, hb3⟩
 rw [HLE.out, ← hk] at he ho3
 have HB3 := z9 (bel HB1.out hb3)
 clear hb3 C3 hk
 by_cases hz : k = 0
 ·subst hz
  rw [errV_zero] at he
  subst he
  unfold outL at ho3
  rw [if_pos rfl] at ho3
  have HPS : Hid (parcS A v = packS (lackL A.ops v)) := by unfold Hid parcS; rw [← HK.out, if_neg (by decide)]
  have C4 := Vf.pack_says (.slice p3 n3 c3) (lackL A.ops v) w3 ho3.at (fun x hx => HR.out x (lack_mem hx))
  rw [pack_zero HI.out v, errV_zero, ← HPS.out] at C4
  obtain ⟨T, hT⟩ : ∃ T, T = parcS A v := ⟨_, rfl⟩
  rw [← hT] at C4
  have HT := z9 hT
  clear ho3 hT
  go_wp2_with fail
  refine C4.mono ?_
  rintro e w4 ⟨rfl, hb4⟩
  have HB4 := z9 (bel HB3.out hb4)
  clear hb4 C4
  go_wp2_with fail
  go_ret2
  exact ⟨by rw [HT.out, ← HK.out, errV_zero]; rfl, HB4.out⟩
 ·rw [errV_ne hz] at he
  subst he
  have HPS : Hid (parcS A v = ⟨#[]⟩) := by unfold Hid parcS; rw [← HK.out, if_pos hz]
  have HZ := z9 hz
  clear hz ho3
  go_wp2_with fail
  go_ret2
  exact ⟨by rw [HPS.out, ← HK.out, errV_ne HZ.out]; rfl, HB3.out⟩
/- what a parcel has is applied -/
def OnPost (w:World) (D:Nat) (S:Dq) (F:Nat→Prop) (s:ByteArray) (e:Ending) (w':World):Prop:=
 e=.returned (.tuple #[.int .i64 (opnN S s),errV (opnE S s)])∧∃F',DocAt w' D (runS S (opnL s)) F'∧Chg F w w'∧∀g,F' g→F g∨w.heap.size≤g
theorem open_any (D:Nat) (S:Dq) (F:Nat→Prop) (s:ByteArray) (w:World) (h:DocAt w D S F) (hs:s.size≤maxLen):
  Calls Tryz.prog 84 #[.pointer (some ⟨D,0,none⟩),.string s] w (OnPost w D S F s):=by
 have H:=z9 h
 clear h
 cases hu:unpB s.toList with
 | none=>
  have C:=Vn.unpack_none s w hs hu
  rw[errV_ne (by decide)] at C
  have HL:Hid (opnL s=[]):=by unfold Hid opnL;rw[hu];rfl
  have HE:Hid (opnE S s=2):=by unfold Hid opnE;rw[hu];rfl
  have HN:Hid (opnN S s=0):=by unfold Hid opnN;rw[hu];rfl
  clear hu
  go_enter Tryz.func84,Tryz.ntmps84
  go_wp2_with fail
  refine C.mono ?_
  rintro e w1 ⟨v1,rfl,ho1,hb1⟩
  obtain⟨p1,n1,c1,rfl⟩:∃p n c,v1=.slice p n c:=by obtain⟨_,_,e9,_⟩:=ho1;exact⟨_,_,_,e9⟩
  have HB1:=z9 hb1
  clear ho1 hb1 C
  go_wp2_with fail
  go_ret2
  exact⟨by rw[HE.out,HN.out,errV_ne (by decide)];rfl,F,by rw[HL.out];exact H.out.below HB1.out,Chg.ofBelow HB1.out F,fun g hg=>Or.inl hg⟩
 | some l=>
  have C:=Vn.unpack_kept s w l hs hu
  rw[errV_zero] at C
  have HL:Hid (opnL s=l):=by unfold Hid opnL;rw[hu];rfl
  have HE:Hid (opnE S s=runE S l):=by unfold Hid opnE;rw[hu,HL.out];rfl
  have HN:Hid (opnN S s=takeN S l):=by unfold Hid opnN;rw[hu,HL.out];rfl
  have HR:Hid (∀x ∈ l,x.2.2.1.size≤maxLen):=by
   have:=right_len (opn_right s)
   rw[HL.out] at this;exact this
  clear hu
  go_enter Tryz.func84,Tryz.ntmps84
  go_wp2_with fail
  refine C.mono ?_
  rintro e w1 ⟨v1,rfl,hk1,hb1⟩
  have HO1:=z9 (OpsJ.kept hk1)
  obtain⟨p1,n1,c1,rfl⟩:∃p n c,v1=.slice p n c:=by obtain⟨_,_,e9,_⟩:=HO1.out;exact⟨_,_,_,e9⟩
  have HB1:=z9 hb1
  have C2:=take_any D S F _ _ (.slice p1 n1 c1) l w1 (H.out.below hb1) HO1.out (new_off H.out) HR.out
  clear hk1 hb1 C HO1
  go_wp2_with fail
  refine C2.mono ?_
  rintro e w2 ⟨he,F2,hd2,hc2,hf2⟩
  rw[←HE.out,←HN.out] at he
  have HP:Hid (OnPost w D S F s e w2):=⟨he,F2,by rw[HL.out];exact hd2,(Chg.ofBelow HB1.out F).trans hc2,fun g hg=>by
   rcases hf2 g hg with e | e
   ·exact Or.inl e
   ·exact Or.inr (Nat.le_trans HB1.out.size e)⟩
  obtain⟨n9,hn9⟩:∃n9,n9=opnN S s:=⟨_,rfl⟩
  obtain⟨e9,he9⟩:∃e9,e9=errV (opnE S s):=⟨_,rfl⟩
  rw[←hn9,←he9] at he
  subst he
  clear hd2 hc2 hf2 C2 hn9 he9 HE HN HL HR
  go_wp2_with fail
  go_ret2
  exact HP.out
theorem open_ok (D:Nat) (S:Dq) (F:Nat→Prop) (s:ByteArray) (w:World) (h:DocAt w D S F) (hs:s.size≤maxLen) (_:Hid ((unpB s.toList).isSome=true)):
  Calls Tryz.prog 84 #[.pointer (some ⟨D,0,none⟩),.string s] w (OnPost w D S F s):=open_any D S F s w h hs
end Ag
end Go.Proofs.YtlmdchpbpgcfmaaGreatDoor
