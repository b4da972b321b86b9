/- Package find: Replace. -/
import Derived.Test.YtlmdchpbpgcfmaaGreatDoorF6
import Derived.Test.YtlmdchpbpgcfmaaGreatDoorF2
set_option linter.unusedSimpArgs false
set_option linter.unusedVariables false
set_option maxRecDepth 100000
set_option maxHeartbeats 8000000
namespace Go.Proofs.YtlmdchpbpgcfmaaGreatDoor
namespace F7
open Go.ChangeShapes Go.WideShapes Go.ChangeAt Go.RowKit Cm Ka Kb Na Om Oa Oz Oc Og Oi Hm Ia Ic Ie Ik Im Il Um Ua Ue Uq Fj Ac F6
open La (bel errV_zero errV_ne own_below)
open F2 (ML allE allR all_is all_full all_empty)
open Fnn (intsV)
def repE (S:Dq) (who:Int) (p b:ByteArray):Int:=if Pm.isWho who=false then 1 else if allE (Lf.textR S.book) p≠0 then allE (Lf.textR S.book) p else rpE who p.size b (Fi.all (Lf.textR S.book).toList p.toList).reverse S
def repL (S:Dq) (who:Int) (p b:ByteArray):List Ox:=rpL who p.size b (Fi.all (Lf.textR S.book).toList p.toList).reverse S
def RePost (w:World) (k:Int) (L:List Ox) (e:Ending) (w':World):Prop:=∃v,e=.returned (.tuple #[v,errV k])∧(k=0→OpsJ (New w.heap.size w') (New w.heap.size w') w' v L)∧(k≠0→v=.slice none 0 0)∧Below w.heap.size w w'
theorem RePost.no {w w':World} {E k:Int} {L:List Ox} (h:E=k) (hk:k≠0) (hb:Below w.heap.size w w'):RePost w E L (.returned (.tuple #[.slice none 0 0,.iface 84 (.int .i64 k)])) w':=
 ⟨_,by rw[h,errV_ne hk],fun e=>absurd (h.symm.trans e) hk,fun _=>rfl,hb⟩
theorem textR_le {S:Dq} (I:Inv S):(Lf.textR S.book).size≤300:=by
 have h1:(Lf.textR S.book).toList=Bm.text S.book:=by unfold Lf.textR;rw[if_pos I.book,Om.toList_mk]
 have h2:=seenP_len S.book
 have h3:=seenP_le S.book
 have h4:=few_book I
 rw[←h1,Om.len_eq] at h2
 omega
theorem try_any (w wr:World) (T bt bo:Nat) (C:Dq) (F:Nat→Prop) (vo:Value) (L:List (Ox × Value)) (E:Int) (x:List Ox) (v:Value) (B1:Nat) (h:Rp w wr T bt bo C F vo L) (hL:L.length≤1000000) (ho:E=0→OpsNew B1 wr v x) (hB:bo<B1∧(∀g,vo.ownBlock=some g→g<B1)∧(∀g,F g→g<B1)) (hn:∀o ∈ x,o.2.2.2.2=[]) (hs:E=0→∀o ∈ x,o.2.2.1.size≤maxLen):
  Calls Tryz.prog 76 #[v,errV E,.pointer (some ⟨bo,0,none⟩),.pointer (some ⟨bt,0,none⟩)] wr (DrPost w wr T bt bo C L E x):=by
 by_cases hE:E=0
 ·subst hE
  rw[errV_zero]
  exact try_ok w wr T bt bo C F vo L x v B1 h hL (ho rfl) hB hn (hs rfl)
 ·exact try_err w wr T bt bo C F vo L E x v h hE
theorem ed_shape {w:World} {E:Int} {L:List Ox} {v:Value} {B:Nat} (h1:E=0→OpsNew B w v L) (h2:E≠0→v=.slice none 0 0):∃p n c,v=.slice p n c:=by
 by_cases h:E=0
 ·obtain⟨g,K,e,_⟩:=h1 h;exact⟨_,_,_,e⟩
 ·exact⟨_,_,_,h2 h⟩
theorem len_map {K:List (Ox × Value)} {x:List Ox} (h:K.map (·.1)=x):K.length=x.length:=by rw[←h,List.length_map]
theorem take_rev {A:List Nat} {j:Nat} (h:j<A.length):(A.take (j+1)).reverse=A.getD j 0::(A.take j).reverse:=by
 rw[List.take_succ_eq_append_getElem h,List.reverse_append,List.getD_eq_getElem?_getD,List.getElem?_eq_getElem h];rfl
theorem rep_who (D:Nat) (S:Dq) (who:Int) (p b:ByteArray) (w:World) (h:Pm.isWho who=false):
  Calls Tryz.prog 34 #[.pointer (some ⟨D,0,none⟩),.int .i64 who,.string p,.string b] w (RePost w (repE S who p b) (repL S who p b)):=by
 have HE:Hid (repE S who p b=1):=by unfold Hid repE;rw[if_pos h]
 have tst:who<1∨(¬who<1∧8<who):=by
  simp[Pm.isWho] at h;omega
 clear h
 rcases tst with q1 | ⟨q1,q2⟩
 all_goals
  go_enter Tryz.func34,Tryz.ntmps34
  go_wp2_with fail
  go_ret2
  exact RePost.no HE.out (by decide) (Below.refl _ _)
theorem rep_all (D:Nat) (S:Dq) (F:Nat→Prop) (who:Int) (p b:ByteArray) (w:World) (h:DocAt w D S F) (hp:p.size≤maxLen) (h1:1≤who) (h8:who≤8) (he:allE (Lf.textR S.book) p≠0):
  Calls Tryz.prog 34 #[.pointer (some ⟨D,0,none⟩),.int .i64 who,.string p,.string b] w (RePost w (repE S who p b) (repL S who p b)):=by
 have hw:Pm.isWho who=true:=by simp[Pm.isWho,h1,h8]
 have HE:Hid (repE S who p b=allE (Lf.textR S.book) p):=by unfold Hid repE;rw[if_neg (by rw[hw];simp),if_pos he]
 have CT:=text_get D S F w h
 have h300:=textR_le h.inv
 obtain⟨t,ht⟩:∃t,t=Lf.textR S.book:=⟨_,rfl⟩
 rw[←ht] at CT HE h300 he
 have q1:¬who<1:=by omega
 have q2:¬8<who:=by omega
 have CA:Hid (∀W,∃k:Int,k≠0∧allE t p=k∧Calls Tryz.prog 22 #[.string t,.string p] W fun e w'=>e=.returned (.tuple #[.slice none 0 0,.iface 84 (.int .i64 k)])∧w'=W):=by
  intro W
  unfold allE at he ⊢
  by_cases c1:300<t.size∨200<p.size
  ·exact⟨4,by decide,by rw[if_pos c1],all_full t p W (by unfold maxLen;omega) hp c1⟩
  ·by_cases c2:p.size=0
   ·obtain rfl:=F2.nil_of c2
    exact⟨3,by decide,by rw[if_neg c1,if_pos c2],all_empty t W h300⟩
   ·rw[if_neg c1,if_neg c2] at he;exact absurd rfl he
 clear ht h hp h1 h8 hw he
 go_enter Tryz.func34,Tryz.ntmps34
 go_wp2_with fail
 refine CT.mono ?_
 rintro e w1 ⟨rfl,hb1⟩
 have HB1:=z9 hb1
 obtain⟨k,hk,hke,CA2⟩:=CA.out w1
 have HK:Hid (k≠0∧allE t p=k):=⟨hk,hke⟩
 clear hb1 CT CA hk hke
 go_wp2_with fail
 refine CA2.mono ?_
 rintro e w2 ⟨rfl,rfl⟩
 clear CA2
 go_wp2_with fail
 go_ret2
 exact RePost.no (HE.out.trans HK.out.2) HK.out.1 HB1.out
theorem rep_go (D:Nat) (S:Dq) (F:Nat→Prop) (who:Int) (p b:ByteArray) (w:World) (h:DocAt w D S F) (hR:Rep S) (hM:ML w) (hb:b.size≤maxLen) (h1:1≤who) (h8:who≤8) (hp2:p.size≤200) (hp0:p.size≠0):
  Calls Tryz.prog 34 #[.pointer (some ⟨D,0,none⟩),.int .i64 who,.string p,.string b] w (RePost w (repE S who p b) (repL S who p b)):=by
 have hw:Pm.isWho who=true:=by simp[Pm.isWho,h1,h8]
 have CT:=text_get D S F w h
 have h300:=textR_le h.inv
 obtain⟨t,ht⟩:∃t,t=Lf.textR S.book:=⟨_,rfl⟩
 obtain⟨A,hA⟩:∃A,A=Fi.all t.toList p.toList:=⟨_,rfl⟩
 have he0:allE (Lf.textR S.book) p=0:=by rw[←ht] at h300 ⊢;unfold allE;rw[if_neg (by omega),if_neg hp0]
 have HE:Hid (repE S who p b=rpE who p.size b A.reverse S):=by unfold Hid repE;rw[if_neg (by rw[hw];simp),if_neg (by simpa using he0),hA,ht]
 have HL:Hid (repL S who p b=rpL who p.size b A.reverse S):=by unfold Hid repL;rw[hA,ht]
 rw[←ht] at CT h300
 have hAs:A.length≤300∧∀x ∈ A,x+p.size≤300:=by
  have hpn:p.toList≠[]:=fun e=>hp0 (by rw[←Kb.len_eq,e];rfl)
  have h3:=Fi.room (t:=t.toList) hpn (t.toList.length+1) 0 (Nat.zero_le _)
  refine⟨?_,fun x hx=> ?_⟩
  ·rw[hA]
   unfold Fi.all
   rw[Kb.len_eq,Kb.len_eq] at h3
   rw[Kb.len_eq]
   have h4:=Nat.le_mul_of_pos_right (Fi.allF t.toList p.toList (t.size+1) 0).length (show 0<p.size by omega)
   omega
  ·rw[hA] at hx
   have h5:=Fi.isAt_le hpn (Fi.found hpn _ _ x hx).2
   rw[Kb.len_eq,Kb.len_eq] at h5
   omega
 have HAS:Hid (∀x ∈ A,x+p.size≤300):=hAs.2
 have hn3:=hAs.1
 have q1:¬who<1:=by omega
 have q2:¬8<who:=by omega
 have HD:Hid (∀W,Below w.heap.size w W→DocAt W D S F):=fun W hb9=>h.below hb9
 have HRE:Hid (Rep S):=hR
 have HM:Hid (ML w):=hM
 have HBM:Hid (b.size≤maxLen):=hb
 have CA:Hid (∀W,ML W→Calls Tryz.prog 22 #[.string t,.string p] W fun e w'=>∃v,e=.returned (.tuple #[v,.nilIface])∧w'.ownsRow W.heap.size 3 1 v A.length (intsV A)∧Below W.heap.size W w'):=fun W hW=>by rw[hA];exact all_is t p W hW h300 hp2 hp0
 obtain⟨n,hn⟩:∃n,A.length=n:=⟨_,rfl⟩
 rw[hn] at hn3
 have HN:Hid (A.length=n):=hn
 clear ht h hw he0 hA hR hM hb hAs hn
 go_enter Tryz.func34,Tryz.ntmps34
 go_wp2_with fail
 refine CT.mono ?_
 rintro e w1 ⟨rfl,hb1⟩
 have HB1:Hid (Below w.heap.size w w1):=hb1
 clear hb1 CT
 go_wp2_with fail
 refine(CA.out w1 (HM.out.below HB1.out)).mono ?_
 rintro e w2 ⟨v2,rfl,ho2,hb2⟩
 rw[HN.out] at ho2
 obtain⟨qa,ca,hv2⟩:∃q c,v2=.slice q n c:=by
  rcases ho2.2 with⟨e,e0⟩ | ⟨g,cap,cur,e9,_⟩
  ·exact⟨none,0,by rw[e,e0]⟩
  ·exact⟨_,_,e9⟩
 subst hv2
 have HB2:Hid (Below w.heap.size w w2):=bel HB1.out hb2
 have HCA:Hid (∀j,j<n→∃g,qa=some ⟨g,0,none⟩∧w2.cell? ⟨g,j,none⟩=some (.int .i64 ((A.getD j 0:Nat):Int))):=by
  intro j hj
  obtain⟨g,cap,e,hc⟩:=Fr.own_cells ho2 (by omega)
  injection e with e1 _ _
  refine⟨g,e1, ?_⟩
  have hj2:j<A.length:=by rw[HN.out];exact hj
  have:=hc j (.int .i64 ((A.getD j 0:Nat):Int)) (by unfold intsV;rw[List.getElem?_map,List.getElem?_eq_getElem hj2,List.getD_eq_getElem?_getD,List.getElem?_eq_getElem hj2];rfl)
  rwa [Nat.zero_add] at this
 clear ho2 hb2 CA HB1
 go_wp2_with fail
 refine(copy_of D S F w2 (HD.out w2 HB2.out) HRE.out).mono ?_
 rintro e w3 ⟨T,F3,rfl,hd3,hf3,hb3⟩
 have HB3:Hid (Below w2.heap.size w2 w3):=hb3
 have HD3:Hid (DocAt w3 T S F3):=hd3
 have HF3:Hid (∀g,F3 g→w2.heap.size≤g∧g<w3.heap.size):=fun g hg=>⟨hf3 g hg,hd3.lt g hg⟩
 clear hd3 hf3 hb3
 have HB5:Hid (Below w3.heap.size w3 ((w3.alloc (.cells #[.pointer (some ⟨T,0,none⟩)] 40)).alloc (.cells #[.slice none 0 0] 55))):=((Below.refl _ w3).alloc (Nat.le_refl _) _).alloc (by simp) _
 have HRP:Hid (Rp w2 ((w3.alloc (.cells #[.pointer (some ⟨T,0,none⟩)] 40)).alloc (.cells #[.slice none 0 0] 55)) T w3.heap.size (w3.heap.size+1) S F3 (.slice none 0 0) []):=by
  have z1:(w3.alloc (.cells #[.pointer (some ⟨T,0,none⟩)] 40)).heap.size=w3.heap.size+1:=by simp
  have o1:=heap_alloc_new (w3.alloc (.cells #[.pointer (some ⟨T,0,none⟩)] 40)) (.cells #[.slice none 0 0] 55)
  rw[z1] at o1
  have t1:((w3.alloc (.cells #[.pointer (some ⟨T,0,none⟩)] 40)).alloc (.cells #[.slice none 0 0] 55)).heap[w3.heap.size]? =some (.cells #[.pointer (some ⟨T,0,none⟩)] 40):=
   (Below.heap_alloc _ _ _ (by rw[z1];omega)).trans (heap_alloc_new w3 _)
  have hs3:=HB3.out.size
  exact⟨HD3.out.below HB5.out,fun g hg=>(HF3.out g hg).1,t1,o1,hs3,by omega,World.ownsRow_nil _ _ _ _,(fun y hy=>by cases hy),(fun e=>by have:=(HF3.out _ e).2;omega),(fun e=>by have:=(HF3.out _ e).2;omega),(fun g e=>by cases e),bel HB3.out HB5.out⟩
 clear HB5 HD3 HF3 HB3
 go_wp2_with fail
 obtain⟨bt,hbt⟩:∃bt,bt=w3.heap.size:=⟨_,rfl⟩
 rw[←hbt] at HRP ⊢
 obtain⟨w5,hw5⟩:∃w5,w5=(w3.alloc (.cells #[.pointer (some ⟨T,0,none⟩)] 40)).alloc (.cells #[.slice none 0 0] 55):=⟨_,rfl⟩
 rw[←hw5] at HRP ⊢
 clear hbt hw5
 go_loopw [15] (fun vi wr=>∃(j:Nat) (i:Int) (C:Dq) (Fk:Nat→Prop) (vo:Value) (L:List (Ox × Value)),vi=.int .i64 i∧Hid (i=(j:Int)-1)∧Hid (j≤n)∧Hid (Rp w2 wr T bt (bt+1) C Fk vo L)∧Hid (rpE who p.size b (A.take j).reverse C=rpE who p.size b A.reverse S)∧Hid (L.map (·.1)++rpL who p.size b (A.take j).reverse C=rpL who p.size b A.reverse S)∧Hid (L.length≤400*(n-j))) (fun vi _=>(intOf vi+1).toNat)
 case atStart=>exact⟨n,(n:Int)-1,S,F3,.slice none 0 0,[],by go_num,rfl,Nat.le_refl _,HRP,by rw[Hid,←HN.out,List.take_length],by rw[Hid,←HN.out,List.take_length];rfl,Nat.zero_le _⟩
 case round=>
  clear HRP
  obtain⟨j,i,C,Fk,vo,L,rfl,HI,HJ,HRP,HRE2,HRL,HLL⟩:=hrel
  cases j with
  | zero=>
   obtain rfl:i= -1:=by have:=HI.out;omega
   have HE0:Hid (repE S who p b=0):=by rw[Hid,HE.out,←HRE2.out];rfl
   have HLX:Hid (L.map (·.1)=repL S who p b):=by
    have h9:=HRL.out
    rw[show rpL who p.size b (A.take 0).reverse C=[] from rfl,List.append_nil] at h9
    rw[Hid,h9,HL.out]
   have c0:=blk_cell HRP.out.ob (i:=0) (u:=vo) rfl
   obtain⟨po,no,co,hvo,_⟩:=own_shape HRP.out.row
   subst hvo
   go_wp2_with fail
   go_ret2
   rw[HE0.out]
   refine⟨_,rfl,fun _=> ?_,fun e=>absurd rfl e,bel HB2.out HRP.out.bel⟩
   rw[←HLX.out]
   exact HRP.out.ops.mono (fun g hg=>⟨Nat.le_trans HB2.out.size hg.1,hg.2⟩) (fun g hg=>⟨Nat.le_trans HB2.out.size hg.1,hg.2⟩)
  | succ j=>
   obtain rfl:i=(j:Int):=by have:=HI.out;omega
   have hjn:j<n:=HJ.out
   have hjA:j<A.length:=by rw[HN.out];exact hjn
   obtain⟨ga,rfl,hca⟩:=HCA.out j hjn
   have a0:=(HRP.out.bel.cell (p:=⟨ga,j,none⟩) (World.block_lt_of_cell? _ _ hca)).trans hca
   have hmem:A.getD j 0 ∈ A:=by rw[List.getD_eq_getElem?_getD,List.getElem?_eq_getElem hjA];exact List.getElem_mem _
   have ha3:=HAS.out _ hmem
   have htr:=take_rev hjA
   obtain⟨a,ha⟩:∃a,a=A.getD j 0:=⟨_,rfl⟩
   rw[←ha] at a0 ha3 htr
   have HX1:Hid (rpE who p.size b A.reverse S=if dE C who a p.size≠0 then dE C who a p.size else if iE (dS C who a p.size) who a b≠0 then iE (dS C who a p.size) who a b else rpE who p.size b (A.take j).reverse (iS (dS C who a p.size) who a b)):=by
    rw[Hid,←HRE2.out,htr,rpE_cons]
   have HX2:Hid (rpL who p.size b A.reverse S=L.map (·.1)++(delL C who a ((a+p.size:Nat):Int)++insL (dS C who a p.size) who a b++rpL who p.size b (A.take j).reverse (iS (dS C who a p.size) who a b))):=by
    rw[Hid,←HRL.out,htr,rpL_cons]
   have hL9:L.length≤1000000:=by have:=HLL.out;omega
   have t0:=blk_cell HRP.out.tb (i:=0) (u:=.pointer (some ⟨T,0,none⟩)) rfl
   have CD:=delete_any T C Fk who (a:Int) ((a+p.size:Nat):Int) wr HRP.out.doc
   rw[show((a+p.size:Nat):Int)=(a:Int)+(p.size:Int) by omega] at CD
   have HLT:=HRP.out.lt
   have HLT2:Hid (bt+1<wr.heap.size∧(∀g,vo.ownBlock=some g→g<wr.heap.size)∧(∀g,Fk g→g<wr.heap.size)):=⟨HLT.2.1,HLT.2.2.1,HLT.2.2.2⟩
   have hIC:Hid (Inv C):=HRP.out.doc.inv
   clear hca hmem htr ha HLT HRE2 HRL
   go_wp2_with fail
   refine CD.mono ?_
   rintro e w6 ⟨v6,he6,hv6,hn6,hb6⟩
   rw[show(a:Int)+(p.size:Int)=((a+p.size:Nat):Int) by omega] at he6 hv6 hn6
   have HR6:Hid (Rp w2 w6 T bt (bt+1) C Fk vo L):=HRP.out.below hb6
   have CTR:=try_any w2 w6 T bt (bt+1) C Fk vo L (delE C who a ((a+p.size:Nat):Int)) (delL C who a ((a+p.size:Nat):Int)) v6 wr.heap.size HR6.out hL9 hv6 HLT2.out (del_nil _ _ _ _) (fun _=>del_max hIC.out _ _ _)
   obtain⟨p6,n6,c6,rfl⟩:=ed_shape hv6 hn6
   obtain⟨ev6,hev6⟩:∃ev6,ev6=errV (delE C who a ((a+p.size:Nat):Int)):=⟨_,rfl⟩
   rw[←hev6] at he6 CTR
   subst he6
   clear hv6 hn6 hb6 hev6 CD a0 t0 HR6 HLT2
   go_wp2_with fail
   refine CTR.mono ?_
   rintro e w7 ⟨he7,hr7,hb7⟩
   have HB7:Hid (Below w2.heap.size w2 w7):=hb7
   clear CTR hb7
   by_cases hz:dE C who a p.size=0
   case neg=>
    have HEX:Hid (repE S who p b=dE C who a p.size):=by rw[Hid,HE.out,HX1.out,if_pos hz]
    have HZ:Hid (dE C who a p.size≠0):=hz
    rw[show cE (delE C who a ((a+p.size:Nat):Int)) C (delL C who a ((a+p.size:Nat):Int))=dE C who a p.size from rfl,errV_ne hz] at he7
    generalize dE C who a p.size=ez at he7 HEX HZ
    subst he7
    clear hr7 hz HX1 HX2
    go_wp2_with fail
    go_ret2
    exact RePost.no HEX.out HZ.out (bel HB2.out HB7.out)
   case pos=>
    obtain⟨F7,vo7,K7,hk7,hp7⟩:=hr7 hz
    rw[show cE (delE C who a ((a+p.size:Nat):Int)) C (delL C who a ((a+p.size:Nat):Int))=dE C who a p.size from rfl,hz,errV_zero] at he7
    subst he7
    have HK7:Hid (K7.map (·.1)=delL C who a ((a+p.size:Nat):Int)):=hk7
    have HR7:Hid (Rp w2 w7 T bt (bt+1) (dS C who a p.size) F7 vo7 (L++K7)):=hp7
    have HKL7:Hid (K7.length≤200):=by
     rw[Hid,len_map hk7,delL_len];exact hp2
    obtain⟨C1,hC1⟩:∃C1,C1=dS C who a p.size:=⟨_,rfl⟩
    rw[←hC1] at HR7 HX1 HX2
    have HX3:Hid (rpE who p.size b A.reverse S=if iE C1 who a b≠0 then iE C1 who a b else rpE who p.size b (A.take j).reverse (iS C1 who a b)):=by
     rw[Hid,HX1.out,if_neg (by simpa using hz)]
    have CI:=insert_any T C1 F7 who (a:Int) b w7 HR7.out.doc HBM.out
    have t7:=blk_cell HR7.out.tb (i:=0) (u:=.pointer (some ⟨T,0,none⟩)) rfl
    have HLT7:Hid (bt+1<w7.heap.size∧(∀g,vo7.ownBlock=some g→g<w7.heap.size)∧(∀g,F7 g→g<w7.heap.size)):=⟨HR7.out.lt.2.1,HR7.out.lt.2.2.1,HR7.out.lt.2.2.2⟩
    have hIC7:Hid (Inv C1):=HR7.out.doc.inv
    have hL7:(L++K7).length≤1000000:=by rw[List.length_append];have:=HKL7.out;have:=HLL.out;omega
    clear hr7 hz hk7 hp7 hC1 HX1 HRP hIC
    go_wp2_with fail
    refine CI.mono ?_
    rintro e w8 ⟨v8,he8,hv8,hn8,hb8⟩
    have HR8:Hid (Rp w2 w8 T bt (bt+1) C1 F7 vo7 (L++K7)):=HR7.out.below hb8
    have CTR:=try_any w2 w8 T bt (bt+1) C1 F7 vo7 (L++K7) (insE C1 who a b) (insL C1 who a b) v8 w7.heap.size HR8.out hL7 hv8 HLT7.out (F6.ins_nil _ _ _ _) (fun e=>ins_max hIC7.out e)
    obtain⟨p8,n8,c8,rfl⟩:=ed_shape hv8 hn8
    obtain⟨ev8,hev8⟩:∃ev8,ev8=errV (insE C1 who a b):=⟨_,rfl⟩
    rw[←hev8] at he8 CTR
    subst he8
    clear hv8 hn8 hb8 hev8 CI t7 HR8 HLT7
    go_wp2_with fail
    refine CTR.mono ?_
    rintro e w9 ⟨he9,hr9,hb9⟩
    have HB9:Hid (Below w2.heap.size w2 w9):=hb9
    clear CTR hb9
    by_cases hy:iE C1 who a b=0
    case neg=>
     have HEX:Hid (repE S who p b=iE C1 who a b):=by rw[Hid,HE.out,HX3.out,if_pos hy]
     have HZ:Hid (iE C1 who a b≠0):=hy
     rw[show cE (insE C1 who a b) C1 (insL C1 who a b)=iE C1 who a b from rfl,errV_ne hy] at he9
     generalize iE C1 who a b=ez at he9 HEX HZ
     subst he9
     clear hr9 hy HX3 HX2
     go_wp2_with fail
     go_ret2
     exact RePost.no HEX.out HZ.out (bel HB2.out HB9.out)
    case pos=>
     obtain⟨F9,vo9,K9,hk9,hp9⟩:=hr9 hy
     rw[show cE (insE C1 who a b) C1 (insL C1 who a b)=iE C1 who a b from rfl,hy,errV_zero] at he9
     subst he9
     have HR9:Hid (Rp w2 w9 T bt (bt+1) (iS C1 who a b) F9 vo9 (L++K7++K9)):=hp9
     have HKL9:Hid (K9.length≤200):=by
      rw[Hid,len_map hk9,insL_len]
      exact(insE_zero.1 (cE_zero.1 hy).1).few
     have HEE:Hid (rpE who p.size b (A.take j).reverse (iS C1 who a b)=rpE who p.size b A.reverse S):=by
      rw[Hid,HX3.out,if_neg (by simpa using hy)]
     have HLE:Hid ((L++K7++K9).map (·.1)++rpL who p.size b (A.take j).reverse (iS C1 who a b)=rpL who p.size b A.reverse S):=by
      rw[Hid,HX2.out,List.map_append,List.map_append,HK7.out,hk9];simp only[List.append_assoc]
     have HLN:Hid ((L++K7++K9).length≤400*(n-j)):=by
      rw[Hid,List.length_append,List.length_append]
      have g1:=HKL7.out;have g2:=HKL9.out;have g3:=HLL.out
      omega
     have HJ2:Hid (j≤n):=Nat.le_of_lt hjn
     clear hr9 hy hk9 hp9
     go_wp2_with fail
     go_roundw
     case rel=>exact⟨j,(j:Int)-1,_,F9,vo9,_,by go_num,rfl,HJ2,HR9,HEE,HLE,HLN⟩
     case measure=>first | (simp[intOf];done) | (simp[intOf];omega)
theorem replace_any (D:Nat) (S:Dq) (F:Nat→Prop) (who:Int) (p b:ByteArray) (w:World) (h:DocAt w D S F) (hR:Rep S) (hM:ML w) (hp:p.size≤maxLen) (hb:b.size≤maxLen):
  Calls Tryz.prog 34 #[.pointer (some ⟨D,0,none⟩),.int .i64 who,.string p,.string b] w (RePost w (repE S who p b) (repL S who p b)):=by
 cases hw:Pm.isWho who with
 | false=>exact rep_who D S who p b w hw
 | true=>
  have h18:1≤who∧who≤8:=by simpa[Pm.isWho] using hw
  obtain⟨h1,h8⟩:=h18
  by_cases he:allE (Lf.textR S.book) p=0
  ·have h300:=textR_le h.inv
   unfold allE at he
   by_cases c1:300<(Lf.textR S.book).size∨200<p.size
   ·rw[if_pos c1] at he;exact absurd he (by decide)
   ·by_cases c2:p.size=0
    ·rw[if_neg c1,if_pos c2] at he;exact absurd he (by decide)
    ·exact rep_go D S F who p b w h hR hM hb h1 h8 (by omega) c2
  ·exact rep_all D S F who p b w h hp h1 h8 he
end F7
end Go.Proofs.YtlmdchpbpgcfmaaGreatDoor
