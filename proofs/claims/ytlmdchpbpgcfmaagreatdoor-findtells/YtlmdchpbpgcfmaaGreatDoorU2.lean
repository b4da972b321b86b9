import Derived.Test.YtlmdchpbpgcfmaaGreatDoorU1
import Derived.Test.YtlmdchpbpgcfmaaGreatDoorP2
set_option linter.unusedVariables false
set_option maxRecDepth 100000
set_option maxHeartbeats 8000000
/- Package edit: Insert. -/
namespace Go.Proofs.YtlmdchpbpgcfmaaGreatDoor
namespace Ue
open Go.ChangeShapes Go.WideShapes Go.ChangeAt Go.RowKit Cm Ka Kb Na Om Oa Oz Oc Og Oi Hm Ia Ib Ic Idc Ie If Ig Ih Ii Ij Ik Il Im Um Ua Ub Uc Ud
open La (bel bel_drew errV_zero errV_ne own_ge own_grow own_below Lies LeafsIn)
open Lj (BookAt BookNew)
/- what an edit answers: ops of its own, or none and an error -/
def EdPost (w:World) (E:Int) (L:List Ox) (e:Ending) (w':World):Prop:=
 ∃v,e=.returned (.tuple #[v,errV E])∧(E=0→OpsNew w.heap.size w' v L)∧(E≠0→v=.slice none 0 0)∧Below w.heap.size w w'
theorem EdPost.no {w w':World} {E k:Int} {L:List Ox} (h:E=k) (hk:k≠0) (hb:Below w.heap.size w w'):EdPost w E L (.returned (.tuple #[.slice none 0 0,.iface 84 (.int .i64 k)])) w':=
 ⟨_,by rw[h,errV_ne hk],fun e=>absurd (h.symm.trans e) hk,fun _=>rfl,hb⟩
def insQ (a b:ByteArray) (who:Int) (t:ByteArray):List Ox:=(List.range t.size).map fun k=>((0,0),1,nthP a b who (k+1),((t.toList.getD k 0).toNat:Int),[])
theorem insQ_len (a b:ByteArray) (who:Int) (t:ByteArray):(insQ a b who t).length=t.size:=by unfold insQ;simp
theorem insQ_at {a b:ByteArray} {who:Int} {t:ByteArray} {k:Nat} (hk:k<t.size):(insQ a b who t).getD k oz=((0,0),1,nthP a b who (k+1),((t.toList.getD k 0).toNat:Int),[]):=by
 unfold insQ
 rw[List.getD_eq_getElem?_getD,List.getElem?_map,List.getElem?_range hk];rfl
theorem insQ_dot (S:Dq) (who off:Int) (t:ByteArray):redot who (kn S who) (insQ (leftP S.book off.toNat) (rightP S.book off.toNat) who t)=insL S who off t:=by
 unfold redot insL
 rw[insQ_len]
 refine List.map_congr_left fun k hk=> ?_
 rw[insQ_at (List.mem_range.1 hk)];rfl
theorem byte_at (t:ByteArray) (k:Nat) (h:k<t.size):t.toList.getD k 0=t[k]:=by
 have h2:k<t.toList.length:=by rw[Om.len_eq];exact h
 rw[List.getD_eq_getElem?_getD,List.getElem?_eq_getElem h2]
 simp only[ByteArray.toList_eq,Array.getElem_toList,Option.getD_some]
 rfl
theorem row_new {w w1:World} {g n:Nat} {xs:List Value} (h:w1.ownsRow w.heap.size 75 6 (.slice (some ⟨g,0,none⟩) n n) n xs):RowO w1 g n []:=by
 obtain⟨_,e | ⟨g9,cap9,cur9,e,_,hc9,_,_,hsz9,_⟩⟩:=h
 ·exact absurd e.1 (by intro e9;cases e9)
 ·injection e with e1 e2 e3
  injection e1 with e1
  injection e1 with e1
  exact⟨cur9,by rw[e1];exact hc9,by rw[hsz9,←e3],rfl⟩
theorem grown_below {w w0 w1:World} (h:w0.grownBy w1 none) (hb:Below w.heap.size w w0):Below w.heap.size w w1:=
 hb.trans ⟨h.os,h.tape,h.output,h.size,fun k hk=>h.block k (Nat.lt_of_lt_of_le hk hb.size) (by intro e;cases e)⟩
theorem insert_who (D:Nat) (S:Dq) (F:Nat→Prop) (who off:Int) (t:ByteArray) (w:World) (h:DocAt w D S F) (hw:Pm.isWho who=false):
  Calls Tryz.prog 45 #[.pointer (some ⟨D,0,none⟩),.int .i64 who,.int .i64 off,.string t] w (EdPost w (insE S who off t) (insL S who off t)):=by
 have HE:Hid (insE S who off t=1):=by unfold Hid insE;rw[if_pos hw]
 have C:=fun w=>who_no who w (isWho_no.1 hw)
 clear h hw
 go_enter Tryz.func45,Tryz.ntmps45
 go_wp2_with fail
 refine(C _).mono ?_
 rintro e w2 ⟨rfl,hw⟩
 have hw2:=hw.symm
 subst hw2
 clear hw C
 go_wp2_with fail
 go_ret2
 exact EdPost.no HE.out (by decide) (Below.refl _ _)
theorem insert_text (D:Nat) (S:Dq) (F:Nat→Prop) (who off:Int) (t:ByteArray) (w:World) (h:DocAt w D S F) (hm:t.size≤maxLen) (hw1:1≤who) (hw8:who≤8) (ht:textE t≠0):
  Calls Tryz.prog 45 #[.pointer (some ⟨D,0,none⟩),.int .i64 who,.int .i64 off,.string t] w (EdPost w (insE S who off t) (insL S who off t)):=by
 have HE:Hid (insE S who off t=textE t):=by unfold Hid insE;rw[isWho_iff.2 ⟨hw1,hw8⟩,if_neg (by simp),if_pos ht]
 have C:=fun w=>who_ok who w hw1 hw8
 have CT:=text_ok t w hm
 have HT:=z9 ht
 rw[errV_ne ht] at CT
 obtain⟨ez,hez⟩:∃ez,ez=textE t:=⟨_,rfl⟩
 rw[←hez] at CT HE HT
 clear h ht hez hm hw1 hw8
 go_enter Tryz.func45,Tryz.ntmps45
 go_wp2_with fail
 refine(C _).mono ?_
 rintro e w2 ⟨rfl,hw⟩
 have hw2:=hw.symm
 subst hw2
 clear hw C
 go_wp2_with fail
 refine CT.mono ?_
 rintro e w2 ⟨rfl,hb⟩
 have HB:=z9 hb
 clear hb CT
 go_wp2_with fail
 go_ret2
 exact EdPost.no HE.out HT.out HB.out
theorem insert_off (D:Nat) (S:Dq) (F:Nat→Prop) (who off:Int) (t:ByteArray) (w:World) (h:DocAt w D S F) (hm:t.size≤maxLen) (hw1:1≤who) (hw8:who≤8) (ht:textE t=0) (ha:aroundE S.book off≠0):
  Calls Tryz.prog 45 #[.pointer (some ⟨D,0,none⟩),.int .i64 who,.int .i64 off,.string t] w (EdPost w (insE S who off t) (insL S who off t)):=by
 have HE:Hid (insE S who off t=1):=by unfold Hid insE;rw[isWho_iff.2 ⟨hw1,hw8⟩,if_neg (by simp),if_neg (by simpa using ht),if_pos ha]
 have C:=fun w=>who_ok who w hw1 hw8
 have CT:=text_ok t w hm
 rw[ht,errV_zero] at CT
 have HD:=z9 h
 have HA:=z9 ha
 clear h ht hm hw1 hw8 ha
 go_enter Tryz.func45,Tryz.ntmps45
 go_wp2_with fail
 refine(C _).mono ?_
 rintro e w2 ⟨rfl,hw⟩
 have hw2:=hw.symm
 subst hw2
 clear hw C
 go_wp2_with fail
 refine CT.mono ?_
 rintro e w2 ⟨rfl,hb⟩
 have HB:=z9 hb
 have CB:=book_get D S F w2 (HD.out.below hb)
 clear hb CT
 go_wp2_with fail
 refine CB.mono ?_
 rintro e w3 ⟨vb,rfl,hk3,hb3⟩
 have CA:=around_no vb S.book off w3 hk3.1 HD.out.inv.book HA.out
 have HB3:=z9 (bel HB.out hb3)
 clear CB hk3 hb3
 go_wp2_with fail
 refine CA.mono ?_
 rintro e w4 ⟨rfl,hb4⟩
 have HB4:=z9 (bel HB3.out hb4)
 clear CA hb4
 go_wp2_with fail
 go_ret2
 exact EdPost.no HE.out (by decide) HB4.out
theorem insert_row (D:Nat) (S:Dq) (F:Nat→Prop) (who:Int) (off:Nat) (t:ByteArray) (w:World) (h:DocAt w D S F) (hm:t.size≤maxLen) (hw1:1≤who) (hw8:who≤8) (ht:textE t=0) (ha:off≤(seenP S.book).length):
  Calls Tryz.prog 45 #[.pointer (some ⟨D,0,none⟩),.int .i64 who,.int .i64 off,.string t] w (EdPost w (insE S who off t) (insL S who off t)):=by
 have HE:Hid (insE S who off t=rowE (leftP S.book off) (rightP S.book off) who t.size):=by unfold Hid insE;rw[isWho_iff.2 ⟨hw1,hw8⟩,if_neg (by simp),if_neg (by simpa using ht),if_neg (by rw[aroundE_zero.2 ⟨by omega,by omega⟩];simp),Int.toNat_natCast]
 have C:=fun w=>who_ok who w hw1 hw8
 have CT:=text_ok t w hm
 rw[ht,errV_zero] at CT
 have HD:=z9 h
 have HA:=z9 ha
 have ht2:=(textE_zero.1 ht).1
 obtain⟨s1,s2,_,_⟩:=left_small h.inv.book off
 have HIL:Hid (redot who (kn S who) (insQ (leftP S.book off) (rightP S.book off) who t)=insL S who off t):=by
  have:=insQ_dot S who off t
  rwa [Int.toNat_natCast] at this
 obtain⟨n,hn⟩:∃n,n=t.size:=⟨_,rfl⟩
 have HN:=z9 hn.symm
 have hn2:n≤200:=by omega
 have hnz:(n:Int)≤200:=by omega
 obtain⟨i0,hi,hz0,hz1,hz2⟩:=info_parts Ii.infoO
 have CA0:Hid (∀vb W,BookAt W vb S.book→Calls Tryz.prog 90 #[vb,.int .i64 off] W fun e w'=>e=.returned (.tuple #[.string (leftP S.book off),.string (rightP S.book off),.nilIface])∧Below W.heap.size W w'):=fun vb W hk=>around_ok vb S.book off W hk h.inv.book ha
 obtain⟨a,haa⟩:∃a,a=leftP S.book off:=⟨_,rfl⟩
 obtain⟨b,hbb⟩:∃b,b=rightP S.book off:=⟨_,rfl⟩
 rw[←haa,←hbb] at HE HIL CA0
 rw[←haa] at s1
 rw[←hbb] at s2
 have HS1:=z9 s1
 have HS2:=z9 s2
 have HTZ:Hid ((t.size:Int)=n):=by unfold Hid;omega
 have hts:t.size≤200:=by omega
 have HW:Hid (1≤who∧who≤8):=⟨hw1,hw8⟩
 clear h ht hm hw1 hw8 ha haa hbb s1 s2 hn ht2
 go_enter Tryz.func45,Tryz.ntmps45
 go_wp2_with fail
 refine(C _).mono ?_
 rintro e w2 ⟨rfl,hw⟩
 have hw2:=hw.symm
 subst hw2
 clear hw C
 go_wp2_with fail
 refine CT.mono ?_
 rintro e w2 ⟨rfl,hb⟩
 have HB:=z9 hb
 have CB:=book_get D S F w2 (HD.out.below hb)
 clear hb CT
 go_wp2_with fail
 refine CB.mono ?_
 rintro e w3 ⟨vb,rfl,hk3,hb3⟩
 have CA:=CA0.out vb w3 hk3.1
 have HB3:=z9 (bel HB.out hb3)
 clear CB hk3 hb3 CA0
 go_wp2_with fail
 refine CA.mono ?_
 rintro e w4 ⟨rfl,hb4⟩
 have HB4:=z9 (bel HB3.out hb4)
 clear CA hb4
 go_wp2_with (at_make;refine wpList_make_full _ rfl (.tmp 39) (.tmp 39) 55 rfl w.heap.size 75 i0 (.agg #[.int .i64 0,.int .i64 0,.int .i64 0,.string ⟨#[]⟩,.int .i64 0,.slice none 0 0]) 6 Tryz.underlying55 hi hz0 hz1 .i64 .i64 (t.size:Int) (t.size:Int) n rfl rfl HTZ.out HTZ.out (by rw[hz2];omega) (by unfold maxLen;omega) HB4.out.size ?_;intro w5 hown hgrow;have HST0:Hid (OpsSt w n (insQ a b who t) w4.heap.size 0 w5 []):=⟨grown_below hgrow HB4.out,row_new hown,rfl,fun y hy=>(by cases hy)⟩;clear hown hgrow)
 go_loopw [12,43] (fun va vi wr=>∃(k:Nat) (L:List (Ox × Value)),k≤n∧vi=.int .i64 k∧va=.string (nthP a b who k)∧Hid (rowE a b who k=0)∧Hid (OpsSt w n (insQ a b who t) w4.heap.size k wr L)) (fun _ vi _=>n-(intOf vi).toNat)
 case atStart=>exact⟨0,[],by omega,rfl,rfl,rfl,HST0⟩
 case round=>
  clear HST0
  obtain⟨k,L,hk,rfl,rfl,HR,HST⟩:=hrel
  by_cases hlt:k<n
  ·have hltz:(k:Int)<n:=by omega
   have hkt:k<t.size:=by rw[HN.out];exact hlt
   have hktz:(k:Int)<t.size:=by omega
   have C9:Calls Tryz.prog 91 #[.string (nthP a b who k),.string b,.int .i64 who] wr fun e w'=>e=.returned (.tuple #[.string (nthP a b who (k+1)),errV (rowE a b who (k+1))])∧Below wr.heap.size wr w':=by
    rw[row_go HR.out]
    refine(Pe.between_any (nthP a b who k) b who wr ?_ ?_).mono ?_
    ·have:=nth_small HR.out HS1.out k (Nat.le_refl _);unfold maxLen;omega
    ·have:=HS2.out;unfold maxLen;omega
    ·rintro e w' ⟨rfl,hb⟩;exact⟨rfl,hb⟩
   have HX:Hid ((((0,0),1,nthP a b who (k+1),((t[k]'hkt).toNat:Int),[]):Ox)=(insQ a b who t).getD k oz):=by
    unfold Hid;rw[insQ_at hkt,byte_at t k hkt]
   have hx255:((t[k]'hkt).toNat:Int)≤255:=by have:=(t[k]'hkt).toNat_lt;omega
   obtain⟨p2,hp2⟩:∃p2,p2=nthP a b who (k+1):=⟨_,rfl⟩
   rw[←hp2] at C9 HX
   have HP2:=z9 hp2
   clear hp2
   by_cases hz:rowE a b who (k+1)=0
   ·rw[hz,errV_zero] at C9
    have HR2:=z9 hz
    clear hz
    go_wp2_with fail
    refine C9.mono ?_
    rintro e w6 ⟨rfl,hb6⟩
    have HST2:=z9 (HST.out.below hb6)
    obtain⟨⟨y0,z0⟩,g0⟩:=HST2.out.row.cell6 hlt 0 (by omega)
    obtain⟨⟨y1,z1⟩,g1⟩:=HST2.out.row.cell6 hlt 1 (by omega)
    obtain⟨⟨y2,z2⟩,g2⟩:=HST2.out.row.cell6 hlt 2 (by omega)
    obtain⟨⟨y3,z3⟩,g3⟩:=HST2.out.row.cell6 hlt 3 (by omega)
    obtain⟨⟨y4,z4⟩,g4⟩:=HST2.out.row.cell6 hlt 4 (by omega)
    obtain⟨⟨y5,z5⟩,g5⟩:=HST2.out.row.cell6 hlt 5 (by omega)
    rw[Nat.add_zero] at z0 g0
    have HP:Hid (OpsSt w n (insQ a b who t) w4.heap.size (k+1) (w6s w6 w4.heap.size (k*6) ((0,0),1,p2,((t[k]'hkt).toNat:Int),[]) (.slice none 0 0)) (L++[(((0,0),1,p2,((t[k]'hkt).toNat:Int),[]),.slice none 0 0)])):=HST2.out.put HB4.out.size (by rw[insQ_len,HN.out]) hlt HX.out (World.ownsRow_nil _ _ _ _)
    clear C9 hb6
    go_wp2_with fail
    go_roundw
    case rel=>exact⟨k+1,_,by omega,by go_num,by rw[HP2.out],HR2,HP⟩
    case measure=>simp[intOf];omega
   ·have HE2:Hid (insE S who off t=rowE a b who (k+1)):=by unfold Hid;rw[HE.out];exact row_stop hz _ (by omega)
    have HZ:=z9 hz
    rw[errV_ne hz] at C9
    obtain⟨ez,hez⟩:∃ez,ez=rowE a b who (k+1):=⟨_,rfl⟩
    rw[←hez] at C9 HE2 HZ
    clear hz hez
    go_wp2_with fail
    refine C9.mono ?_
    rintro e w6 ⟨rfl,hb6⟩
    have HB6:=z9 (bel HST.out.bl hb6)
    clear C9 hb6
    go_wp2_with fail
    go_ret2
    exact EdPost.no HE2.out HZ.out HB6.out
  ·obtain rfl:n=k:=by omega
   have hltz:¬(n:Int)<n:=by omega
   have hq:OpsNew w.heap.size wr (.slice (some ⟨w4.heap.size,0,none⟩) n n) (insQ a b who t):=by
    refine⟨w4.heap.size,L,by rw[insQ_len,HN.out],HB4.out.size, ?_,by rw[insQ_len,HN.out];exact HST.out.row,by rw[insQ_len,HN.out];omega,HST.out.own⟩
    rw[HST.out.ls,List.take_of_length_le (by rw[insQ_len,HN.out];exact Nat.le_refl _)]
   have CD:=dots_any D S F who w.heap.size (insQ a b who t) (.slice (some ⟨w4.heap.size,0,none⟩) n n) wr (HD.out.below HST.out.bl) HW.out.1 HW.out.2 hq HST.out.bl.size (by rw[insQ_len,HN.out];omega)
   have HE2:Hid (insE S who off t=0):=by unfold Hid;rw[HE.out,HN.out];exact HR.out
   rw[HIL.out] at CD
   clear hq
   go_wp2_with fail
   refine CD.mono ?_
   rintro e w6 ⟨rfl,ho6,hb6⟩
   have HO6:=z9 ho6
   have HB6:=z9 (HST.out.bl.trans hb6)
   clear CD ho6 hb6
   go_wp2_with fail
   go_ret2
   exact⟨_,by rw[HE2.out];rfl,fun _=>HO6.out,fun e=>absurd HE2.out e,HB6.out⟩
theorem insert_any (D:Nat) (S:Dq) (F:Nat→Prop) (who off:Int) (t:ByteArray) (w:World) (h:DocAt w D S F) (hm:t.size≤maxLen):
  Calls Tryz.prog 45 #[.pointer (some ⟨D,0,none⟩),.int .i64 who,.int .i64 off,.string t] w (EdPost w (insE S who off t) (insL S who off t)):=by
 cases hw:Pm.isWho who with
 | false=>exact insert_who D S F who off t w h hw
 | true=>
  obtain⟨h1,h8⟩:=isWho_iff.1 hw
  by_cases ht:textE t=0
  ·by_cases ha:aroundE S.book off=0
   ·obtain⟨a0,a1⟩:=aroundE_zero.1 ha
    obtain⟨o,ho⟩:∃o:Nat,off=o:=⟨off.toNat,by omega⟩
    subst ho
    exact insert_row D S F who o t w h hm h1 h8 ht (by omega)
   ·exact insert_off D S F who off t w h hm h1 h8 ht ha
  ·exact insert_text D S F who off t w h hm h1 h8 ht
end Ue
end Go.Proofs.YtlmdchpbpgcfmaaGreatDoor
/- Package edit: placeAt, Split, Fuse. -/
namespace Go.Proofs.YtlmdchpbpgcfmaaGreatDoor
namespace Uf
open Go.ChangeShapes Go.WideShapes Go.ChangeAt Go.RowKit Cm Ka Kb Na Om Oa Oz Oc Og Oi Hm Ia Ib Ic Idc Ie If Ig Ih Ii Ij Ik Il Im Um Ua Ub Uc Ud Ue
open La (bel bel_drew errV_zero errV_ne own_ge own_grow own_below Lies LeafsIn)
open Lj (BookAt BookNew)
/- a row of one op, just laid -/
theorem ops_one {B:Nat} (w:World) (x:Ox) (v:Value) (hB:B≤w.heap.size) (hv:w.ownsRow B 72 2 v x.2.2.2.2.length (flatD x.2.2.2.2)):
  OpsNew B (w.alloc (.cells #[.int .i64 x.1.1,.int .i64 x.1.2,.int .i64 x.2.1,.string x.2.2.1,.int .i64 x.2.2.2.1,v] 75)) (.slice (some ⟨w.heap.size,0,none⟩) 1 1) [x]:=by
 refine⟨w.heap.size,[(x,v)],rfl,hB,rfl,⟨_,heap_alloc_new w _,rfl,rfl⟩,by simp,fun y hy=> ?_⟩
 rw[List.mem_singleton.1 hy]
 exact own_below hv ((Below.refl _ _).alloc (Nat.le_refl _) _)
end Uf
end Go.Proofs.YtlmdchpbpgcfmaaGreatDoor
/- Package edit: Delete, Fuse. -/
namespace Go.Proofs.YtlmdchpbpgcfmaaGreatDoor
namespace Uq
open Go.ChangeShapes Go.WideShapes Go.ChangeAt Go.RowKit Cm Ka Kb Na Om Oa Oz Oc Og Oi Hm Ia Ib Ic Idc Ie If Ig Ih Ii Ij Ik Il Im Um Ua Ub Uc Ud Ue Uf
open La (bel bel_drew errV_zero errV_ne own_ge own_grow own_below Lies LeafsIn)
open Lj (BookAt BookNew)
def delQ (S:Dq) (a n:Nat):List Ox:=(List.range n).map fun k=>((0,0),2,(seenP S.book).getD (a+k) ⟨#[]⟩,0,[])
theorem delQ_len (S:Dq) (a n:Nat):(delQ S a n).length=n:=by unfold delQ;simp
theorem delQ_at {S:Dq} {a n k:Nat} (hk:k<n):(delQ S a n).getD k oz=((0,0),2,(seenP S.book).getD (a+k) ⟨#[]⟩,0,[]):=by
 unfold delQ
 rw[List.getD_eq_getElem?_getD,List.getElem?_map,List.getElem?_range hk];rfl
theorem delP_at {S:Dq} {a n k:Nat} (hk:k<n):(delP S a ((a+n:Nat):Int)).getD k ⟨#[]⟩=(seenP S.book).getD (a+k) ⟨#[]⟩:=by
 unfold delP
 rw[Int.toNat_natCast,Int.toNat_natCast,List.getD_eq_getElem?_getD,List.getD_eq_getElem?_getD,List.getElem?_drop,List.getElem?_take_of_lt (by omega)]
theorem delQ_dot (S:Dq) (who:Int) (a n:Nat):redot who (kn S who) (delQ S a n)=delL S who a ((a+n:Nat):Int):=by
 unfold redot delL
 rw[delQ_len,show(((a+n:Nat):Int)-(a:Int)).toNat=n by omega]
 refine List.map_congr_left fun k hk=> ?_
 rw[delQ_at (List.mem_range.1 hk)]
 unfold delO
 rw[delP_at (List.mem_range.1 hk)]
theorem delete_who (D:Nat) (S:Dq) (F:Nat→Prop) (who a b:Int) (w:World) (hw:Pm.isWho who=false):
  Calls Tryz.prog 77 #[.pointer (some ⟨D,0,none⟩),.int .i64 who,.int .i64 a,.int .i64 b] w (EdPost w (delE S who a b) (delL S who a b)):=by
 have HE:Hid (delE S who a b=1):=by unfold Hid delE;rw[if_pos hw]
 have C:=fun w=>who_no who w (isWho_no.1 hw)
 clear hw
 go_enter Tryz.func77,Tryz.ntmps77
 go_wp2_with fail
 refine(C _).mono ?_
 rintro e w2 ⟨rfl,hw⟩
 have hw2:=hw.symm
 subst hw2
 clear hw C
 go_wp2_with fail
 go_ret2
 exact EdPost.no HE.out (by decide) (Below.refl _ _)
theorem delete_off (D:Nat) (S:Dq) (F:Nat→Prop) (who a b:Int) (w:World) (h:DocAt w D S F) (hw1:1≤who) (hw8:who≤8) (ho:a<0∨b<a∨((seenP S.book).length:Int)<b):
  Calls Tryz.prog 77 #[.pointer (some ⟨D,0,none⟩),.int .i64 who,.int .i64 a,.int .i64 b] w (EdPost w (delE S who a b) (delL S who a b)):=by
 have HE:Hid (delE S who a b=1):=by unfold Hid delE;rw[isWho_iff.2 ⟨hw1,hw8⟩,if_neg (by simp),if_pos ho]
 have C:=fun w=>who_ok who w hw1 hw8
 have CB:=book_get D S F w h
 have h3:=few_book h.inv
 have H3:=z9 h3
 obtain⟨m,hm⟩:∃m,m=(seenP S.book).length:=⟨_,rfl⟩
 rw[←hm] at ho
 have HM:=z9 hm
 have ho2:a<0∨(¬a<0∧b<a)∨(¬a<0∧¬b<a∧(m:Int)<b):=by omega
 clear h hw1 hw8 hm h3 ho
 rcases ho2 with h1 | ⟨h1,h2⟩ | ⟨h1,h2,h3⟩
 all_goals
  go_enter Tryz.func77,Tryz.ntmps77
  go_wp2_with fail
  refine(C _).mono ?_
  rintro e w2 ⟨rfl,hw⟩
  have hw2:=hw.symm
  subst hw2
  clear hw C
  go_wp2_with fail
  refine CB.mono ?_
  rintro e w3 ⟨vb,rfl,hk3,hb3⟩
  have CP:=places_any vb S.book w3 hk3.1 (by have:=H3.out;omega)
  have HB3:=z9 hb3
  clear CB hk3 hb3
  go_wp2_with fail
  refine CP.mono ?_
  rintro e w4 ⟨v1,rfl,ht1,hb4⟩
  obtain⟨p1,c1,rfl,hmx⟩:=ht1.shape
  rw[←HM.out] at hmx ⊢
  have HB4:=z9 (bel HB3.out hb4)
  clear ht1 hb4 CP
  go_wp2_with fail
  go_ret2
  exact EdPost.no HE.out (by decide) HB4.out
theorem delete_row (D:Nat) (S:Dq) (F:Nat→Prop) (who:Int) (a n:Nat) (w:World) (h:DocAt w D S F) (hw1:1≤who) (hw8:who≤8) (ho:a+n≤(seenP S.book).length):
  Calls Tryz.prog 77 #[.pointer (some ⟨D,0,none⟩),.int .i64 who,.int .i64 (a:Int),.int .i64 ((a:Int)+n)] w (EdPost w 0 (delL S who a ((a+n:Nat):Int))):=by
 have C:=fun w=>who_ok who w hw1 hw8
 have CB:=book_get D S F w h
 have HD:=z9 h
 have h3:=few_book h.inv
 have h4:=seenP_le S.book
 have H3:=z9 h3
 obtain⟨m,hm⟩:∃m,m=(seenP S.book).length:=⟨_,rfl⟩
 have HM:=z9 hm
 have hm3:m≤300:=by omega
 have hanm:a+n≤m:=by omega
 have q1:¬(a:Int)<0:=by omega
 have q2:¬((a:Int)+n)<a:=by omega
 have q3:¬(m:Int)<(a:Int)+n:=by omega
 have q4:(0:Int)≤(a:Int):=by omega
 have q5:(a:Int)≤(a:Int)+n:=by omega
 have q6:(a:Int)+n≤m:=by omega
 have HW:Hid (1≤who∧who≤8):=⟨hw1,hw8⟩
 have HDQ:=z9 (delQ_dot S who a n)
 obtain⟨i0,hi,hz0,hz1,hz2⟩:=info_parts Ii.infoO
 have HNN:Hid ((a:Int)+n-a=n):=by unfold Hid;omega
 clear h hw1 hw8 hm h3 h4 ho
 go_enter Tryz.func77,Tryz.ntmps77
 go_wp2_with fail
 refine(C _).mono ?_
 rintro e w2 ⟨rfl,hw⟩
 have hw2:=hw.symm
 subst hw2
 clear hw C
 go_wp2_with fail
 refine CB.mono ?_
 rintro e w3 ⟨vb,rfl,hk3,hb3⟩
 have CP:=places_any vb S.book w3 hk3.1 (by have:=H3.out;omega)
 have HB3:=z9 hb3
 clear CB hk3 hb3
 go_wp2_with fail
 refine CP.mono ?_
 rintro e w4 ⟨v1,rfl,ht1,hb4⟩
 have HB4:=z9 (bel HB3.out hb4)
 obtain⟨p1,c1,hv1,hmc,hmx,HP⟩:∃p c,v1=.slice p m c∧m≤c∧c≤maxLen∧Hid ((p=none∧m=0∧c=0)∨∃g,p=some ⟨g,0,none⟩∧∀j,j<m→w4.cell? ⟨g,j,none⟩=some (.string ((seenP S.book).getD j ⟨#[]⟩))):=by
  have hr:=ht1.row
  rcases ht1.2 with⟨e,e0⟩ | ⟨g,cap,cur,rfl,h1,h2,h3,h4,_⟩
  ·exact⟨none,0,by rw[e,HM.out,e0],by rw[HM.out,e0];exact Nat.le_refl _,by unfold maxLen;omega,Or.inl ⟨rfl,by rw[HM.out,e0],rfl⟩⟩
  ·refine⟨some ⟨g,0,none⟩,cap,by rw[HM.out],by rw[HM.out];exact h3,h4,Or.inr ⟨g,rfl,fun j hj=> ?_⟩⟩
   rw[HM.out] at hj
   have:=hr.cells (g:=g) rfl j (.string ((seenP S.book).getD j ⟨#[]⟩)) (by rw[List.getElem?_map,List.getElem?_eq_getElem hj,List.getD_eq_getElem?_getD,List.getElem?_eq_getElem hj];rfl)
   rw[Addr.add_lit,Nat.zero_add] at this
   exact this
 subst hv1
 clear ht1 hb4 CP
 have q7:(m:Int)≤c1:=by omega
 have q8:(a:Int)+n≤c1:=by omega
 have hsl:(0≤(a:Int)∧(a:Int)≤(a:Int)+n)∧(a:Int)+n≤(m:Int):=⟨⟨by omega,by omega⟩,by omega⟩
 by_cases hn0:n=0
 ·have H0:=z9 hn0
  clear hn0
  rcases HP.out with⟨rfl,e2,e3⟩ | ⟨g,rfl,hcs⟩
  ·clear HP e2 e3
   go_wp2_with (at_make;refine wpList_make_full _ rfl (.tmp 39) (.tmp 39) 55 rfl w.heap.size 75 i0 (.agg #[.int .i64 0,.int .i64 0,.int .i64 0,.string ⟨#[]⟩,.int .i64 0,.slice none 0 0]) 6 Tryz.underlying55 hi hz0 hz1 .i64 .i64 ((a:Int)+n-a) ((a:Int)+n-a) n rfl rfl HNN.out HNN.out (by rw[hz2];omega) (by unfold maxLen;omega) HB4.out.size ?_;intro w5 hown hgrow;have HST0:Hid (OpsSt w n (delQ S a n) w4.heap.size 0 w5 []):=⟨grown_below hgrow HB4.out,row_new hown,rfl,fun y hy=>(by cases hy)⟩;clear hown hgrow)
   all_goals
    go_loopw [46] (fun vi wr=>∃(k:Nat) (L:List (Ox × Value)),k≤n∧vi=.int .i64 k∧Hid (OpsSt w n (delQ S a n) w4.heap.size k wr L)) (fun vi _=>n-(intOf vi).toNat)
    case atStart=>exact⟨0,[],by omega,rfl,HST0⟩
    case round=>
     clear HST0
     obtain⟨k,L,hk,rfl,HST⟩:=hrel
     obtain rfl:n=k:=by have:=H0.out;omega
     have hltz:¬(n:Int)<n:=by omega
     have hq:OpsNew w.heap.size wr (.slice (some ⟨w4.heap.size,0,none⟩) n n) (delQ S a n):=by
      refine⟨w4.heap.size,L,by rw[delQ_len],HB4.out.size, ?_,by rw[delQ_len];exact HST.out.row,by rw[delQ_len];omega,HST.out.own⟩
      rw[HST.out.ls,List.take_of_length_le (by rw[delQ_len];exact Nat.le_refl _)]
     have CD:=dots_any D S F who w.heap.size (delQ S a n) (.slice (some ⟨w4.heap.size,0,none⟩) n n) wr (HD.out.below HST.out.bl) HW.out.1 HW.out.2 hq HST.out.bl.size (by rw[delQ_len];omega)
     rw[HDQ.out] at CD
     clear hq
     go_wp2_with fail
     refine CD.mono ?_
     rintro e w6 ⟨rfl,ho6,hb6⟩
     have HO6:=z9 ho6
     have HB6:=z9 (HST.out.bl.trans hb6)
     clear CD ho6 hb6
     go_wp2_with fail
     go_ret2
     exact⟨_,rfl,fun _=>HO6.out,fun e=>absurd rfl e,HB6.out⟩
  ·clear HP hcs
   go_wp2_with (at_make;refine wpList_make_full _ rfl (.tmp 39) (.tmp 39) 55 rfl w.heap.size 75 i0 (.agg #[.int .i64 0,.int .i64 0,.int .i64 0,.string ⟨#[]⟩,.int .i64 0,.slice none 0 0]) 6 Tryz.underlying55 hi hz0 hz1 .i64 .i64 ((a:Int)+n-a) ((a:Int)+n-a) n rfl rfl HNN.out HNN.out (by rw[hz2];omega) (by unfold maxLen;omega) HB4.out.size ?_;intro w5 hown hgrow;have HST0:Hid (OpsSt w n (delQ S a n) w4.heap.size 0 w5 []):=⟨grown_below hgrow HB4.out,row_new hown,rfl,fun y hy=>(by cases hy)⟩;clear hown hgrow)
   all_goals
    go_loopw [46] (fun vi wr=>∃(k:Nat) (L:List (Ox × Value)),k≤n∧vi=.int .i64 k∧Hid (OpsSt w n (delQ S a n) w4.heap.size k wr L)) (fun vi _=>n-(intOf vi).toNat)
    case atStart=>exact⟨0,[],by omega,rfl,HST0⟩
    case round=>
     clear HST0
     obtain⟨k,L,hk,rfl,HST⟩:=hrel
     obtain rfl:n=k:=by have:=H0.out;omega
     have hltz:¬(n:Int)<n:=by omega
     have hq:OpsNew w.heap.size wr (.slice (some ⟨w4.heap.size,0,none⟩) n n) (delQ S a n):=by
      refine⟨w4.heap.size,L,by rw[delQ_len],HB4.out.size, ?_,by rw[delQ_len];exact HST.out.row,by rw[delQ_len];omega,HST.out.own⟩
      rw[HST.out.ls,List.take_of_length_le (by rw[delQ_len];exact Nat.le_refl _)]
     have CD:=dots_any D S F who w.heap.size (delQ S a n) (.slice (some ⟨w4.heap.size,0,none⟩) n n) wr (HD.out.below HST.out.bl) HW.out.1 HW.out.2 hq HST.out.bl.size (by rw[delQ_len];omega)
     rw[HDQ.out] at CD
     clear hq
     go_wp2_with fail
     refine CD.mono ?_
     rintro e w6 ⟨rfl,ho6,hb6⟩
     have HO6:=z9 ho6
     have HB6:=z9 (HST.out.bl.trans hb6)
     clear CD ho6 hb6
     go_wp2_with fail
     go_ret2
     exact⟨_,rfl,fun _=>HO6.out,fun e=>absurd rfl e,HB6.out⟩
 ·have hcne:¬c1=a:=by omega
  rcases HP.out with⟨rfl,e2,e3⟩ | ⟨g,rfl,hcs⟩
  ·omega
  ·have HCS:=z9 hcs
   clear HP hcs
   go_wp2_with (at_make;refine wpList_make_full _ rfl (.tmp 39) (.tmp 39) 55 rfl w.heap.size 75 i0 (.agg #[.int .i64 0,.int .i64 0,.int .i64 0,.string ⟨#[]⟩,.int .i64 0,.slice none 0 0]) 6 Tryz.underlying55 hi hz0 hz1 .i64 .i64 ((a:Int)+n-a) ((a:Int)+n-a) n rfl rfl HNN.out HNN.out (by rw[hz2];omega) (by unfold maxLen;omega) HB4.out.size ?_;intro w5 hown hgrow;have HST0:Hid (OpsSt w n (delQ S a n) w4.heap.size 0 w5 []):=⟨grown_below hgrow HB4.out,row_new hown,rfl,fun y hy=>(by cases hy)⟩;have HC5:Hid (∀j,j<m→w5.cell? ⟨g,j,none⟩=some (.string ((seenP S.book).getD j ⟨#[]⟩))):=(fun j hj=>keep_cell (grown_below (w:=w4) hgrow (Below.refl _ _)) (HCS.out j hj));clear hown hgrow)
   go_loopw [46] (fun vi wr=>∃(k:Nat) (L:List (Ox × Value)),k≤n∧vi=.int .i64 k∧Hid (OpsSt w n (delQ S a n) w4.heap.size k wr L)∧Hid (∀j,j<m→wr.cell? ⟨g,j,none⟩=some (.string ((seenP S.book).getD j ⟨#[]⟩)))) (fun vi _=>n-(intOf vi).toNat)
   case atStart=>exact⟨0,[],by omega,rfl,HST0,HC5⟩
   case round=>
    clear HST0 HC5
    obtain⟨k,L,hk,rfl,HST,HCW⟩:=hrel
    by_cases hlt:k<n
    ·have hltz:(k:Int)<n:=by omega
     have hc0:=HCW.out (a+k) (by omega)
     obtain⟨p,hp⟩:∃p,p=(seenP S.book).getD (a+k) ⟨#[]⟩:=⟨_,rfl⟩
     rw[←hp] at hc0
     have HX:Hid ((((0,0),2,p,0,[]):Ox)=(delQ S a n).getD k oz):=by unfold Hid;rw[delQ_at hlt,hp]
     have hgl:g≠w4.heap.size:=by
      have:=World.block_lt_of_cell? _ _ (HCS.out (a+k) (by omega))
      simp only at this
      omega
     have HC6:Hid (∀j,j<m→(w6s wr w4.heap.size (k*6) ((0,0),2,p,0,[]) (.slice none 0 0)).cell? ⟨g,j,none⟩=some (.string ((seenP S.book).getD j ⟨#[]⟩))):=fun j hj=>(cell_stay (w6s_block _ _ _ _ _ _ hgl)).trans (HCW.out j hj)
     obtain⟨⟨y0,z0⟩,g0⟩:=HST.out.row.cell6 hlt 0 (by omega)
     obtain⟨⟨y1,z1⟩,g1⟩:=HST.out.row.cell6 hlt 1 (by omega)
     obtain⟨⟨y2,z2⟩,g2⟩:=HST.out.row.cell6 hlt 2 (by omega)
     obtain⟨⟨y3,z3⟩,g3⟩:=HST.out.row.cell6 hlt 3 (by omega)
     obtain⟨⟨y4,z4⟩,g4⟩:=HST.out.row.cell6 hlt 4 (by omega)
     obtain⟨⟨y5,z5⟩,g5⟩:=HST.out.row.cell6 hlt 5 (by omega)
     rw[Nat.add_zero] at z0 g0
     have HP2:Hid (OpsSt w n (delQ S a n) w4.heap.size (k+1) (w6s wr w4.heap.size (k*6) ((0,0),2,p,0,[]) (.slice none 0 0)) (L++[(((0,0),2,p,0,[]),.slice none 0 0)])):=HST.out.put HB4.out.size (by rw[delQ_len]) hlt HX.out (World.ownsRow_nil _ _ _ _)
     clear hp hgl
     go_wp2_with fail
     go_roundw
     case rel=>exact⟨k+1,_,by omega,by go_num,HP2,HC6⟩
     case measure=>simp[intOf];omega
    ·obtain rfl:n=k:=by omega
     have hltz:¬(n:Int)<n:=by omega
     have hq:OpsNew w.heap.size wr (.slice (some ⟨w4.heap.size,0,none⟩) n n) (delQ S a n):=by
      refine⟨w4.heap.size,L,by rw[delQ_len],HB4.out.size, ?_,by rw[delQ_len];exact HST.out.row,by rw[delQ_len];omega,HST.out.own⟩
      rw[HST.out.ls,List.take_of_length_le (by rw[delQ_len];exact Nat.le_refl _)]
     have CD:=dots_any D S F who w.heap.size (delQ S a n) (.slice (some ⟨w4.heap.size,0,none⟩) n n) wr (HD.out.below HST.out.bl) HW.out.1 HW.out.2 hq HST.out.bl.size (by rw[delQ_len];omega)
     rw[HDQ.out] at CD
     clear hq
     go_wp2_with fail
     refine CD.mono ?_
     rintro e w6 ⟨rfl,ho6,hb6⟩
     have HO6:=z9 ho6
     have HB6:=z9 (HST.out.bl.trans hb6)
     clear CD ho6 hb6
     go_wp2_with fail
     go_ret2
     exact⟨_,rfl,fun _=>HO6.out,fun e=>absurd rfl e,HB6.out⟩
theorem delete_any (D:Nat) (S:Dq) (F:Nat→Prop) (who a b:Int) (w:World) (h:DocAt w D S F):
  Calls Tryz.prog 77 #[.pointer (some ⟨D,0,none⟩),.int .i64 who,.int .i64 a,.int .i64 b] w (EdPost w (delE S who a b) (delL S who a b)):=by
 cases hw:Pm.isWho who with
 | false=>exact delete_who D S F who a b w hw
 | true=>
  obtain⟨h1,h8⟩:=isWho_iff.1 hw
  by_cases ho:a<0∨b<a∨((seenP S.book).length:Int)<b
  ·exact delete_off D S F who a b w h h1 h8 ho
  ·have e0:delE S who a b=0:=by unfold delE;rw[hw,if_neg (by simp),if_neg ho]
   obtain⟨x,hx⟩:∃x:Nat,a=x:=⟨a.toNat,by omega⟩
   obtain⟨n,hn⟩:∃n:Nat,b=((x+n:Nat):Int):=⟨(b-a).toNat,by omega⟩
   subst hx hn
   rw[e0]
   have:=delete_row D S F who x n w h h1 h8 (by omega)
   rw[show((x:Int)+(n:Int))=((x+n:Nat):Int) by omega] at this
   exact this
end Uq
end Go.Proofs.YtlmdchpbpgcfmaaGreatDoor
/- Package edit: Fuse. -/
namespace Go.Proofs.YtlmdchpbpgcfmaaGreatDoor
namespace Ur
open Go.ChangeShapes Go.WideShapes Go.ChangeAt Go.RowKit Cm Ka Kb Na Om Oa Oz Oc Og Oi Hm Ia Ib Ic Idc Ie If Ig Ih Ii Ij Ik Il Im Um Ua Ub Uc Ud Ue Uf
open La (bel bel_drew errV_zero errV_ne own_ge own_grow own_below Lies LeafsIn)
open Lj (BookAt BookNew)
theorem mark_place {m:Mk} (h:markE m=0):Pm.chk m.1.toList=0:=by
 unfold markE at h
 by_cases e:Pm.chk m.1.toList=0
 ·exact e
 ·rw[if_pos e] at h;exact h
end Ur
end Go.Proofs.YtlmdchpbpgcfmaaGreatDoor
