import Derived.Test.YtlmdchpbpgcfmaaGreatDoorU3
import Derived.Test.YtlmdchpbpgcfmaaGreatDoorXs
set_option linter.unusedSimpArgs false
set_option linter.unusedVariables false
set_option maxRecDepth 100000
set_option maxHeartbeats 8000000
/- The reference's Insert; Maker.delete, Delete. -/
namespace Go.Proofs.YtlmdchpbpgcfmaaGreatDoor
namespace Uvp
open Go.ChangeShapes Go.WideShapes Go.ChangeAt Go.RowKit Cm Ka Kb Na Om Oa Oz Oc Og Oi Hm Ia Ib Ic Idc Ie If Ig Ih Ii Ij Ik Il Im Um Ua Ub Uc Ud Ue Uf Iq Aa Ac Xp Usp Utp Uup
open La (bel bel_drew errV_zero errV_ne own_ge own_grow own_below Lies LeafsIn)
open Lj (BookAt BookNew)
open Xt (Parts)
theorem insert_all (t:ByteArray) (M:Nat) (off:Int) (v:Value) (B:Nat) (who n:Int) (l:List Bm.Leaf) (w:World) (hm:t.size≤maxLen) (h:MkAt B w M who n (.slice none 0 0) []) (hbk:∀W,Below B w W→BookAt W v l) (hb0:Bm.bookE l=0) (h1:1≤who) (h8:who≤8) (hB:B≤w.heap.size) (hn0:0≤n) (hn1:n≤400):
  Calls Tryz.prog 118 #[.pointer (some ⟨M,0,none⟩),v,.int .i64 off,.string t] w (MkPost B w M who (insK l who off t) (insLs (leftP l off.toNat) (rightP l off.toNat) who n t t.size)):=by
 by_cases ht:textE t=0
 ·obtain⟨q,c,e,hin,_⟩:=hbk w (Below.refl _ _)
  subst e
  by_cases hl:l=[]
  ·exact insert_none t M off q l.length c B who n l w h ht hbk hb0 h1 h8 hB hn0 hn1 (by rw[hl];rfl)
  ·obtain⟨b,o,rfl,_⟩:=hin.some hl
   exact insert_some t M off b o l.length c B who n l w h ht hbk hb0 h1 h8 hB hn0 hn1
 ·refine(text_loop t M off v B who n l w hm h ht).mono ?_
  rintro e w' ⟨e1,⟨n',v',L',h2,h3⟩,h4⟩
  exact⟨e1,⟨n',v',L',h2,fun e9=>absurd e9 (by unfold insK;rw[if_pos ht];exact ht)⟩,h4⟩
theorem insK_eq {S:Dq} {who off:Int} {t:ByteArray} (h1:1≤who) (h8:who≤8):insE S who off t=insK S.book who off t:=by
 unfold insE insK;rw[isWho_iff.2 ⟨h1,h8⟩,if_neg (by simp)]
theorem insLs_eq (S:Dq) (who off:Int) (t:ByteArray):insLs (leftP S.book off.toNat) (rightP S.book off.toNat) who (kn S who) t t.size=insL S who off t:=rfl
theorem RfPost.no {w w':World} {k:Int} {L:List Ox} (hk:k≠0) (hb:Below w.heap.size w w'):RfPost w k L (.returned (.tuple #[.slice none 0 0,.int .i64 k])) w':=⟨_,rfl,fun e=>absurd e hk,fun _=>rfl,hb⟩
theorem insert_ref (B:Nat→Prop) (E:Nat) (S:Dq) (F:Nat→Prop) (who off:Int) (t:ByteArray) (w:World) (h:RefAt B w E S F) (hm:t.size≤maxLen):
  Calls Tryz.prog 74 #[.pointer (some ⟨E,0,none⟩),.int .i64 who,.int .i64 off,.string t] w (RfPost w (insE S who off t) (insL S who off t)):=by
 cases hw:Pm.isWho who with
 | false=>
  have HE:Hid (insE S who off t=1):=by unfold Hid insE;rw[if_pos hw]
  have C:=maker_no E who w (isWho_no.1 hw)
  clear h hw
  go_enter Tryz.func74,Tryz.ntmps74
  go_wp2_with fail
  refine C.mono ?_
  rintro e w2 ⟨rfl,hw⟩
  have hw2:=hw.symm
  subst hw2
  clear hw C
  go_wp2_with fail
  go_ret2
  rw[HE.out]
  exact RfPost.no (by decide) (Below.refl _ _)
 | true=>
  obtain⟨h1,h8⟩:=isWho_iff.1 hw
  obtain⟨pb,nb,cb,pm,nm,cm,gk,po,no,co,hp⟩:=Xt.RefAt.parts h
  have C:=maker_ok B E S F who w h h1 h8
  obtain⟨k0,k1⟩:=kn_le h.inv h1 h8
  have hf:=h.inv.few
  have HP:=z9 hp
  have CI:Hid (∀W,Below w.heap.size w W→MkAt w.heap.size W w.heap.size who (kn S who) (.slice none 0 0) []→Calls Tryz.prog 118 #[.pointer (some ⟨w.heap.size,0,none⟩),.slice pb nb cb,.int .i64 off,.string t] W (MkPost w.heap.size W w.heap.size who (insE S who off t) (insL S who off t))):=fun W hb hmk=>by
   rw[insK_eq h1 h8,←insLs_eq]
   exact insert_all t w.heap.size off (.slice pb nb cb) w.heap.size who (kn S who) S.book W hm hmk (fun W2 hb2=>hp.book W2 (hb.trans hb2)) h.inv.book h1 h8 hb.size k0 (by omega)
  obtain⟨k,hk⟩:∃k,k=insE S who off t:=⟨_,rfl⟩
  rw[←hk] at CI ⊢
  clear h hw hp h1 h8 k0 k1 hf hk hm
  go_enter Tryz.func74,Tryz.ntmps74
  go_wp2_with fail
  refine C.mono ?_
  rintro e w2 ⟨rfl,hmk2,hb2⟩
  have HB2:=z9 hb2
  have CI2:=CI.out w2 hb2 hmk2
  have c0:=HP.out.c0 w2 hb2
  clear C hmk2 hb2 CI
  go_wp2_with fail
  refine CI2.mono ?_
  rintro e w3 ⟨rfl,⟨n3,v3,L3,hm3,hl3⟩,hb3⟩
  have HB3:=z9 (HB2.out.trans hb3)
  by_cases hk0:k=0
  ·subst hk0
   have CT:=told_ok w.heap.size w.heap.size who n3 v3 L3 w3 hm3
   have HO3:Hid (OpsJ (New w.heap.size w3) (New w.heap.size w3) w3 v3 (insL S who off t)):=by unfold Hid;rw[←hl3 rfl];exact hm3.opsJ
   obtain⟨p3,m3,c3,rfl,_⟩:=own_shape hm3.row
   clear CI2 hm3 hl3 hb3 c0
   go_wp2_with fail
   refine CT.mono ?_
   rintro e w4 ⟨rfl,hw⟩
   have hw2:=hw.symm
   subst hw2
   clear hw CT
   go_wp2_with fail
   go_ret2
   exact⟨_,rfl,fun _=>HO3.out,fun e=>absurd rfl e,HB3.out⟩
  ·have CT:=told_no w.heap.size k w3 hk0
   have HK0:=z9 hk0
   clear CI2 hm3 hl3 hb3 c0 hk0
   go_wp2_with fail
   refine CT.mono ?_
   rintro e w4 ⟨rfl,hw⟩
   have hw2:=hw.symm
   subst hw2
   clear hw CT
   go_wp2_with fail
   go_ret2
   exact RfPost.no HK0.out HB3.out
/- delete -/
def delLs (S:Dq) (who n:Int) (a k:Nat):List Ox:=(List.range k).map fun (j:Nat)=>((who,n+1+(j:Int)),2,(seenP S.book).getD (a+j) ⟨#[]⟩,0,[])
theorem delLs_next (S:Dq) (who n:Int) (a k:Nat):delLs S who n a (k+1)=delLs S who n a k++[((who,n+1+(k:Int)),2,(seenP S.book).getD (a+k) ⟨#[]⟩,0,[])]:=by
 unfold delLs;rw[List.range_succ,List.map_append];rfl
theorem delLs_eq (S:Dq) (who:Int) (a n:Nat):delLs S who (kn S who) a n=delL S who a ((a+n:Nat):Int):=by
 unfold delLs delL delO
 rw[show(((a+n:Nat):Int)-(a:Int)).toNat=n by omega]
 refine List.map_congr_left fun k hk=> ?_
 rw[Uq.delP_at (List.mem_range.1 hk)]
def delK (l:List Bm.Leaf) (a b:Int):Int:=if a<0∨b<a∨((seenP l).length:Int)<b then 1 else 0
theorem delK_eq {S:Dq} {who a b:Int} (h1:1≤who) (h8:who≤8):delE S who a b=delK S.book a b:=by
 unfold delE delK;rw[isWho_iff.2 ⟨h1,h8⟩,if_neg (by simp)]
theorem delete_no (M:Nat) (a b:Int) (q:Option Addr) (m c:Nat) (B:Nat) (who n:Int) (l:List Bm.Leaf) (X:List Ox) (w:World) (h:MkAt B w M who n (.slice none 0 0) []) (hbk:∀W,Below B w W→BookAt W (.slice q m c) l) (hb0:Bm.bookE l=0) (hB:B≤w.heap.size) (ho:a<0∨b<a∨((seenP l).length:Int)<b):
  Calls Tryz.prog 117 #[.pointer (some ⟨M,0,none⟩),.slice q m c,.int .i64 a,.int .i64 b] w (MkPost B w M who (delK l a b) X):=by
 have HMK:=z9 h
 have HE:Hid (delK l a b=1):=by unfold Hid delK;rw[if_pos ho]
 obtain⟨p9,c9,e9,hin,_⟩:=hbk w (Below.refl _ _)
 injection e9 with e1 e2 e3
 have hl3:=(Bm.bookE_zero.1 hb0).1
 have CT:=Mb.text_ref q m c l w e2.symm (by rw[e1];exact hin) (Lf.book_ok hb0).2.2 (by omega)
 have HSL:=z9 (text_len l)
 have hsl3:(seenP l).length≤300:=by have:=seenP_le l;omega
 obtain⟨tl,htl⟩:∃tl:ByteArray,tl=⟨(Bm.text l).toArray⟩:=⟨_,rfl⟩
 rw[←htl] at CT HSL
 have htl3:tl.size≤300:=by have:=HSL.out;omega
 have hor:a<0∨(¬a<0∧b<a)∨(¬a<0∧¬b<a∧(tl.size:Int)<b):=by have:=HSL.out;omega
 have HBW:=z9 hB
 clear h hbk hb0 hB ho hin hl3 hsl3 htl e1 e2 e3
 rcases hor with h1 | ⟨h1,h2⟩ | ⟨h1,h2,h3⟩
 ·go_enter Tryz.func117,Tryz.ntmps117
  go_wp2_with fail
  go_ret
  exact⟨by rw[HE.out];rfl,⟨_,_,_,HMK.out,fun e=>absurd e (by rw[HE.out];decide)⟩,Below.refl _ _⟩
 ·go_enter Tryz.func117,Tryz.ntmps117
  go_wp2_with fail
  go_ret
  exact⟨by rw[HE.out];rfl,⟨_,_,_,HMK.out,fun e=>absurd e (by rw[HE.out];decide)⟩,Below.refl _ _⟩
 ·go_enter Tryz.func117,Tryz.ntmps117
  go_wp2_with fail
  refine CT.mono ?_
  rintro e w2 ⟨rfl,hb2⟩
  have HB2:=z9 (hb2.mono HBW.out)
  have HM2:=z9 (HMK.out.below hb2)
  clear hb2 CT
  go_wp2_with fail
  go_ret
  exact⟨by rw[HE.out];rfl,⟨_,_,_,HM2.out,fun e=>absurd e (by rw[HE.out];decide)⟩,HB2.out⟩
end Uvp
end Go.Proofs.YtlmdchpbpgcfmaaGreatDoor
/- The reference's Maker.delete where it is right, and Delete. -/
namespace Go.Proofs.YtlmdchpbpgcfmaaGreatDoor
namespace Uwp
open Go.ChangeShapes Go.WideShapes Go.ChangeAt Go.RowKit Cm Ka Kb Na Om Oa Oz Oc Og Oi Hm Ia Ib Ic Idc Ie If Ig Ih Ii Ij Ik Il Im Um Ua Ub Uc Ud Ue Uf Iq Aa Ac Xp Usp Utp Uup Uvp
open La (bel bel_drew errV_zero errV_ne own_ge own_grow own_below Lies LeafsIn)
open Lj (BookAt BookNew)
open Xt (Parts)
theorem delete_zero (M:Nat) (a:Nat) (q:Option Addr) (m c:Nat) (B:Nat) (who n:Int) (l:List Bm.Leaf) (w:World) (h:MkAt B w M who n (.slice none 0 0) []) (hbk:∀W,Below B w W→BookAt W (.slice q m c) l) (hb0:Bm.bookE l=0) (hB:B≤w.heap.size) (ho:a≤(seenP l).length):
  Calls Tryz.prog 117 #[.pointer (some ⟨M,0,none⟩),.slice q m c,.int .i64 (a:Int),.int .i64 (a:Int)] w (MkPost B w M who 0 []):=by
 have HMK:=z9 h
 obtain⟨p9,c9,e9,hin,_⟩:=hbk w (Below.refl _ _)
 injection e9 with e1 e2 e3
 have hl3:=(Bm.bookE_zero.1 hb0).1
 have CT:=Mb.text_ref q m c l w e2.symm (by rw[e1];exact hin) (Lf.book_ok hb0).2.2 (by omega)
 have HSL:=z9 (text_len l)
 have hsl3:(seenP l).length≤300:=by have:=seenP_le l;omega
 obtain⟨tl,htl⟩:∃tl:ByteArray,tl=⟨(Bm.text l).toArray⟩:=⟨_,rfl⟩
 rw[←htl] at CT HSL
 have htl3:tl.size≤300:=by have:=HSL.out;omega
 have q1:¬(a:Int)<0:=by omega
 have q2:¬(a:Int)<a:=by omega
 have q3:¬(tl.size:Int)<a:=by have:=HSL.out;omega
 have HBW:=z9 hB
 clear h hbk hb0 hB ho hin hl3 hsl3 htl e1 e2 e3
 go_enter Tryz.func117,Tryz.ntmps117
 go_wp2_with fail
 refine CT.mono ?_
 rintro e w2 ⟨rfl,hb2⟩
 have HB2:=z9 (hb2.mono HBW.out)
 have HM2:=z9 (HMK.out.below hb2)
 clear hb2 CT
 go_wp2_with fail
 go_loopw [9] (fun vi wr=>vi=.int .i64 a∧Hid (wr=w2)) (fun _ _=>0)
 case atStart=>exact⟨rfl,rfl⟩
 case round=>
  obtain⟨rfl,HW⟩:=hrel
  go_wp2_with fail
  go_ret
  rw[HW.out]
  exact⟨rfl,⟨_,_,_,HM2.out,fun _=>rfl⟩,HB2.out⟩
theorem delete_rows (S:Dq) (M:Nat) (a N:Nat) (b0 oo0:Nat) (m c:Nat) (B:Nat) (who n:Int) (w:World) (h:MkAt B w M who n (.slice none 0 0) []) (hbk:∀W,Below B w W→BookAt W (.slice (some ⟨b0,oo0,none⟩) m c) S.book) (hb0:Bm.bookE S.book=0) (hB:B≤w.heap.size) (ho:a+N≤(seenP S.book).length) (hn0:0≤n) (hn1:n≤400):
  Calls Tryz.prog 117 #[.pointer (some ⟨M,0,none⟩),.slice (some ⟨b0,oo0,none⟩) m c,.int .i64 (a:Int),.int .i64 ((a:Int)+N)] w (MkPost B w M who 0 (delLs S who n a N)):=by
 have HMK:=z9 h
 have HBK:Hid (∀W,Below B w W→LeafsIn W (some ⟨b0,oo0,none⟩) S.book):=fun W hb=>by
  obtain⟨p9,c9,e9,hin,_⟩:=hbk W hb
  injection e9 with e1 e2 e3
  rw[e1];exact hin
 have hml:m=S.book.length:=by
  obtain⟨p9,c9,e9,hin,_⟩:=hbk w (Below.refl _ _)
  injection e9
 have HML:=z9 hml.symm
 have hl3:=(Bm.bookE_zero.1 hb0).1
 have hm3:m≤300:=by omega
 have CT:=Mb.text_ref (some ⟨b0,oo0,none⟩) m c S.book w HML.out (HBK.out w (Below.refl _ _)) (Lf.book_ok hb0).2.2 (by omega)
 have CN:Hid (∀W f,Below B w W→0≤f→Calls Tryz.prog 157 #[.slice (some ⟨b0,oo0,none⟩) m c,.int .i64 f] W fun e w'=>e=.returned (.int .i64 (Bm.nth S.book 0 f))∧Below W.heap.size W w'):=fun W f hb hf=>Mb.nth_ref (some ⟨b0,oo0,none⟩) m c S.book f W HML.out (HBK.out W hb) (by omega) hf
 have HPLACE:Hid (∀W i,Below B w W→i<m→W.cell? ⟨b0,oo0+i*3,none⟩=some (.string (S.book.getD i Bm.none0).1)):=fun W i hb hi=>by
  obtain⟨b,oo,e,hc⟩:=(HBK.out W hb).some (by intro e;have:=HML.out;rw[e] at this;simp at this;omega)
  injection e with e
  injection e with e1 e2
  rw[e1,e2]
  exact(hc i (by rw[HML.out];exact hi)).1
 have HSL:=z9 (text_len S.book)
 have hsl3:(seenP S.book).length≤300:=by have:=seenP_le S.book;omega
 obtain⟨tl,htl⟩:∃tl:ByteArray,tl=⟨(Bm.text S.book).toArray⟩:=⟨_,rfl⟩
 rw[←htl] at CT HSL
 have htl3:tl.size≤300:=by have:=HSL.out;omega
 have q1:¬(a:Int)<0:=by omega
 have q2:¬(a:Int)+N<a:=by omega
 have q3:¬(tl.size:Int)<(a:Int)+N:=by have:=HSL.out;omega
 have haN:a+N≤300:=by omega
 have HO:=z9 ho
 have HBW:=z9 hB
 have HNB:Hid (0≤n∧n≤400):=⟨hn0,hn1⟩
 clear h hbk hb0 hB ho hl3 hsl3 htl hml hn0 hn1
 go_enter Tryz.func117,Tryz.ntmps117
 go_wp2_with fail
 refine CT.mono ?_
 rintro e w2 ⟨rfl,hb2⟩
 have HB2:=z9 (hb2.mono HBW.out)
 have HM2:=z9 (HMK.out.below hb2)
 clear hb2 CT HMK
 go_wp2_with fail
 go_loopw [9] (fun vi wr=>∃(j:Nat) (v:Value) (L:List (Ox × Value)),j≤N∧vi=.int .i64 ((a:Int)+j)∧Hid (MkAt B wr M who (n+j) v L)∧Hid (L.map (·.1)=delLs S who n a j)∧Hid (Below B w wr)) (fun vi _=>a+N-(intOf vi).toNat)
 case atStart=>exact⟨0,.slice none 0 0,[],by omega,by simp,by have h9:=HM2.out;rw[show n+((0:Nat):Int)=n by omega];exact h9,rfl,HB2⟩
 case round=>
  clear HM2 HB2
  obtain⟨j,v,L,hj,rfl,HMj,HLj,HBj⟩:=hrel
  by_cases hjt:j<N
  ·have hjz:(a:Int)+j<(a:Int)+N:=by omega
   obtain⟨i,e1,e2,e3,_⟩:=nth_pos (l:=S.book) (r:=a+j) (by have:=HO.out;omega)
   rw[show((a+j:Nat):Int)=(a:Int)+j by omega] at e1
   have CN2:=CN.out wr ((a:Int)+j) HBj.out (by omega)
   rw[e1] at CN2
   rw[HML.out] at e2
   have hi3:(i:Int)≤300:=by omega
   have himz:(i:Int)<m:=by omega
   obtain⟨p,hp⟩:∃p,p=(seenP S.book).getD (a+j) ⟨#[]⟩:=⟨_,rfl⟩
   rw[←hp] at e3
   have HIP:=z9 e3
   have hLl:L.length=j:=by have h9:=congrArg List.length HLj.out;rw[List.length_map] at h9;rw[h9];unfold delLs;simp
   have HLL:Hid (L.length≤1000):=by unfold Hid;omega
   have HIO:Hid (delLs S who n a (j+1)=delLs S who n a j++[((who,n+j+1),2,p,0,[])]):=by
    unfold Hid;rw[delLs_next,hp,show n+1+(j:Int)=n+j+1 by omega]
   clear e1 e3 hp hLl
   go_wp2_with fail
   refine CN2.mono ?_
   rintro e w3 ⟨rfl,hb3⟩
   have HB3:=z9 (HBj.out.trans (hb3.mono (Nat.le_trans HBW.out HBj.out.size)))
   have hcell:=HPLACE.out w3 i HB3.out e2
   rw[HIP.out] at hcell
   have CA:=add_ref B M who (n+j) v L 2 p 0 (.slice none 0 0) [] w3 (HMj.out.below hb3) (World.ownsRow_nil _ _ _ _) (Nat.le_trans HBW.out HB3.out.size) (by have:=HNB.out.1;omega) (by have:=HNB.out.2;omega) HLL.out
   clear CN2 hb3
   go_wp2_with fail
   refine CA.mono ?_
   rintro e w5 ⟨rfl,v5,hm5,hb5⟩
   have HB5:=z9 (HB3.out.trans hb5)
   have HM5:Hid (MkAt B w5 M who (n+((j+1:Nat):Int)) v5 (L++[(((who,n+j+1),2,p,0,[]),.slice none 0 0)])):=by
    unfold Hid;rw[show n+((j+1:Nat):Int)=n+j+1 by omega];exact hm5
   have HL5:Hid ((L++[(((who,n+j+1),2,p,0,[]),(.slice none 0 0:Value))]:List (Ox × Value)).map (fun y:Ox × Value=>y.1)=delLs S who n a (j+1)):=by
    unfold Hid;rw[List.map_append,HLj.out,HIO.out];rfl
   have hwr:IntKind.i64.wrap ((a:Int)+j+1)=(a:Int)+j+1:=wrap_in (by omega) (by omega)
   clear CA hm5 hb5 hcell
   go_wp2_with fail
   go_roundw
   case rel=>exact⟨j+1,v5,_,by omega,by first | go_num | (congr 1;omega),HM5,HL5,HB5⟩
   case measure=>simp[intOf];omega
  ·have hje:j=N:=by omega
   have hjz:¬(a:Int)+j<(a:Int)+N:=by omega
   have HLE:Hid (L.map (·.1)=delLs S who n a N):=by unfold Hid;rw[←hje];exact HLj.out
   clear hje
   go_wp2_with fail
   go_ret
   exact⟨rfl,⟨_,_,_,HMj.out,fun _=>HLE.out⟩,HBj.out⟩
theorem delete_all (S:Dq) (M:Nat) (a b:Int) (v:Value) (B:Nat) (who n:Int) (w:World) (h:MkAt B w M who n (.slice none 0 0) []) (hbk:∀W,Below B w W→BookAt W v S.book) (hb0:Bm.bookE S.book=0) (hB:B≤w.heap.size) (hn:n=kn S who) (hn0:0≤n) (hn1:n≤400):
  Calls Tryz.prog 117 #[.pointer (some ⟨M,0,none⟩),v,.int .i64 a,.int .i64 b] w (MkPost B w M who (delK S.book a b) (delL S who a b)):=by
 obtain⟨q,c,e,hin,_⟩:=hbk w (Below.refl _ _)
 subst e
 by_cases ho:a<0∨b<a∨((seenP S.book).length:Int)<b
 ·exact delete_no M a b q S.book.length c B who n S.book _ w h hbk hb0 hB ho
 ·have e0:delK S.book a b=0:=by unfold delK;rw[if_neg ho]
  obtain⟨x,hx⟩:∃x:Nat,a=x:=⟨a.toNat,by omega⟩
  obtain⟨N,hN⟩:∃N:Nat,b=((x+N:Nat):Int):=⟨(b-a).toNat,by omega⟩
  subst hx hN
  rw[e0,←delLs_eq,←hn]
  by_cases hN0:N=0
  ·subst hN0
   have:=delete_zero M x q S.book.length c B who n S.book w h hbk hb0 hB (by omega)
   rw[show((x+0:Nat):Int)=(x:Int) by omega]
   exact this
  ·obtain⟨b0,o0,rfl,_⟩:=hin.some (by intro e;have h9:(seenP S.book).length=0:=(by rw[e];rfl);omega)
   have:=delete_rows S M x N b0 o0 S.book.length c B who n w h hbk hb0 hB (by omega) hn0 hn1
   rw[show((x+N:Nat):Int)=(x:Int)+N by omega]
   exact this
theorem delete_ref (B:Nat→Prop) (E:Nat) (S:Dq) (F:Nat→Prop) (who a b:Int) (w:World) (h:RefAt B w E S F):
  Calls Tryz.prog 72 #[.pointer (some ⟨E,0,none⟩),.int .i64 who,.int .i64 a,.int .i64 b] w (RfPost w (delE S who a b) (delL S who a b)):=by
 cases hw:Pm.isWho who with
 | false=>
  have HE:Hid (delE S who a b=1):=by unfold Hid delE;rw[if_pos hw]
  have C:=maker_no E who w (isWho_no.1 hw)
  clear h hw
  go_enter Tryz.func72,Tryz.ntmps72
  go_wp2_with fail
  refine C.mono ?_
  rintro e w2 ⟨rfl,hw⟩
  have hw2:=hw.symm
  subst hw2
  clear hw C
  go_wp2_with fail
  go_ret2
  rw[HE.out]
  exact RfPost.no (by decide) (Below.refl _ _)
 | true=>
  obtain⟨h1,h8⟩:=isWho_iff.1 hw
  obtain⟨pb,nb,cb,pm,nm,cm,gk,po,no,co,hp⟩:=Xt.RefAt.parts h
  have C:=maker_ok B E S F who w h h1 h8
  obtain⟨k0,k1⟩:=kn_le h.inv h1 h8
  have hf:=h.inv.few
  have HP:=z9 hp
  have CI:Hid (∀W,Below w.heap.size w W→MkAt w.heap.size W w.heap.size who (kn S who) (.slice none 0 0) []→Calls Tryz.prog 117 #[.pointer (some ⟨w.heap.size,0,none⟩),.slice pb nb cb,.int .i64 a,.int .i64 b] W (MkPost w.heap.size W w.heap.size who (delE S who a b) (delL S who a b))):=fun W hb hmk=>by
   rw[delK_eq h1 h8]
   exact delete_all S w.heap.size a b (.slice pb nb cb) w.heap.size who (kn S who) W hmk (fun W2 hb2=>hp.book W2 (hb.trans hb2)) h.inv.book hb.size rfl k0 (by omega)
  obtain⟨k,hk⟩:∃k,k=delE S who a b:=⟨_,rfl⟩
  rw[←hk] at CI ⊢
  clear h hw hp h1 h8 k0 k1 hf hk
  go_enter Tryz.func72,Tryz.ntmps72
  go_wp2_with fail
  refine C.mono ?_
  rintro e w2 ⟨rfl,hmk2,hb2⟩
  have HB2:=z9 hb2
  have CI2:=CI.out w2 hb2 hmk2
  have c0:=HP.out.c0 w2 hb2
  clear C hmk2 hb2 CI
  go_wp2_with fail
  refine CI2.mono ?_
  rintro e w3 ⟨rfl,⟨n3,v3,L3,hm3,hl3⟩,hb3⟩
  have HB3:=z9 (HB2.out.trans hb3)
  by_cases hk0:k=0
  ·subst hk0
   have CT:=told_ok w.heap.size w.heap.size who n3 v3 L3 w3 hm3
   have HO3:Hid (OpsJ (New w.heap.size w3) (New w.heap.size w3) w3 v3 (delL S who a b)):=by unfold Hid;rw[←hl3 rfl];exact hm3.opsJ
   obtain⟨p3,m3,c3,rfl,_⟩:=own_shape hm3.row
   clear CI2 hm3 hl3 hb3 c0
   go_wp2_with fail
   refine CT.mono ?_
   rintro e w4 ⟨rfl,hw⟩
   have hw2:=hw.symm
   subst hw2
   clear hw CT
   go_wp2_with fail
   go_ret2
   exact⟨_,rfl,fun _=>HO3.out,fun e=>absurd rfl e,HB3.out⟩
  ·have CT:=told_no w.heap.size k w3 hk0
   have HK0:=z9 hk0
   clear CI2 hm3 hl3 hb3 c0 hk0
   go_wp2_with fail
   refine CT.mono ?_
   rintro e w4 ⟨rfl,hw⟩
   have hw2:=hw.symm
   subst hw2
   clear hw CT
   go_wp2_with fail
   go_ret2
   exact RfPost.no HK0.out HB3.out
end Uwp
end Go.Proofs.YtlmdchpbpgcfmaaGreatDoor
/- The reference's Split, Do. -/
namespace Go.Proofs.YtlmdchpbpgcfmaaGreatDoor
namespace Uxp
open Go.ChangeShapes Go.WideShapes Go.ChangeAt Go.RowKit Cm Ka Kb Na Om Oa Oz Oc Og Oi Hm Ia Ib Ic Idc Ie If Ig Ih Ii Ij Ik Il Im Um Ua Ub Uc Ud Ue Uf Iq Aa Ac Xp Usp Utp Uup Uvp
open La (bel bel_drew errV_zero errV_ne own_ge own_grow own_below Lies LeafsIn)
open Lj (BookAt BookNew)
open Xt (Parts)
/- Do -/
def RdPost (P:Nat→Prop) (w:World) (E:Nat) (S:Dq) (F:Nat→Prop) (L:List Ox) (e:Ending) (w':World):Prop:=
 e=.returned (.int .i64 (runE S L))∧∃F',RefAt P w' E (runS S L) F'∧Chg F w w'∧∀g,F' g→F g∨w.heap.size≤g
theorem do_ref (P:Nat→Prop) (E:Nat) (S:Dq) (F R:Nat→Prop) (v:Value) (L:List Ox) (w:World) (h:RefAt P w E S F) (ho:OpsJ R P w v L) (hR:∀g,R g→g<w.heap.size∧¬F g) (hsz:∀x ∈ L,x.2.2.1.size≤maxLen):
  Calls Tryz.prog 73 #[.pointer (some ⟨E,0,none⟩),v] w (RdPost P w E S F L):=by
 obtain⟨q,c,rfl,hin,hlc,hcm,_⟩:=ho
 obtain⟨n,hn⟩:∃n,n=L.length:=⟨_,rfl⟩
 have hnm:n≤maxLen:=by omega
 have hnz:(n:Int)≤9223372036854775807:=by unfold maxLen at hnm;omega
 rw[←hn]
 have HN:=z9 hn.symm
 have HI:=z9 hin
 have HG:=z9 hR
 have HP:Hid (∀g,P g→g<w.heap.size∧¬F g):=fun g hg=>⟨h.old g hg,fun e=>(h.lt g e).1 hg⟩
 have HSZ:=z9 hsz
 have HD0:=z9 h
 clear h hin hR hsz hn hlc hcm
 go_enter Tryz.func73,Tryz.ntmps73
 go_wp2_with fail
 go_loopw [5] (fun vi wr=>∃(k:Nat) (Fk:Nat→Prop),k≤n∧vi=.int .i64 k∧Hid (RefAt P wr E (runS S (L.take k)) Fk)∧Hid (∀g,Fk g→F g∨w.heap.size≤g)∧Hid (Chg F w wr)∧Hid (runE S (L.take k)=0)) (fun vi _=>n-(intOf vi).toNat)
 case atStart=>exact⟨0,F,by omega,rfl,HD0,fun g hg=>Or.inl hg,Chg.refl _ _,rfl⟩
 case round=>
  clear HD0
  obtain⟨k,Fk,hk,rfl,HDk,HFk,HCk,HEk⟩:=hrel
  by_cases hlt:k<n
  ·have hltz:(k:Int)<n:=by omega
   have hkl:k<L.length:=by rw[HN.out];exact hlt
   obtain⟨bo,oo,rfl,_,hc⟩:=(HI.out.stay (HCk.out.stay HG.out) (HCk.out.stay HP.out)).some (by intro e;rw[e] at hkl;simp at hkl)
   have ha:=hc k hkl
   have hxm:=HSZ.out _ (getO_mem hkl)
   obtain⟨hr1,hr2⟩:=run_go (S:=S) hkl HEk.out
   have hst:=run_stop (S:=S) hkl HEk.out
   obtain⟨x,hx⟩:∃x,x=L.getD k oz:=⟨_,rfl⟩
   rw[←hx] at ha hxm hr1 hr2 hst
   have HR1:=z9 hr1
   have HR2:=z9 hr2
   have HST:=z9 hst
   obtain⟨⟨xa,xb⟩,xt,xp,xc,xs⟩:=x
   obtain⟨vx,⟨a0,a1,a2,a3,a4,a5⟩,hdx,hix⟩:=ha
   simp only at a0 a1 a2 a3 a4 a5 hdx hxm
   obtain⟨pv,nv,cv,rfl⟩:∃pv nv cv,vx=.slice pv nv cv:=by obtain⟨_,_,e9,_⟩:=hdx;exact⟨_,_,_,e9⟩
   obtain⟨Sk,hSk⟩:∃Sk,Sk=runS S (L.take k):=⟨_,rfl⟩
   rw[←hSk] at HR1 HR2 HST HDk
   have C:=Xs.apply_ref P E Sk Fk xa xb xt xp xc (.slice pv nv cv) xs wr HDk.out hdx hix hxm
   clear hc hx hkl hdx hxm hr1 hr2 hst hix hSk
   go_wp2_with fail
   refine C.mono ?_
   rintro e w7 ⟨he,F7,hd7,hc7,hf7⟩
   have HC7:=z9 (HCk.out.next hc7 HFk.out)
   have HF7:Hid (∀g,F7 g→F g∨w.heap.size≤g):=fun g hg=>by
    rcases hf7 g hg with e | e
    ·exact HFk.out g e
    ·exact Or.inr (Nat.le_trans HCk.out.size e)
   obtain⟨bn,hbn⟩:∃bn,bn=isNew Sk ((xa,xb),xt,xp,xc,xs):=⟨_,rfl⟩
   rw[←hbn] at he
   by_cases hz:apE Sk ((xa,xb),xt,xp,xc,xs)=0
   ·rw[hz] at he
    subst he
    have HD7:Hid (RefAt P w7 E (runS S (L.take (k+1))) F7):=by unfold Hid;rw[HR2.out hz];exact hd7
    have HE7:Hid (runE S (L.take (k+1))=0):=by unfold Hid;rw[HR1.out,hz]
    clear hd7 hc7 hf7 hbn hz C a0 a1 a2 a3 a4 a5
    go_wp2_with fail
    go_roundw
    case rel=>exact⟨k+1,F7,by omega,by go_num,HD7,HF7,HC7,HE7⟩
    case measure=>simp[intOf];omega
   ·obtain⟨z1,z2⟩:=HST.out hz
    have HEE:=z9 z1
    have HD7:Hid (RefAt P w7 E (runS S L) F7):=by unfold Hid;rw[stay_wrong hz] at hd7;rw[z2];exact hd7
    have HZ:=z9 hz
    obtain⟨ez,hez⟩:∃ez,ez=apE Sk ((xa,xb),xt,xp,xc,xs):=⟨_,rfl⟩
    rw[←hez] at he HEE HZ
    have hzb:(ez !=0)=true:=by have:=HZ.out;simpa using this
    subst he
    clear hd7 hc7 hf7 hbn hz C a0 a1 a2 a3 a4 a5 z1 z2 hez HR1 HR2 HST
    go_wp2_with fail
    go_ret
    exact⟨by rw[HEE.out];rfl,F7,HD7.out,HC7.out,HF7.out⟩
  ·obtain rfl:n=k:=by omega
   have hltz:¬(n:Int)<n:=by omega
   have htk:Hid (L.take n=L):=by unfold Hid;rw[←HN.out,List.take_length]
   go_wp2_with fail
   go_ret
   rw[htk.out] at HDk HEk
   exact⟨by rw[HEk.out];rfl,Fk,HDk.out,HCk.out,HFk.out⟩
end Uxp
end Go.Proofs.YtlmdchpbpgcfmaaGreatDoor
