import Derived.Test.YtiamefgoeibhhaaGreatDoorY5
import Derived.Test.YtiamefgoeibhhaaGreatDoorS1
import Derived.Test.YtiamefgoeibhhaaGreatDoorQ9
import Derived.Test.YtiamefgoeibhhaaGreatDoorW0
set_option linter.unusedVariables false
set_option maxRecDepth 100000
set_option maxHeartbeats 8000000
namespace Go.Proofs.YtiamefgoeibhhaaGreatDoor
namespace Rx6
open Go.ChangeShapes Go.WideShapes Go.ChangeAt Go.RowKit Cm Ka Om Hm Ia Hc Hd Hl Rz1 Rz4 Rx3 Rx5
open La (bel bel_drew errV_zero errV_ne LeafsIn)
open Na (MksAt)
open Ie (small_book)
open Ur (small_marks)
open Di (Lib3 itoa_any)
open Sf (FillS slcR SlcAt slices_any infoS)
open Sq3 (OwnI wrtR written_any)
theorem joinW_eq (c:UInt8):∀l:List Tx,joinW c l=Lib.join l [c]
 | []=>rfl
 | [x]=>by rw[Lib.join_one];rfl
 | x::y::r=>by
  rw[joinW,joinW_eq c (y::r),Lib.join_cons,Lib.join_cons]
  simp[Lib.joinTail]
theorem joinW_len (c:UInt8) (m:Nat):∀l:List Tx,(∀x ∈ l,x.length≤m)→(joinW c l).length≤l.length*(m+1)
 | [],_=>by simp[joinW]
 | [x],h=>by have:=h x (by simp);simp only[joinW,List.length_singleton];omega
 | x::y::r,h=>by
  have h1:=h x (by simp)
  have h2:=joinW_len c m (y::r) (fun z hz=>h z (by simp[hz]))
  rw[joinW,List.length_append,List.length_cons]
  rw[List.length_cons (a:=x),Nat.succ_mul];omega
theorem join_row (g n m:Nat) (F:Nat→Tx) (sep:UInt8) (w:World) (hg:g<w.heap.size) (hc:∀j,j<n→w.cell? ⟨g,j,none⟩=some (.string (mk (F j)))) (hF:∀j,j<n→(F j).length≤m) (hb:n*(m+1)≤1000000):
  Calls Tryz.prog 81 #[.slice (some ⟨g,0,none⟩) n n,.string ⟨#[sep]⟩] w fun e w'=>e=.returned (.string (mk (joinW sep ((List.range n).map F))))∧Below w.heap.size w w':=by
 have hl:((List.range n).map fun j=>mk (F j)).length=n:=by simp
 have hm:(((List.range n).map fun j=>mk (F j)).map fun x=>x.data.toList)=(List.range n).map F:=by
  rw[List.map_map];apply List.map_congr_left;intro j _;rfl
 have hj:=joinW_len sep m ((List.range n).map F) (fun x hx=>by obtain⟨j,hj,rfl⟩:=List.mem_map.1 hx;exact hF j (List.mem_range.1 hj))
 have C:=Tryz.strings_Join g 0 n ((List.range n).map fun j=>mk (F j)) ⟨#[sep]⟩ w (by
   intro j x hx
   rw[List.getElem?_map] at hx
   by_cases hjn:j<n
   ·rw[List.getElem?_range hjn] at hx
    simp only[Option.map_some,Option.some.injEq] at hx
    rw[Nat.zero_add,hc j hjn,←hx]
   ·rw[List.getElem?_eq_none (by simpa using Nat.le_of_not_lt hjn)] at hx;cases hx) hg (by rw[hl];have:n≤n*(m+1):=Nat.le_mul_of_pos_right _ (by omega);omega) (by rw[hl];exact Nat.le_refl _)
  (by rw[hm,show(⟨#[sep]⟩:ByteArray).data.toList=[sep] from rfl,←joinW_eq];rw[List.length_map,List.length_range] at hj;omega)
 rw[hl,hm,show(⟨#[sep]⟩:ByteArray).data.toList=[sep] from rfl,←joinW_eq] at C
 exact C
theorem sl_len (S:Dq) (I:Inv S) (k:Nat):(Sm.sliceB S.book (Sm.heads S.marks) k).length≤300:=by
 unfold Sm.sliceB
 have h2:=Bm.text_len_le S.book
 have h3:=Il.few_book I
 rw[List.length_take,List.length_drop];omega
theorem parts_yes (F:Nat→Prop) (X:Nat) (N:Nt) (i:Nat) (w:World) (h:At w X N F) (hg:Gl N) (hi:i<N.ds.length):
  Calls Tryz.prog 52 #[ptr X,.int .i64 i] w fun r w'=>r=.returned (.tuple #[.string (mk (partsT (dq N i))),.nilIface])∧Below w.heap.size w w':=by
 have C:=Hq.doc.doc X N F i w h hi
 have I:=(hg.inv i hi).1
 generalize dq N i=S at C I ⊢
 have HI:=Hid.mk' I
 have HD0:=z9 (Sd.dirE_zero.2 ⟨I.book,I.marks⟩)
 obtain⟨T,hT⟩:∃T,T=mk (partsT S):=⟨_,rfl⟩
 have HT:=Hid.mk' hT
 rw[←hT]
 clear h hg hi I hT
 go_enter Tryz.func52,Tryz.ntmps52
 go_wp2_with fail
 refine C.mono ?_
 rintro e w1 ⟨D,Fd,rfl,hd,_,hb⟩
 have HB1:=Hid.mk' hb
 have HD1:=Hid.mk' hd
 have CB:=Il.book_get D S Fd w1 hd
 obtain⟨lb,hlb⟩:∃lb,lb=S.book.length:=⟨_,rfl⟩
 have HLB:=z9 hlb.symm
 clear C hd hb hlb
 go_wp2_with fail
 refine CB.mono ?_
 rintro e w5 ⟨vb,rfl,hk5,hb5⟩
 obtain⟨qb,cb,rfl,hbi,hbc,hbm,_⟩:=hk5.1
 rw[HLB.out]
 have HBI:Hid (LeafsIn w5 qb S.book∧S.book.length≤cb∧cb≤maxLen):=⟨hbi,hbc,hbm⟩
 have HB5:=z9 (bel HB1.out hb5)
 have CM:=Il.marks_get D S Fd w5 (HD1.out.below hb5)
 clear CB hk5 hbi hbc hbm hb5 HD1
 go_wp2_with fail
 refine CM.mono ?_
 rintro e w6 ⟨vm,rfl,hk6,hb6⟩
 obtain⟨pm,nm,cm,rfl⟩:∃p n c,vm=.slice p n c:=by obtain⟨p,c,e,_⟩:=hk6.1;exact⟨_,_,_,e⟩
 have HB6:=z9 (bel HB5.out hb6)
 have CS:=slices_any qb lb cb S.book (.slice pm nm cm) S.marks w6 HLB.out (HBI.out.1.below hb6) (small_book HI.out.book) (by rw[←HLB.out];exact HBI.out.2.1) HBI.out.2.2 hk6.1 (small_marks HI.out.marks)
 rw[HD0.out,errV_zero] at CS
 clear CM hk6 hb6
 go_wp2_with fail
 refine CS.mono ?_
 rintro e w7 ⟨p7,n7,c7,rfl,hs7⟩
 obtain⟨g,hv,hgl,hc7⟩:=hs7.ok HD0.out
 injection hv with e1 e2 e3
 subst e1 e2 e3
 have HB7:=z9 (bel HB6.out hs7.bel)
 have CJ:=join_row g (Sm.heads S.marks).length 300 (Sm.sliceB S.book (Sm.heads S.marks)) 124 w7 (World.block_lt_of_cell? _ _ (hc7 0 (Sm.heads_pos S.marks))) hc7 (fun j _=>sl_len S HI.out j) (by have:=Sd.heads_len HI.out.marks;omega)
 rw[show mk (joinW 124 ((List.range (Sm.heads S.marks).length).map (Sm.sliceB S.book (Sm.heads S.marks))))=T from HT.out.symm] at CJ
 obtain⟨nh,hnh⟩:∃nh,nh=(Sm.heads S.marks).length:=⟨_,rfl⟩
 rw[←hnh] at CJ ⊢
 clear CS hs7 hgl hc7 hnh
 go_wp2_with fail
 refine CJ.mono ?_
 rintro e w8 ⟨rfl,hb8⟩
 have HB8:=z9 (bel HB7.out hb8)
 clear CJ hb8
 go_wp2_with fail
 go_ret2
 exact⟨rfl,HB8.out⟩
theorem doc_not (F:Nat→Prop) (X:Nat) (N:Nt) (i:Nat) (w:World) (h:At w X N F) (hi:¬i<N.ds.length):
  Calls Tryz.prog 77 #[ptr X,.int .i64 i] w fun e w'=>e=.returned (.tuple #[.pointer none,.iface 76 (.int .i64 1)])∧w'=w:=by
 have ho:out N.ds.length (i:Int):=by unfold out;omega
 obtain⟨vd,vu,E,Fd,m,hF⟩:=h
 obtain⟨p,c,rfl,_⟩:=m.cellD
 exact Hs.doc_no X _ c i p w (Ic.blk_cell m.blk (i:=0) rfl) m.few ho
theorem parts_no (F:Nat→Prop) (X:Nat) (N:Nt) (i:Nat) (w:World) (h:At w X N F) (hi:¬i<N.ds.length):
  Calls Tryz.prog 52 #[ptr X,.int .i64 i] w fun r w'=>r=.returned (.tuple #[.string e0,.iface 76 (.int .i64 1)])∧w'=w:=by
 have C:=doc_not F X N i w h hi
 clear h hi
 go_enter Tryz.func52,Tryz.ntmps52
 go_wp2_with fail
 refine C.mono ?_
 rintro e w1 ⟨rfl,hw⟩
 have hw2:=hw.symm;subst hw2;clear hw C
 go_wp2_with fail
 go_ret2
 exact⟨rfl,rfl⟩
theorem who_no (F:Nat→Prop) (X:Nat) (N:Nt) (i:Nat) (w:World) (h:At w X N F) (hi:¬i<N.ds.length):
  Calls Tryz.prog 53 #[ptr X,.int .i64 i] w fun r w'=>r=.returned (.tuple #[.string e0,.iface 76 (.int .i64 1)])∧w'=w:=by
 have C:=doc_not F X N i w h hi
 clear h hi
 go_enter Tryz.func53,Tryz.ntmps53
 go_wp2_with fail
 refine C.mono ?_
 rintro e w1 ⟨rfl,hw⟩
 have hw2:=hw.symm;subst hw2;clear hw C
 go_wp2_with fail
 go_ret2
 exact⟨rfl,rfl⟩
theorem tot_le:∀(v:List Int) (j:Nat),(∀x ∈ v,0≤x)→v.getD j 0≤Sq1.tot v∧0≤Sq1.tot v
 | [],j,_=>by simp[Sq1.tot]
 | x::r,j,h=>by
  have h0:=h x (by simp)
  have h1:=fun k=>tot_le r k (fun y hy=>h y (by simp[hy]))
  have h2:=(h1 0).2
  rw[Sq1.tot]
  refine⟨?_,by omega⟩
  cases j with
  | zero=>show x≤_;omega
  | succ j=>have:=(h1 j).1;show r.getD j 0≤_;omega
theorem who_list {xs:List Int} (h8:xs.length=8) (hp:∀x ∈ xs,0≤x):(List.range 3).map (fun j=>Lib.itoa (xs.getD j 0))=(xs.take 3).map fun n=>Lib.decDigits n.toNat:=by
 match xs,h8 with
 | a::b::c::r,_=>
  have ha:=hp a (by simp)
  have hb:=hp b (by simp)
  have hc:=hp c (by simp)
  have e:∀n:Int,0≤n→Lib.itoa n=Lib.decDigits n.toNat:=fun n hn=>by
   obtain⟨u,rfl⟩:∃u:Nat,n=u:=⟨n.toNat,by omega⟩
   rw[Dm.itoa_nat];rfl
  show[Lib.itoa a,Lib.itoa b,Lib.itoa c]=[Lib.decDigits a.toNat,Lib.decDigits b.toNat,Lib.decDigits c.toNat]
  rw[e a ha,e b hb,e c hc]
theorem who_yes (F:Nat→Prop) (X:Nat) (N:Nt) (i:Nat) (w:World) (h:At w X N F) (hg:Gl N) (hi:i<N.ds.length) (hL:Lib3 w):
  Calls Tryz.prog 53 #[ptr X,.int .i64 i] w fun r w'=>r=.returned (.tuple #[.string (mk (whoT (dq N i))),.nilIface])∧Below w.heap.size w w':=by
 have C:=Hq.doc.doc X N F i w h hi
 have I:=(hg.inv i hi).1
 generalize dq N i=S at C I ⊢
 have HI:=Hid.mk' I
 have HL:=Hid.mk' hL
 have hrk:=(Sq1.runs_ok (Bm.bookE_zero.1 I.book).2.1).wrt
 have htl:=Bm.text_len_le S.book
 have hfb:=Il.few_book I
 obtain⟨xs,hxs⟩:∃xs,xs=Sq1.wrt (Sq1.runs S.book):=⟨_,rfl⟩
 rw[←hxs] at hrk
 have HX8:=z9 hrk.len
 have HXP:=z9 hrk.pos
 have HXB:Hid (∀j,0≤xs.getD j 0∧xs.getD j 0≤300):=fun j=>⟨Sq1.getD_nn hrk.pos j,by have h1:=(tot_le xs j hrk.pos).1;have h2:=hrk.sum;omega⟩
 have HXW:Hid (wrtR S.book=xs):=by unfold Hid wrtR;rw[if_pos I.book,hxs]
 have HWT:Hid (whoT S=joinW 32 ((List.range 3).map fun j=>Lib.itoa (xs.getD j 0))):=by unfold Hid whoT;rw[who_list HX8.out HXP.out,hxs]
 obtain⟨T,hT⟩:∃T,T=mk (whoT S):=⟨_,rfl⟩
 have HT:=Hid.mk' hT
 rw[←hT]
 obtain⟨i0,hi',hz0,hz1,hz2⟩:=info_parts infoS
 clear h hg hi I hT hL hrk hxs htl hfb
 go_enter Tryz.func53,Tryz.ntmps53
 go_wp2_with fail
 refine C.mono ?_
 rintro e w1 ⟨D,Fd,rfl,hd,_,hb⟩
 have HB1:=Hid.mk' hb
 have CB:=Il.book_get D S Fd w1 hd
 obtain⟨lb,hlb⟩:∃lb,lb=S.book.length:=⟨_,rfl⟩
 have HLB:=z9 hlb.symm
 clear C hd hb hlb
 go_wp2_with fail
 refine CB.mono ?_
 rintro e w5 ⟨vb,rfl,hk5,hb5⟩
 obtain⟨qb,cb,rfl,hbi,hbc,hbm,_⟩:=hk5.1
 rw[HLB.out]
 have HB5:=z9 (bel HB1.out hb5)
 have CW:=written_any qb lb cb S.book w5 HLB.out hbi (small_book HI.out.book) (by have:=HLB.out;omega)
 rw[HI.out.book,errV_zero,HXW.out] at CW
 clear CB hk5 hbi hbc hbm hb5
 go_wp2_with fail
 refine CW.mono ?_
 rintro e w6 ⟨v6,rfl,HO6,HB6'⟩
 obtain⟨p6,c6,rfl,hp6⟩:=HO6.out.shape
 obtain⟨g6,rfl,_⟩:=hp6 (by rw[HX8.out];omega)
 have HB6:=z9 (bel HB5.out HB6'.out)
 have HCX:Hid (∀j,j<8→w6.cell? ⟨g6,j,none⟩=some (.int .i64 (xs.getD j 0))):=fun j hj=>by
  have h9:=HO6.out
  rw[HX8.out] at h9
  exact(OwnI.cell h9 HX8.out hj).1
 rw[HX8.out]
 clear CW hp6 HO6 HB6'
 go_wp2_with (at_make;refine wpList_make_full _ rfl (.const (.int .i64 3)) (.const (.int .i64 3)) 23 rfl w6.heap.size 9 i0 (.string ByteArray.empty) 1 Tryz.underlying23 hi' hz0 hz1 .i64 .i64 3 3 3 rfl rfl rfl rfl (by rw[hz2];omega) (by unfold maxLen;omega) (Nat.le_refl _) ?_;intro w2 hown hgrow;have HF:Hid (FillS w6 w6.heap.size 3 (fun j=>mk (Lib.itoa (xs.getD j 0))) 0 w2):=FillS.start (Nat.le_refl _) hown ((Below.refl _ w6).grown hgrow (Nat.le_refl _) (fun k hk=>by cases hk));clear hown hgrow)
 go_loopw [10,32] (fun _ vi wr=>∃(k:Nat),k≤3∧vi=.int .i64 k∧Hid (FillS w6 w6.heap.size 3 (fun j=>mk (Lib.itoa (xs.getD j 0))) k wr)) (fun _ vi _=>3-(intOf vi).toNat)
 case atStart=>exact⟨0,by omega,rfl,HF⟩
 case round=>
  clear HF
  obtain⟨k,hk,rfl,HF⟩:=hrel
  by_cases hlt:k<3
  ·have hltz:(k:Int)<3:=by omega
   have hltz8:(k:Int)<8:=by omega
   have e1:=HCX.out k (by omega)
   have d1:wr.cell? ⟨g6,k,none⟩=some (.int .i64 (xs.getD k 0)):=(HF.out.bel.cell (World.block_lt_of_cell? _ _ e1)).trans e1
   obtain⟨x0,x3⟩:=HXB.out k
   have CI:=itoa_any (xs.getD k 0) (by omega) (by omega) wr (HL.out.below (bel HB6.out HF.out.bel))
   obtain⟨sx,hsx⟩:∃sx:ByteArray,sx=mk (Lib.itoa (xs.getD k 0)):=⟨_,rfl⟩
   rw[show(⟨(Lib.itoa (xs.getD k 0)).toArray⟩:ByteArray)=sx from hsx.symm] at CI
   have HSX:=Hid.mk' hsx
   obtain⟨x,hx⟩:∃x,x=xs.getD k 0:=⟨_,rfl⟩
   rw[←hx] at d1 CI
   clear e1 x0 x3 hsx hx
   go_wp2_with fail
   refine CI.mono ?_
   rintro e w7 ⟨rfl,hb7⟩
   have HF7:=Hid.mk' (HF.out.below hb7)
   obtain⟨old,d3⟩:=HF7.out.any k hlt
   have d4:=HF7.out.free k
   have HN:=z9 (HF7.out.step hlt sx HSX.out)
   clear CI hb7 d1
   go_wp2_with fail
   go_roundw
   case rel=>exact⟨k+1,by omega,by go_num,HN⟩
   case measure=>simp[intOf];omega
  ·obtain rfl:k=3:=by omega
   have CJ:=join_row w6.heap.size 3 1000 (fun j=>Lib.itoa (xs.getD j 0)) 32 wr HF.out.lt HF.out.done (fun j _=>by
    have h9:=HXB.out j
    obtain⟨u,hu⟩:∃u:Nat,xs.getD j 0=u:=⟨(xs.getD j 0).toNat,by omega⟩
    rw[hu,Dm.itoa_nat]
    have:=Rw0.dec_len u
    omega) (by omega)
   rw[show mk (joinW 32 ((List.range 3).map fun j=>Lib.itoa (xs.getD j 0)))=T by rw[HT.out,HWT.out]] at CJ
   go_wp2_with fail
   refine CJ.mono ?_
   rintro e w8 ⟨rfl,hb8⟩
   have HB8:=z9 (bel (bel HB6.out HF.out.bel) hb8)
   clear CJ hb8
   go_wp2_with fail
   go_ret2
   exact⟨rfl,HB8.out⟩
end Rx6
end Go.Proofs.YtiamefgoeibhhaaGreatDoor
