/- The reference's Copy of a doc. -/
import Derived.Test.YtlmdchpbpgcfmaaGreatDoorX1
import Derived.Test.YtlmdchpbpgcfmaaGreatDoorA0
import Derived.Deep.Upon
import Derived.Deep.RegionLaw
import Derived.Laws.CopyOwn
set_option linter.unusedSimpArgs false
set_option linter.unusedVariables false
set_option maxRecDepth 100000
set_option maxHeartbeats 8000000
namespace Go.Proofs.YtlmdchpbpgcfmaaGreatDoor
namespace Tj
open Go.ChangeShapes Go.WideShapes Go.ChangeAt Go.RowKit Cm Ka Kb Na Om Oa Oz Oc Og Oi Hm Ia Ic Idc Ie Xp Xq
open La (bel bel_drew errV_zero errV_ne own_ge own_grow own_below Lies LeafsIn)
open Lj (BookAt BookNew)
theorem Hid.mk' {p:Prop} (h:p):Hid p:=h
/- append to nil: a row of its own, or nil -/
theorem app_nil (w:World) (t e:TypeId) (i:TypeInfo) (z:Value) (sz by':Nat) (ht:Tryz.prog.underlying t=some (.slice e)) (hi:Tryz.prog.info? e=some i) (hz0:i.zero=some z) (hz1:i.size=sz) (hz2:i.bytes=by') (hzs:z.cells.size=sz) (x:Value) (n:Nat) (news:List Value) (hs:Src Tryz.prog sz t x n news w) (hl:news.length=n*sz) (hn:n≤1000) (hb:by'≤1000) (ty:TypeId):
  ∃v' w',(Builtin.append_ #[t,t] ty #[.slice none 0 0,x]).run Tryz.prog w=.ok v' w'∧w'.ownsRow w.heap.size e sz v' n news∧Below w.heap.size w w'∧∃p c,v'=.slice p n c:=by
 rcases Nat.eq_zero_or_pos n with h0 | hp
 ·subst h0
  have hk0:news=[]:=List.eq_nil_of_length_eq_zero (by omega)
  subst hk0
  exact⟨_,_,run_append_nothing (P:=Tryz.prog) w _ _ ty e i ht hi none 0 0 (Nat.le_refl _) x (by rw[hz1];exact hs),World.ownsRow_nil _ _ _ _,Below.refl _ _,none,0,rfl⟩
 ·have hg:0<0+n:=by omega
  have hrun:=run_append_grow_src (P:=Tryz.prog) w t t ty e i z ht hi hz0 none 0 0 [] (by rw[hz1];exact run_firstCells_none w.drew sz 0 0 0) x n news (by rw[hz1];exact hs) hg (by omega) (by
   have hm:(0+n)*by'≤1000*1000:=Nat.mul_le_mul (by omega) hb
   rw[hz2];exact growslice_fits hg (by omega))
  have hge:=grownCap_ge w (0+n) 0 e
  have hcm:=grownCap_le_maxLen w (0+n) 0 e (by unfold maxLen;omega)
  obtain⟨C,hC⟩:∃C,C=grownCap w (0+n) 0 e:=⟨_,rfl⟩
  rw[←hC] at hrun hge hcm
  obtain⟨arr,harr⟩:∃arr,arr=(([]:List Value)++news).toArray++Builtin.zeroCells z.cells (C-(0+n)):=⟨_,rfl⟩
  rw[←harr] at hrun
  rw[List.nil_append] at harr
  have hasz:arr.size=C*sz:=by
   rw[harr,Array.size_append,List.size_toArray,hl,size_zeroCells,hzs,←Nat.add_mul,show n+(C-(0+n))=C by omega]
  rw[Nat.zero_add] at hrun hge
  refine⟨_,_,hrun,⟨hl,Or.inr ⟨w.heap.size,C,arr,rfl,Nat.le_refl _,heap_alloc_new w.drew _,hge,hcm,hasz, ?_⟩⟩,(Below.refl _ w).drew.alloc (Nat.le_refl _) _,_,_,rfl⟩
  rw[harr,←hl,Array.toList_append,List.take_left]
theorem step_appN {ops:Array Oper} {o:Oper} {a:Act} {W:World} {K:Act→World→Prop} {Q:Exit→Act→World→Prop} {E0:Prop} (hgd:o.guard=none) (s x:Operand) (t e:TypeId) (i:TypeInfo) (z:Value) (sz by':Nat)
  (ho:o.op=.call { callee:=.builtin .append,args:=#[s,x],argTypes:=#[t,t] }) (ht:Tryz.prog.underlying t=some (.slice e)) (hi:Tryz.prog.info? e=some i) (hz0:i.zero=some z) (hz1:i.size=sz) (hz2:i.bytes=by') (hzs:z.cells.size=sz) (hv:a.eval s=.slice none 0 0) (xv:Value) (hx:a.eval x=xv) (n:Nat) (news:List Value) (hs:Src Tryz.prog sz t xv n news W) (hl:news.length=n*sz) (hn:n≤1000) (hb:by'≤1000)
  (hK:∀v' w',w'.ownsRow W.heap.size e sz v' n news→Below W.heap.size W w'→(∃p c,v'=.slice p n c)→K (a.put o.dst v') w'):
  if Region.wanted o (yielded ops a.tmps)=true then Oper.wp Tryz.prog o a W K Q else E0:=by
 have hw:Region.wanted o (yielded ops a.tmps)=true:=by simp[Region.wanted,hgd]
 rw[if_pos hw]
 obtain⟨v',w',hrun,h1,h2,h3⟩:=app_nil W t e i z sz by' ht hi hz0 hz1 hz2 hzs xv n news hs hl hn hb o.type
 unfold Oper.wp
 simp[execOp,ho,resolve,invoke,builtin,hv,hx,hrun,Result.andThen]
 exact hK v' w' h1 h2 h3
theorem src_book {w:World} {v:Value} {l:List Bm.Leaf} (h:BookAt w v l):∃p c,v=.slice p l.length c∧∀W,(∀k u,w.cell? k=some u→W.cell? k=some u)→Src Tryz.prog 3 44 (.slice p l.length c) l.length (La.flat l) W:=by
 obtain⟨q,c,rfl,hlf,hc,hcm,hqc⟩:=h
 refine⟨q,c,rfl,fun W hW=> ?_⟩
 cases q with
 | none=>
  have hc0:=hqc rfl
  subst hc0
  have hl0:l=[]:=List.eq_nil_of_length_eq_zero (by omega)
  subst hl0
  exact Src.ofNil _ Tryz.underlying44 0
 | some ad=>
  refine Src.ofSlice _ Tryz.underlying44 ad l.length c (La.flat l) (La.flat_length l) (fun j u hu=> ?_) (La.flat_one l)
  rcases hlf with e0 | ⟨b,o,hp2,hcs⟩
  ·subst e0;simp[La.flat] at hu
  ·injection hp2 with hp2
   subst hp2
   rw[Addr.add_lit];exact hW _ _ (La.at_flat hcs j u hu)
theorem src_marks {w:World} {v:Value} {l:List Mk} (h:MksAt w v l):∃p c,v=.slice p l.length c∧∀W,(∀k u,w.cell? k=some u→W.cell? k=some u)→Src Tryz.prog 3 90 (.slice p l.length c) l.length (flat l) W:=by
 obtain⟨q,c,rfl,hlf,hc,hcm,hqc⟩:=h
 refine⟨q,c,rfl,fun W hW=> ?_⟩
 cases q with
 | none=>
  have hc0:=hqc rfl
  subst hc0
  have hl0:l=[]:=List.eq_nil_of_length_eq_zero (by omega)
  subst hl0
  exact Src.ofNil _ Tryz.underlying90 0
 | some ad=>
  refine Src.ofSlice _ Tryz.underlying90 ad l.length c (flat l) (flat_length l) (fun j u hu=> ?_) (flat_one l)
  rcases hlf with e0 | ⟨b,o,hp2,hcs⟩
  ·subst e0;simp[flat] at hu
  ·injection hp2 with hp2
   subst hp2
   rw[Addr.add_lit];exact hW _ _ (at_flat hcs j u hu)
theorem src_ops {w:World} {B:Nat→Prop} {v:Value} {l:List Ox} (h:OpsOwn w B v l):∃p c L,v=.slice p l.length c∧L.map (·.1)=l∧(∀y ∈ L,DtsAt w y.2 y.1.2.2.2.2∧In B y.2)∧∀W,(∀k u,w.cell? k=some u→W.cell? k=some u)→Src Tryz.prog 6 55 (.slice p l.length c) l.length (flatO L) W:=by
 obtain⟨L,h1,h2,h3⟩:=h
 have hll:L.length=l.length:=by rw[←h1,List.length_map]
 rcases h2.2 with⟨e,e0⟩ | ⟨g,cap,cur,e,_⟩
 ·subst e
  have hl0:l=[]:=List.eq_nil_of_length_eq_zero e0
  subst hl0
  have hL0:L=[]:=List.eq_nil_of_length_eq_zero hll
  subst hL0
  exact⟨none,0,[],rfl,rfl,h3,fun W hW=>Src.ofNil _ Tryz.underlying55 0⟩
 ·subst e
  refine⟨some ⟨g,0,none⟩,cap,L,rfl,h1,h3,fun W hW=> ?_⟩
  refine Src.ofSlice _ Tryz.underlying55 ⟨g,0,none⟩ l.length cap (flatO L) (by rw[flatO_length,hll]) (fun j u hu=>hW _ _ (h2.cells (g:=g) rfl j u hu)) (Iq.flatO_one L fun y hy=> ?_)
  obtain⟨p,c,e9,_⟩:=(h3 y hy).1
  exact⟨_,_,_,e9⟩
/- New, as it lies -/
theorem new_raw (w:World):Calls Tryz.prog 30 #[] w fun e w'=>∃E gk cur,e=.returned (.pointer (some ⟨E,0,none⟩))∧w'.heap[E]? =some (.cells #[.slice none 0 0,.slice none 0 0,.slice (some ⟨gk,0,none⟩) 8 8,.slice none 0 0] 118)∧w'.heap[gk]? =some (.cells cur 3 (0,0))∧cur.size=8∧w.heap.size≤gk∧w.heap.size≤E∧Below w.heap.size w w':=by
 obtain⟨i0,hi,hz0,hz1,hz2⟩:=info_parts Za.infoInt
 go_enter Tryz.func30,Tryz.ntmps30
 go_wp2_with (at_make;refine wpList_make_full _ rfl (.const (.int .i64 8)) (.const (.int .i64 8)) 39 rfl w.heap.size 3 i0 (.int .i64 0) 1 Tryz.underlying39 hi hz0 hz1 .i64 .i64 8 8 8 rfl rfl rfl rfl (by rw[hz2];omega) (by unfold maxLen;omega) (Nat.le_refl _) ?_;intro w1 hown hgrow;have HO:=z9 hown;have HB:Hid (Below w.heap.size w w1):=(by first | exact hgrow | exact⟨hgrow.os,hgrow.tape,hgrow.output,hgrow.size,fun j hj=>hgrow.block j hj (by intro e;cases e)⟩);clear hown hgrow)
 go_ret
 obtain⟨_,e | ⟨g,cap,cur,e,_,hc,_,_,hsz,_⟩⟩:=id HO.out
 ·cases e.1
 ·injection e with e1 e2 e3
  injection e1 with e1
  injection e1 with e1
  have hbb:∀O,Below w1.heap.size w1 (w1.alloc O):=fun O=>(Below.refl _ w1).alloc (Nat.le_refl _) O
  refine⟨w1.heap.size,w.heap.size,cur,rfl,heap_alloc_new w1 _, ?_,by rw[hsz,←e3],Nat.le_refl _,HB.out.size,bel HB.out (hbb _)⟩
  have hlt:w.heap.size<w1.heap.size:=(Array.getElem?_eq_some_iff.1 (by rw[e1];exact hc:w1.heap[w.heap.size]? =_)).1
  rw[(hbb _).block _ hlt,e1];exact hc
theorem own_off {w:World} {base:Nat} {t:TypeId} {z:Nat} {v:Value} {n:Nat} {xs:List Value} (h:w.ownsRow base t z v n xs):∀(a:Addr) (n c:Nat),v=.slice (some a) n c→0<n→v.ownBlock=some a.block∧base≤a.block∧a.block<w.heap.size:=by
 intro a n1 c1 e hn
 rcases h.2 with⟨e9,_⟩ | ⟨g,cap,cur,e9,hg,hc,_⟩
 ·rw[e9] at e;cases e
 ·rw[e9] at e
  injection e with e1 _ _
  injection e1 with e1
  subst e1
  exact⟨by rw[e9];rfl,hg,(Array.getElem?_eq_some_iff.1 hc).1⟩
theorem infoL:(Tryz.prog.info? 53).map (fun i=>(i.zero,i.size,i.bytes))=some (some (.agg #[.string ⟨#[]⟩,.int .i64 0,.bool false]),3,32):=by kernel_rfl
theorem infoM:(Tryz.prog.info? 96).map (fun i=>(i.zero,i.size,i.bytes))=some (some (.agg #[.string ⟨#[]⟩,.int .i64 0,.int .i64 0]),3,32):=by kernel_rfl
theorem copy_ref (B:Nat→Prop) (E:Nat) (S:Dq) (F:Nat→Prop) (w:World) (h:RefAt B w E S F):
  Calls Tryz.prog 71 #[.pointer (some ⟨E,0,none⟩)] w fun e w'=>∃E' F',e=.returned (.pointer (some ⟨E',0,none⟩))∧RefAt B w' E' S F'∧(∀g,F' g→w.heap.size≤g)∧Below w.heap.size w w':=by
 obtain⟨hI,gk,vb,vm,vo,m⟩:=h
 obtain⟨iL,hiL,zL0,zL1,zL2⟩:=info_parts infoL
 obtain⟨iM,hiM,zM0,zM1,zM2⟩:=info_parts infoM
 obtain⟨iO,hiO,zO0,zO1,zO2⟩:=info_parts infoR
 obtain⟨pb,cb,rfl,sb⟩:=src_book m.book
 obtain⟨pm,cm,rfl,sm⟩:=src_marks m.marks
 obtain⟨po,co,LO,rfl,hLO,hdO,so⟩:=src_ops m.ops
 obtain⟨nb,hnb⟩:∃nb,nb=S.book.length:=⟨_,rfl⟩
 obtain⟨nm,hnm⟩:∃nm,nm=S.marks.length:=⟨_,rfl⟩
 obtain⟨no,hno⟩:∃no,no=S.ops.length:=⟨_,rfl⟩
 rw[←hnb] at sb
 rw[←hnm] at sm
 rw[←hno] at so
 have hb300:nb≤300:=by rw[hnb];exact(Bm.bookE_zero.1 hI.book).1
 have hm40:nm≤40:=by rw[hnm];exact(marksE_zero.1 hI.marks).1
 have ho400:no≤400:=by rw[hno];exact hI.few
 have HSB:Hid (∀W,Below w.heap.size w W→Src Tryz.prog 3 44 (.slice pb nb cb) nb (La.flat S.book) W):=fun W hb=>sb W fun k u hk=>keep_cell hb hk
 have HSM:Hid (∀W,Below w.heap.size w W→Src Tryz.prog 3 90 (.slice pm nm cm) nm (flat S.marks) W):=fun W hb=>sm W fun k u hk=>keep_cell hb hk
 have HSO:Hid (∀W,Below w.heap.size w W→Src Tryz.prog 6 55 (.slice po no co) no (flatO LO) W):=fun W hb=>so W fun k u hk=>keep_cell hb hk
 have HLB:Hid ((La.flat S.book).length=nb*3∧(flat S.marks).length=nm*3∧(flatO LO).length=no*6):=⟨by rw[La.flat_length,hnb],by rw[flat_length,hnm],by rw[flatO_length,hno,←hLO,List.length_map]⟩
 have HNN:Hid (nb=S.book.length∧nm=S.marks.length∧no=S.ops.length):=⟨hnb,hnm,hno⟩
 have HLO:=Hid.mk' hLO
 have HDO:=Hid.mk' hdO
 have HI:=Hid.mk' hI
 have HOLD:=Hid.mk' m.old
 obtain⟨cur0,kn1,kn2⟩:=m.kn
 have HBE:Hid (∀W,Below w.heap.size w W→W.heap[E]? =some (.cells #[.slice pb nb cb,.slice pm nm cm,.slice (some ⟨gk,0,none⟩) 8 8,.slice po no co] 118)):=fun W hb=>by
  have h9:=m.blk
  rw[←hnb,←hnm,←hno] at h9
  rw[hb.block E (Array.getElem?_eq_some_iff.1 h9).1];exact h9
 have HKN:Hid (∀W,Below w.heap.size w W→∀(j:Nat) (v:Value),(S.known.map (Value.int .i64))[j]? =some v→W.cell? ((⟨gk,0,none⟩:Addr).add j)=some v):=fun W hb j v hv=>by
  rw[Addr.add_lit,Nat.zero_add]
  refine keep_cell hb (blk_cell kn1 (i:=j) ?_)
  rw[←kn2] at hv
  simpa using hv
 clear hI m sb sm so hnb hnm hno hLO hdO kn1 kn2
 go_enter Tryz.func71,Tryz.ntmps71
 go_wp2_with fail
 refine(new_raw w).mono ?_
 rintro e w1 ⟨E1,gk1,cur1,rfl,hE1,hk1,hc8,hg1,hg2,hb1⟩
 have HE1:=z9 hE1
 have HK1:Hid (w1.heap[gk1]? =some (.cells cur1 3 (0,0))∧cur1.size=8):=⟨hk1,hc8⟩
 have HLO1:Hid (w.heap.size≤gk1∧w.heap.size≤E1):=⟨hg1,hg2⟩
 have HB1:=z9 hb1
 have HNE:Hid (gk1≠E1):=fun e=>by
  rw[e,hE1] at hk1
  injection hk1 with hk1
  injection hk1 with _ hk1 _
  exact absurd hk1 (by decide)
 clear hE1 hk1 hc8 hg1 hg2 hb1
 go_wp2_with fail
 have x0:=blk_cell HE1.out (i:=0) (u:=.slice none 0 0) rfl
 have y0:=blk_cell (HBE.out w1 HB1.out) (i:=0) (u:=.slice pb nb cb) rfl
 go_region_law (refine step_appN (by rfl) (.tmp 9) (.tmp 13) 44 53 iL _ 3 32 (by rfl) Tryz.underlying44 hiL zL0 zL1 zL2 (by rfl) (by rfl) _ (by rfl) nb (La.flat S.book) (HSB.out _ HB1.out.drew) HLB.out.1 (by omega) (by omega) ?_;rintro v2 w2 ho2 hb2 ⟨p2,c2,rfl⟩;have HO2:=Hid.mk' ho2;have HB2:Hid (Below w1.heap.size w1 w2):=⟨hb2.os,hb2.tape,hb2.output,hb2.size,hb2.block⟩;have hE2:w2.heap[E1]? =some (.cells #[.slice none 0 0,.slice none 0 0,.slice (some ⟨gk1,0,none⟩) 8 8,.slice none 0 0] 118):=(HB2.out.block E1 (Array.getElem?_eq_some_iff.1 HE1.out).1).trans HE1.out;have z0:=blk_cell hE2 (i:=0) (u:=.slice none 0 0) rfl;have zf0:=blk_free hE2 (i:=0);clear ho2 hb2 hE2)
 all_goals
  clear x0 y0 z0 zf0
  generalize hw3:World.setCell w2 _ _=w3
  have HE3:Hid (w3.heap[E1]? =some (.cells #[.slice p2 nb c2,.slice none 0 0,.slice (some ⟨gk1,0,none⟩) 8 8,.slice none 0 0] 118)):=by
   rw[Hid,←hw3,Ie.set_heap ((HB2.out.block E1 (Array.getElem?_eq_some_iff.1 HE1.out).1).trans HE1.out)];rfl
  have HK3:Hid (w3.heap[gk1]? =some (.cells cur1 3 (0,0))):=by
   rw[Hid,←hw3,set_block _ _ _ _ HNE.out,HB2.out.block gk1 (Array.getElem?_eq_some_iff.1 HK1.out.1).1];exact HK1.out.1
  have HB3:Hid (Below w.heap.size w w3):=by rw[Hid,←hw3];exact(bel HB1.out HB2.out).setCell (p:=⟨E1,0,none⟩) HLO1.out.2 _
  have HZ3:Hid (w1.heap.size≤w3.heap.size):=by rw[Hid,←hw3,World.size_setCell];exact HB2.out.size
  have HR3:Hid (w3.ownsRow w1.heap.size 53 3 (.slice p2 nb c2) nb (La.flat S.book)):=by
   rw[Hid,←hw3]
   refine own_stay HO2.out fun k hk=>set_block _ _ _ _ (fun e=> ?_)
   have h1:=(HO2.out.lt k hk).1
   have h2:=(Array.getElem?_eq_some_iff.1 HE1.out).1
   have h3:k=E1:=e
   have h4:w1.drew.heap.size=w1.heap.size:=rfl
   omega
  have HEL:Hid (E1<w1.heap.size∧gk1<w1.heap.size):=⟨(Array.getElem?_eq_some_iff.1 HE1.out).1,(Array.getElem?_eq_some_iff.1 HK1.out.1).1⟩
  clear hw3 HO2 HB2
  go_wp2_with fail
  have x0:=blk_cell HE3.out (i:=1) (u:=.slice none 0 0) rfl
  have y0:=blk_cell (HBE.out w3 HB3.out) (i:=1) (u:=.slice pm nm cm) rfl
  go_region_law (refine step_appN (by rfl) (.tmp 21) (.tmp 25) 90 96 iM _ 3 32 (by rfl) Tryz.underlying90 hiM zM0 zM1 zM2 (by rfl) (by rfl) _ (by rfl) nm (flat S.marks) (HSM.out _ HB3.out.drew) HLB.out.2.1 (by omega) (by omega) ?_;rintro v4 w4 ho4 hb4 ⟨p4,c4,rfl⟩;have HO4:=Hid.mk' ho4;have HB4:Hid (Below w3.heap.size w3 w4):=⟨hb4.os,hb4.tape,hb4.output,hb4.size,hb4.block⟩;have hE4:w4.heap[E1]? =some (.cells #[.slice p2 nb c2,.slice none 0 0,.slice (some ⟨gk1,0,none⟩) 8 8,.slice none 0 0] 118):=(HB4.out.block E1 (Array.getElem?_eq_some_iff.1 HE3.out).1).trans HE3.out;have z0:=blk_cell hE4 (i:=1) (u:=.slice none 0 0) rfl;have zf0:=blk_free hE4 (i:=1);clear ho4 hb4 hE4)
  all_goals
   clear x0 y0 z0 zf0
   generalize hw5:World.setCell w4 _ _=w5
   have HE5:Hid (w5.heap[E1]? =some (.cells #[.slice p2 nb c2,.slice p4 nm c4,.slice (some ⟨gk1,0,none⟩) 8 8,.slice none 0 0] 118)):=by
    rw[Hid,←hw5,Ie.set_heap ((HB4.out.block E1 (Array.getElem?_eq_some_iff.1 HE3.out).1).trans HE3.out)];rfl
   have HK5:Hid (w5.heap[gk1]? =some (.cells cur1 3 (0,0))):=by
    rw[Hid,←hw5,set_block _ _ _ _ HNE.out,HB4.out.block gk1 (Array.getElem?_eq_some_iff.1 HK3.out).1];exact HK3.out
   have HB5:Hid (Below w.heap.size w w5):=by rw[Hid,←hw5];exact(bel HB3.out HB4.out).setCell (p:=⟨E1,1,none⟩) HLO1.out.2 _
   have HZ5:Hid (w3.heap.size≤w5.heap.size):=by rw[Hid,←hw5,World.size_setCell];exact HB4.out.size
   have HR5:Hid (w5.ownsRow w1.heap.size 53 3 (.slice p2 nb c2) nb (La.flat S.book)):=by
    rw[Hid,←hw5]
    refine own_stay (own_below HR3.out HB4.out) fun k hk=>set_block _ _ _ _ (fun e=> ?_)
    have h1:=(HR3.out.lt k hk).1
    have h2:=HEL.out.1
    have h3:k=E1:=e
    omega
   have HM5:Hid (w5.ownsRow w3.heap.size 96 3 (.slice p4 nm c4) nm (flat S.marks)):=by
    rw[Hid,←hw5]
    refine own_stay HO4.out fun k hk=>set_block _ _ _ _ (fun e=> ?_)
    have h1:=(HO4.out.lt k hk).1
    have h2:=HEL.out.1
    have h3:k=E1:=e
    have h4:w3.drew.heap.size=w3.heap.size:=rfl
    have h5:=HZ3.out
    omega
   clear hw5 HO4 HB4 HR3 HE3 HK3
   go_wp2_with fail
   have x0:=blk_cell HE5.out (i:=2) (u:=.slice (some ⟨gk1,0,none⟩) 8 8) rfl
   have y0:=blk_cell (HBE.out w5 HB5.out) (i:=2) (u:=.slice (some ⟨gk,0,none⟩) 8 8) rfl
   have hcp:=fun ty=>run_copy_row (P:=Tryz.prog) w5.drew 39 39 ty 3 gk1 0 8 8 ⟨gk,0,none⟩ 8 8 cur1 3 (S.known.map (Value.int .i64)) Tryz.underlying39 (by kernel_rfl) HK5.out (by rw[List.length_map,HI.out.klen];rfl) (HKN.out _ HB5.out.drew) (by rw[List.length_map,HI.out.klen,HK1.out.2];exact Nat.le_refl _) (by intro v hv;obtain⟨x,_,rfl⟩:=List.mem_map.1 hv;rfl)
   obtain⟨w6,hw6⟩:∃w6,w6=w5.drew.setRow gk1 (cur1.toList.take 0++S.known.map (Value.int .i64)++cur1.toList.drop (0+(S.known.map (Value.int .i64)).length)).toArray:=⟨_,rfl⟩
   rw[←hw6,List.length_map,HI.out.klen,show goInt ((8:Nat):Int)=Value.int .i64 8 from rfl] at hcp
   have HE6:Hid (w6.heap[E1]? =some (.cells #[.slice p2 nb c2,.slice p4 nm c4,.slice (some ⟨gk1,0,none⟩) 8 8,.slice none 0 0] 118)):=by
    rw[Hid,hw6,setRow_other _ _ _ _ (fun e=>HNE.out e.symm)];exact HE5.out
   have HK6:Hid (∃arr,w6.heap[gk1]? =some (.cells arr 3 (0,0))∧arr.toList=S.known.map (Value.int .i64)):=by
    refine⟨_,by rw[hw6];exact setRow_heap w5.drew gk1 cur1 _ _ _ HK5.out, ?_⟩
    rw[List.take_zero,List.nil_append,List.length_map,HI.out.klen,List.drop_of_length_le (by rw[Array.length_toList,HK1.out.2];exact Nat.le_refl _),List.append_nil]
   have HB6:Hid (Below w.heap.size w w6):=by rw[Hid,hw6];exact below_setRow HB5.out.drew HLO1.out.1 _
   have HS6:Hid (w6.heap.size=w5.heap.size∧∀k,k≠gk1→w6.heap[k]? =w5.heap[k]?):=⟨by
    have h1:=(below_setRow (Below.refl w5.drew.heap.size w5.drew) (g:=w5.drew.heap.size) (Nat.le_refl _) #[]).size
    rw[hw6];unfold World.setRow;simp,fun k hk=>by rw[hw6,setRow_other _ _ _ _ hk];rfl⟩
   have HR6:=z9 (own_stay HR5.out fun k hk=>HS6.out.2 k (fun e=>by have h1:=(HR5.out.lt k hk).1;have h2:=HEL.out.2;omega))
   have HM6:=z9 (own_stay HM5.out fun k hk=>HS6.out.2 k (fun e=>by have h1:=(HM5.out.lt k hk).1;have h2:=HEL.out.2;have h3:=HZ3.out;omega))
   have HLL:Hid (∀k,(Value.slice p2 nb c2).ownBlock=some k→k<w6.heap.size):=fun k hk=>(HR6.out.lt k hk).2
   have HLM:Hid (∀k,(Value.slice p4 nm c4).ownBlock=some k→k<w6.heap.size):=fun k hk=>(HM6.out.lt k hk).2
   clear hw6
   go_region_law (fail)
   all_goals
    clear x0 y0 hcp HR5 HM5 HE5 HK5
    have HZ6:=z9 HS6.out.1.symm
    clear HS6
    go_wp2_with fail
    have x0:=blk_cell HE6.out (i:=3) (u:=.slice none 0 0) rfl
    have y0:=blk_cell (HBE.out w6 HB6.out) (i:=3) (u:=.slice po no co) rfl
    go_region_law (refine step_appN (by rfl) (.tmp 42) (.tmp 46) 55 75 iO _ 6 72 (by rfl) Tryz.underlying55 hiO zO0 zO1 zO2 (by rfl) (by rfl) _ (by rfl) no (flatO LO) (HSO.out _ HB6.out.drew) HLB.out.2.2 (by omega) (by omega) ?_;rintro v7 w7 ho7 hb7 ⟨p7,c7,rfl⟩;have HO7:=Hid.mk' ho7;have HB7:Hid (Below w6.heap.size w6 w7):=⟨hb7.os,hb7.tape,hb7.output,hb7.size,hb7.block⟩;have hE7:w7.heap[E1]? =some (.cells #[.slice p2 nb c2,.slice p4 nm c4,.slice (some ⟨gk1,0,none⟩) 8 8,.slice none 0 0] 118):=(HB7.out.block E1 (Array.getElem?_eq_some_iff.1 HE6.out).1).trans HE6.out;have z0:=blk_cell hE7 (i:=3) (u:=.slice none 0 0) rfl;have zf0:=blk_free hE7 (i:=3);clear ho7 hb7 hE7)
    all_goals
     clear x0 y0 z0 zf0
     generalize hw8:World.setCell w7 _ _=w8
     have HE8:Hid (w8.heap[E1]? =some (.cells #[.slice p2 nb c2,.slice p4 nm c4,.slice (some ⟨gk1,0,none⟩) 8 8,.slice p7 no c7] 118)):=by
      rw[Hid,←hw8,Ie.set_heap ((HB7.out.block E1 (Array.getElem?_eq_some_iff.1 HE6.out).1).trans HE6.out)];rfl
     have HK8:Hid (∃arr,w8.heap[gk1]? =some (.cells arr 3 (0,0))∧arr.toList=S.known.map (Value.int .i64)):=by
      obtain⟨arr,k1,k2⟩:=HK6.out
      exact⟨arr,by rw[←hw8,set_block _ _ _ _ HNE.out,HB7.out.block gk1 (Array.getElem?_eq_some_iff.1 k1).1];exact k1,k2⟩
     have HB8:Hid (Below w.heap.size w w8):=by rw[Hid,←hw8];exact(bel HB6.out HB7.out).setCell (p:=⟨E1,3,none⟩) HLO1.out.2 _
     have HZ8:Hid (w6.heap.size≤w8.heap.size):=by rw[Hid,←hw8,World.size_setCell];exact HB7.out.size
     have HR8:Hid (w8.ownsRow w1.heap.size 53 3 (.slice p2 nb c2) nb (La.flat S.book)):=by
      rw[Hid,←hw8]
      refine own_stay (own_below HR6.out HB7.out) fun k hk=>set_block _ _ _ _ (fun e=> ?_)
      have h1:=(HR6.out.lt k hk).1
      have h2:=HEL.out.1
      have h3:k=E1:=e
      omega
     have HM8:Hid (w8.ownsRow w3.heap.size 96 3 (.slice p4 nm c4) nm (flat S.marks)):=by
      rw[Hid,←hw8]
      refine own_stay (own_below HM6.out HB7.out) fun k hk=>set_block _ _ _ _ (fun e=> ?_)
      have h1:=(HM6.out.lt k hk).1
      have h2:=HEL.out.1
      have h3:k=E1:=e
      have h4:=HZ3.out
      omega
     have HP8:Hid (w8.ownsRow w6.heap.size 75 6 (.slice p7 no c7) no (flatO LO)):=by
      rw[Hid,←hw8]
      refine own_stay HO7.out fun k hk=>set_block _ _ _ _ (fun e=> ?_)
      have h1:=(HO7.out.lt k hk).1
      have h2:=HEL.out.1
      have h3:k=E1:=e
      have h4:w6.drew.heap.size=w6.heap.size:=rfl
      have h5:=HZ3.out
      have h6:=HZ5.out
      have h7:=HZ6.out
      omega
     clear hw8 HO7 HB7 HR6 HM6 HE6 HK6
     go_wp2_with fail
     go_ret
     obtain⟨arr,k1,k2⟩:=HK8.out
     have q1:=HEL.out
     have q2:=HZ3.out
     have q3:=HZ5.out
     have q4:=HZ6.out
     have q5:=HZ8.out
     have q6:=HB1.out.size
     have q7:=HLO1.out
     have hL:=HR8.out.lt
     have hMk:=HM8.out.lt
     have hOp:=HP8.out.lt
     have hoff:∀(v:Value) (a:Addr) (n c:Nat),v=.slice (some a) n c→v.ownBlock=some a.block→w1.heap.size≤a.block→a.block<w6.heap.size→Gn (fun g=>w.heap.size≤g∧g<w8.heap.size) E1 gk1 (.slice p7 no c7) a.block:=fun v a n c _ _ h1 h2=>⟨⟨by omega,by omega⟩,fun e=>by
      rcases e with e | e | e
      ·omega
      ·omega
      ·have:=(hOp _ e).1;omega⟩
     refine⟨E1,fun g=>w.heap.size≤g∧g<w8.heap.size,rfl,⟨HI.out,gk1,.slice p2 nb c2,.slice p4 nm c4,.slice p7 no c7,⟨HE8.out,⟨arr,k1,k2⟩,Lj.own_at HR8.out,fun a n c e hn=> ?_,own_mks HM8.out,fun a n c e hn=> ?_,⟨LO,HLO.out, ?_,fun y hy=>⟨(HDO.out y hy).1.below HB8.out,(HDO.out y hy).2⟩⟩,fun g hg=> ?_,fun g hg=>⟨fun e=>by have:=HOLD.out g e;omega,hg.2⟩,fun g hg=>by have:=HOLD.out g hg;omega⟩⟩,fun g hg=>hg.1,HB8.out⟩
     ·obtain⟨o1,o2,o3⟩:=own_off HR8.out a n c e hn
      exact hoff _ a n c e o1 o2 (HLL.out _ o1)
     ·obtain⟨o1,o2,o3⟩:=own_off HM8.out a n c e hn
      exact hoff _ a n c e o1 (by omega) (HLM.out _ o1)
     ·rw[←HNN.out.2.2];exact own_base HP8.out
     ·rcases hg with e | e | e
      ·exact⟨by omega,by omega⟩
      ·exact⟨by omega,by omega⟩
      ·have:=hOp g e;exact⟨by omega,by omega⟩
end Tj
end Go.Proofs.YtlmdchpbpgcfmaaGreatDoor
