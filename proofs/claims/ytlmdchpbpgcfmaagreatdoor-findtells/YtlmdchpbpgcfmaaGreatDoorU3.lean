import Derived.Test.YtlmdchpbpgcfmaaGreatDoorA0
import Derived.Test.YtlmdchpbpgcfmaaGreatDoorX1
import Derived.Test.YtlmdchpbpgcfmaaGreatDoorJ14
import Derived.Test.YtlmdchpbpgcfmaaGreatDoorU2
import Derived.Test.YtlmdchpbpgcfmaaGreatDoorXr
import Derived.Test.YtlmdchpbpgcfmaaGreatDoorAc
import Derived.Deep.RegionLaw
import Derived.Deep.RegionHeld3
import Derived.Test.YtlmdchpbpgcfmaaGreatDoorP4
import Derived.Test.YtlmdchpbpgcfmaaGreatDoorK1
import Derived.Deep.DeepCutAuto
set_option linter.unusedSimpArgs false
set_option linter.unusedVariables false
set_option maxRecDepth 100000
set_option maxHeartbeats 8000000
/- The reference's parts, at whatever world behind, over any set of blocks. -/
namespace Go.Proofs.YtlmdchpbpgcfmaaGreatDoor
namespace Xt
open Go.ChangeShapes Go.WideShapes Go.ChangeAt Go.RowKit Cm Ka Kb Na Om Oa Oz Oc Og Oi Hm Ia Ib Ic Idc Ie If Ig Ih Ii Ij Ik Il Im Iq Xp
open La (bel bel_drew errV_zero errV_ne own_ge own_grow own_below Lies)
open Lj (BookAt BookNew)
/- the reference's parts, at whatever world behind -/
structure Parts (w:World) (E:Nat) (S:Dq) (pb:Option Addr) (nb cb:Nat) (pm:Option Addr) (nm cm gk:Nat) (po:Option Addr) (no co:Nat):Prop where
 c0:∀W,Below w.heap.size w W→W.cell? ⟨E,0,none⟩=some (.slice pb nb cb)
 c1:∀W,Below w.heap.size w W→W.cell? ⟨E,1,none⟩=some (.slice pm nm cm)
 c2:∀W,Below w.heap.size w W→W.cell? ⟨E,2,none⟩=some (.slice (some ⟨gk,0,none⟩) 8 8)
 c3:∀W,Below w.heap.size w W→W.cell? ⟨E,3,none⟩=some (.slice po no co)
 book:∀W,Below w.heap.size w W→BookAt W (.slice pb nb cb) S.book
 marks:∀W,Below w.heap.size w W→MksAt W (.slice pm nm cm) S.marks
 known:∀W,Below w.heap.size w W→Za.IntsIn W (some ⟨gk,0,none⟩) S.known
 ops:∀W,Below w.heap.size w W→OpsAt W (.slice po no co) S.ops
theorem RefAt.parts {B:Nat→Prop} {w:World} {E:Nat} {S:Dq} {F:Nat→Prop} (h:RefAt B w E S F):∃pb nb cb pm nm cm gk po no co,Parts w E S pb nb cb pm nm cm gk po no co:=by
 obtain⟨I,gk,vb,vm,vo,hm⟩:=h
 obtain⟨po,no,co,hvo⟩:∃p n c,vo=.slice p n c:=by obtain⟨L,_,e,_⟩:=hm.ops;obtain⟨p,n,c,e2,_⟩:=own_shape e;exact⟨p,n,c,e2⟩
 obtain⟨pb,nb,cb,hvb⟩:∃p n c,vb=.slice p n c:=by obtain⟨p,c,e,_⟩:=hm.book;exact⟨_,_,_,e⟩
 obtain⟨pm,nm,cm,hvm⟩:∃p n c,vm=.slice p n c:=by obtain⟨p,c,e,_⟩:=hm.marks;exact⟨_,_,_,e⟩
 subst hvo hvb hvm
 refine⟨pb,nb,cb,pm,nm,cm,gk,po,no,co,fun W hb=>blk_cell (hm.below hb).blk rfl,fun W hb=>blk_cell (hm.below hb).blk rfl,fun W hb=>blk_cell (hm.below hb).blk rfl,fun W hb=>blk_cell (hm.below hb).blk rfl,fun W hb=>(hm.below hb).book,fun W hb=>(hm.below hb).marks,fun W hb=> ?_,fun W hb=>(hm.below hb).ops.at⟩
 obtain⟨cur,k1,k2⟩:=(hm.below hb).kn
 refine Or.inr ⟨gk,0,rfl,fun j hj=> ?_⟩
 rw[Nat.zero_add]
 refine blk_cell k1 ?_
 rw[←Array.getElem?_toList,k2,List.getElem?_map,List.getElem?_eq_getElem hj,List.getD_eq_getElem?_getD,List.getElem?_eq_getElem hj];rfl
end Xt
end Go.Proofs.YtlmdchpbpgcfmaaGreatDoor
/- The reference's maker of ops in memory; what add, maker and told answer. -/
namespace Go.Proofs.YtlmdchpbpgcfmaaGreatDoor
namespace Usp
open Go.ChangeShapes Go.WideShapes Go.ChangeAt Go.RowKit Cm Ka Kb Na Om Oa Oz Oc Og Oi Hm Ia Ib Ic Idc Ie If Ig Ih Ii Ij Ik Il Im Um Ua Ub Uc Ud Ue Uf Iq Aa Ac Xp
open La (bel bel_drew errV_zero errV_ne own_ge own_grow own_below Lies LeafsIn)
open Lj (BookAt BookNew)
open Xr (cell_set blk_grown)
structure MkAt (B:Nat) (w:World) (M:Nat) (who n:Int) (v:Value) (L:List (Ox × Value)):Prop where
 blk:w.heap[M]? =some (.cells #[.int .i64 who,.int .i64 n,v] 225)
 row:w.ownsRow 0 75 6 v L.length (flatO L)
 loc:∀g,v.ownBlock=some g→B≤g
 seen:∀y ∈ L,w.ownsRow B 72 2 y.2 y.1.2.2.2.2.length (flatD y.1.2.2.2.2)
 hM:B≤M
theorem mk_turn {B:Nat} {w w':World} {M:Nat} {who n n':Int} {v:Value} {L:List (Ox × Value)} (h:MkAt B w M who n v L) (hs:∀g,g<w.heap.size→g≠M→w'.heap[g]? =w.heap[g]?) (hM:w'.heap[M]? =some (.cells #[.int .i64 who,.int .i64 n',v] 225)):MkAt B w' M who n' v L:=by
 refine⟨hM,own_stay h.row fun g hg=> ?_,h.loc,fun y hy=>own_stay (h.seen y hy) fun g hg=> ?_,h.hM⟩
 ·obtain⟨hl,cur,hc⟩:=own_lt h.row g hg
  exact hs g hl (blk_ne hc h.blk (by decide))
 ·obtain⟨hl,cur,hc⟩:=own_lt (h.seen y hy) g hg
  exact hs g hl (blk_ne hc h.blk (by decide))
theorem MkAt.below {B:Nat} {w w':World} {M:Nat} {who n:Int} {v:Value} {L:List (Ox × Value)} (h:MkAt B w M who n v L) (hb:Below w.heap.size w w'):MkAt B w' M who n v L:=
 mk_turn h (fun g hg _=>hb.block g hg) (by rw[hb.block M (Array.getElem?_eq_some_iff.1 h.blk).1];exact h.blk)
theorem MkAt.lt {B:Nat} {w:World} {M:Nat} {who n:Int} {v:Value} {L:List (Ox × Value)} (h:MkAt B w M who n v L):M<w.heap.size:=(Array.getElem?_eq_some_iff.1 h.blk).1
theorem MkAt.ops {B:Nat} {w:World} {M:Nat} {who n:Int} {v:Value} {L:List (Ox × Value)} (h:MkAt B w M who n v L):OpsAt w v (L.map (·.1)):=own_ops h.row fun y hy=>own_dts (h.seen y hy)
theorem MkAt.rowB {B:Nat} {w:World} {M:Nat} {who n:Int} {v:Value} {L:List (Ox × Value)} (h:MkAt B w M who n v L):RowL B w v L:=by
 refine⟨h.row.1, ?_⟩
 rcases h.row.2 with h0 | ⟨g,cap,cur,h1,h2,h3⟩
 ·exact Or.inl h0
 ·exact Or.inr ⟨g,cap,cur,h1,h.loc g (by rw[h1];rfl),h3⟩
theorem own_isin {B:Nat} {w:World} {t:TypeId} {z:Nat} {v:Value} {n:Nat} {xs:List Value} (h:w.ownsRow B t z v n xs):In (New B w) v:=fun a m c e _=>⟨(h.lt a.block (by rw[e];rfl)).1,(h.lt a.block (by rw[e];rfl)).2⟩
theorem MkAt.opsJ {B:Nat} {w:World} {M:Nat} {who n:Int} {v:Value} {L:List (Ox × Value)} (h:MkAt B w M who n v L):OpsJ (New B w) (New B w) w v (L.map (·.1)):=OpsJ.own h.rowB fun y hy=>⟨own_dts (h.seen y hy),own_isin (h.seen y hy)⟩
theorem mk_put {B:Nat} {w W w9:World} {M:Nat} {who n:Int} {v v9:Value} {L:List (Ox × Value)} {x:Ox} {vs:Value} (h:MkAt B w M who n v L) (hb:Below w.heap.size w W) (hvs:w.ownsRow B 72 2 vs x.2.2.2.2.length (flatD x.2.2.2.2)) (hg:W.grownBy w9 v.ownBlock) (hr:w9.ownsRow 0 75 6 v9 (L.length+1) (flatO (L++[(x,vs)]))) (hl:v9.ownBlock=v.ownBlock∨v9.ownBlock=some W.heap.size) (hB:B≤w.heap.size):
  MkAt B (w9.setCell ⟨M,2,none⟩ v9) M who n v9 (L++[(x,vs)])∧Below B w (w9.setCell ⟨M,2,none⟩ v9):=by
 have h1:=h.below hb
 have hrow:=own_lt h1.row
 have hne:∀g,v.ownBlock=some g→g≠M:=fun g hgg=>by obtain⟨_,cur,hc⟩:=hrow g hgg;exact blk_ne hc h1.blk (by decide)
 have hbk:w9.heap[M]? =some (.cells #[.int .i64 who,.int .i64 n,v] 225):=by
  rw[hg.block _ h1.lt (fun e=>hne M e.symm rfl)];exact h1.blk
 have hne9:∀g,v9.ownBlock=some g→g≠M:=fun g hgg=>by obtain⟨_,cur,hc⟩:=own_lt hr g hgg;exact blk_ne hc hbk (by decide)
 have hseen:∀(u:Value) (xs:List Dt),w.ownsRow B 72 2 u xs.length (flatD xs)→(w9.setCell ⟨M,2,none⟩ v9).ownsRow B 72 2 u xs.length (flatD xs):=fun u xs ho=>by
  refine own_stay (own_below ho hb) fun g hgg=> ?_
  obtain⟨hlt,cur,hc⟩:=own_lt (own_below ho hb) g hgg
  rw[set_block _ _ _ _ (blk_ne hc h1.blk (by decide))]
  refine hg.block g hlt fun e=> ?_
  obtain⟨_,cur2,hc2⟩:=hrow g e.symm
  exact blk_ne hc hc2 (by decide) rfl
 refine⟨⟨?_, ?_,fun g hgg=> ?_,fun y hy=> ?_,h.hM⟩, ?_⟩
 ·rw[set_heap hbk];rfl
 ·rw[List.length_append]
  exact own_stay hr fun g hgg=>set_block _ _ _ _ (hne9 g hgg)
 ·rcases hl with e | e
  ·exact h.loc g (e▸hgg)
  ·rw[hgg] at e;injection e with e;rw[e];exact Nat.le_trans hB hb.size
 ·rcases List.mem_append.1 hy with q | q
  ·exact hseen _ _ (h.seen y q)
  ·rw[List.mem_singleton.1 q];exact hseen _ _ hvs
 ·have hb9:Below B w w9:=(hb.mono hB).trans ⟨hg.os,hg.tape,hg.output,hg.size,fun g hgl=>hg.block g (Nat.lt_of_lt_of_le hgl (Nat.le_trans hB hb.size)) (fun e=>by have:=h.loc g e.symm;omega)⟩
  exact hb9.setCell (p:=⟨M,2,none⟩) h.hM _
theorem add_ref (B M:Nat) (who n:Int) (v:Value) (L:List (Ox × Value)) (t:Int) (p:ByteArray) (c:Int) (vs:Value) (s:List Dt) (w:World) (h:MkAt B w M who n v L) (hvs:w.ownsRow B 72 2 vs s.length (flatD s)) (hB:B≤w.heap.size) (hn0:0≤n) (hn1:n≤10000) (hL:L.length≤1000):
  Calls Tryz.prog 156 #[.pointer (some ⟨M,0,none⟩),.agg #[.int .i64 0,.int .i64 0,.int .i64 t,.string p,.int .i64 c,vs]] w fun e w'=>e=.returned (.tuple #[])∧∃v',MkAt B w' M who (n+1) v' (L++[(((who,n+1),t,p,c,s),vs)])∧Below B w w':=by
 obtain⟨ps,ns,cs,rfl,_⟩:=own_shape hvs
 obtain⟨po,no,co,rfl,HNO⟩:=own_shape h.row
 have HMK:=z9 h
 have HVS:=z9 hvs
 have HBW:=z9 hB
 have hML:=h.lt
 have hMO:M≠w.heap.size:=by omega
 have hOM:w.heap.size≠M:=by omega
 have hno:no≤1000:=by rw[HNO.out];exact hL
 have hbA:Below w.heap.size w (w.alloc (.cells #[.int .i64 0,.int .i64 0,.int .i64 t,.string p,.int .i64 c,.slice ps ns cs] 75)):=(Below.refl _ _).alloc (Nat.le_refl _) _
 have hM1:=(h.below hbA).blk
 have hO1:(w.alloc (.cells #[.int .i64 0,.int .i64 0,.int .i64 t,.string p,.int .i64 c,.slice ps ns cs] 75)).heap[w.heap.size]? =some (.cells #[.int .i64 0,.int .i64 0,.int .i64 t,.string p,.int .i64 c,.slice ps ns cs] 75):=heap_alloc_new w _
 have HM1:=Hid.mk' hM1
 have HO1:=Hid.mk' hO1
 have HBA:=Hid.mk' hbA
 have a1:=blk_cell hM1 (i:=1) (u:=.int .i64 n) rfl
 have f1:=blk_free hM1 (i:=1)
 have hwr:IntKind.i64.wrap (n+1)=n+1:=wrap_in (by omega) (by omega)
 clear hM1 hO1 hbA h hvs hB hL
 go_enter Tryz.func156,Tryz.ntmps156
 go_wp2_with fail
 generalize hw2:World.alloc _ _=w2
 have hzs:(w.setCell ⟨M,1,none⟩ (.int .i64 (n+1))).heap.size=w.heap.size:=set_size _ _ _
 have hbS:Below w.heap.size (w.setCell ⟨M,1,none⟩ (.int .i64 (n+1))) w2:=by rw[←hw2];exact(Below.refl _ _).alloc (by rw[hzs];exact Nat.le_refl _) _
 have hM2:w2.heap[M]? =some (.cells #[.int .i64 who,.int .i64 (n+1),.slice po no co] 225):=by rw[hbS.block M hML,set_heap HMK.out.blk];rfl
 have hO2:w2.heap[w.heap.size]? =some (.cells #[.int .i64 0,.int .i64 0,.int .i64 t,.string p,.int .i64 c,.slice ps ns cs] 75):=by
  have h9:=heap_alloc_new (w.setCell ⟨M,1,none⟩ (.int .i64 (n+1))) (.cells #[.int .i64 0,.int .i64 0,.int .i64 t,.string p,.int .i64 c,.slice ps ns cs] 75)
  rw[hzs] at h9
  rw[←hw2];exact h9
 have HOT:Hid (∀g,g<w.heap.size→g≠M→w2.heap[g]? =w.heap[g]?):=fun g hg hne=>by rw[hbS.block g hg,set_block _ _ _ _ hne]
 have HB2:Hid (Below B w w2):=((Below.refl B w).setCell (p:=⟨M,1,none⟩) HMK.out.hM _).trans (hbS.mono HBW.out)
 have hz2:w.heap.size<w2.heap.size:=(Array.getElem?_eq_some_iff.1 hO2).1
 have HM2:=Hid.mk' hM2
 have HO2:=Hid.mk' hO2
 have b0:=blk_cell hM2 (i:=0) (u:=.int .i64 who) rfl
 have b1:=blk_cell hM2 (i:=1) (u:=.int .i64 (n+1)) rfl
 have o0:w2.drew.cell? ⟨w.heap.size,0,none⟩=some (.int .i64 0):=blk_cell hO2 (i:=0) rfl
 have o1:w2.drew.cell? ⟨w.heap.size,1,none⟩=some (.int .i64 0):=blk_cell hO2 (i:=1) rfl
 have fo0:w2.drew.frozen? ⟨w.heap.size,0,none⟩=false:=blk_free hO2 (i:=0)
 have o1':w2.cell? ⟨w.heap.size,1,none⟩=some (.int .i64 0):=blk_cell hO2 (i:=1) rfl
 have fo1':w2.frozen? ⟨w.heap.size,1,none⟩=false:=blk_free hO2 (i:=1)
 have fo1:w2.drew.frozen? ⟨w.heap.size,1,none⟩=false:=blk_free hO2 (i:=1)
 clear hw2 hM2 hO2 a1 f1 HM1 HO1 hbS hzs HBA
 go_region_held3 (fun W=>W.cell? ⟨M,0,none⟩=some (.int .i64 who)∧W.cell? ⟨M,1,none⟩=some (.int .i64 (n+1))) (first | (refine⟨(cell_set hMO).trans ((cell_set hMO).trans ?_),(cell_set hMO).trans ((cell_set hMO).trans ?_)⟩<;>(go_split_ands;assumption)) | (go_keep;done) | (refine⟨?_, ?_⟩<;>(rw[World.cell?_drew,cell_set hMO,cell_set hMO];assumption))) (fail)
 generalize hw3:World.drew _=w3
 have hh3:w3.heap=((w2.setCell ⟨w.heap.size,0,none⟩ (.int .i64 who)).setCell ⟨w.heap.size,1,none⟩ (.int .i64 (n+1))).heap:=by rw[←hw3];rfl
 have hM3:w3.heap[M]? =some (.cells #[.int .i64 who,.int .i64 (n+1),.slice po no co] 225):=by rw[hh3,set_block _ _ _ _ hMO,set_block _ _ _ _ hMO];exact HM2.out
 have hO3:w3.heap[w.heap.size]? =some (.cells #[.int .i64 who,.int .i64 (n+1),.int .i64 t,.string p,.int .i64 c,.slice ps ns cs] 75):=by
  rw[hh3,set_heap (set_heap HO2.out)];rfl
 have hoth:∀g,g<w.heap.size→g≠M→w3.heap[g]? =w.heap[g]? :=fun g hg hne=>by rw[hh3,set_block _ _ _ _ (by simp;omega),set_block _ _ _ _ (by simp;omega)];exact HOT.out g hg hne
 have HMK3:=z9 (mk_turn HMK.out hoth hM3)
 have HVS3:Hid (w3.ownsRow B 72 2 (.slice ps ns cs) s.length (flatD s)):=own_stay HVS.out fun g hg=>by
  obtain⟨hlt,cur,hc⟩:=own_lt HVS.out g hg
  exact hoth g hlt (blk_ne hc HMK.out.blk (by decide))
 have HB3:Hid (Below B w w3):=by
  unfold Hid;rw[←hw3]
  exact((HB2.out.setCell (p:=⟨w.heap.size,0,none⟩) HBW.out _).setCell (p:=⟨w.heap.size,1,none⟩) HBW.out _).drew
 have HS3:Hid (Six w3 w.heap.size who (n+1) t p c (.slice ps ns cs)):=⟨blk_cell hO3 (i:=0) rfl,blk_cell hO3 (i:=1) rfl,blk_cell hO3 (i:=2) rfl,blk_cell hO3 (i:=3) rfl,blk_cell hO3 (i:=4) rfl,blk_cell hO3 (i:=5) rfl⟩
 clear hw3 hh3 hM3 hO3 hoth b0 b1 o0 o1 fo0 fo1 o1' fo1' HM2 HO2 HOT HMK HVS
 have HBB:Hid (∀O,Below w3.heap.size w3 (w3.alloc O).drew):=fun O=>((Below.refl _ w3).alloc (Nat.le_refl _) O).drew
 have HOA:Hid (∀O,(w3.alloc O).drew.ownsRow 0 75 6 (.slice po no co) no (flatO L)):=fun O=>own_below (by have h9:=HMK3.out.row;rw[←HNO.out] at h9;exact h9) (HBB.out O)
 have HEN:Hid (∀O,(w3.alloc O).drew.heap[M]? =some (.cells #[.int .i64 who,.int .i64 (n+1),.slice po no co] 225)):=fun O=>(HMK3.out.below (HBB.out O)).blk
 have q8:=fun O=>blk_cell (HEN.out O) (i:=2) (u:=.slice po no co) rfl
 have q7:∀O,(w3.alloc O).cell? ⟨M,2,none⟩=some (.slice po no co):=q8
 have HDNE:Hid (∀g,(Value.slice po no co).ownBlock=some g→g=M→False):=fun g hg e=>by
  obtain⟨_,cur2,hc⟩:=own_lt HMK3.out.row g hg
  exact blk_ne hc HMK3.out.blk (by decide) e
 have z3:=blk_cell HMK3.out.blk (i:=2) (u:=.slice po no co) rfl
 obtain⟨s0,s1,s2,s3,s4,s5⟩:=HS3.out
 go_wp2_with fail
 go_region_law (
  (refine step_putO (by rfl) (.tmp 25) (.tmp 27) (by rfl) (.slice po no co) no L ((who,n+1),t,p,c,s) ps ns cs (by rfl) w3.heap.size (by rfl) (by omega) (HOA.out _) (heap_alloc_new w3 _) ?_;intro v9 w9 hr9 hg9 hl9;obtain⟨p9,n9,c9,rfl,_⟩:=own_shape hr9;have hbk9:=(blk_grown (HEN.out _) hg9 (fun e=>HDNE.out M e rfl));have q9:=blk_cell hbk9 (i:=2) (u:=.slice po no co) rfl;have fq9:=blk_free hbk9 (i:=2);have HR9:=Hid.mk' hr9;have HG9:=Hid.mk' hg9;have HL9:=Hid.mk' hl9;clear hr9 hg9 hl9 hbk9))
 all_goals
  have HP:=Hid.mk' (mk_put (x:=((who,n+1),t,p,c,s)) HMK3.out (HBB.out _) HVS3.out HG9.out (by have h9:=HR9.out;rw[HNO.out] at h9;exact h9) HL9.out (Nat.le_trans HBW.out HB3.out.size))
  clear HR9 HG9 HL9
  go_wp2_with fail
  go_end0
  exact⟨rfl,_,HP.out.1,HB3.out.trans HP.out.2⟩
end Usp
end Go.Proofs.YtlmdchpbpgcfmaaGreatDoor
/- The reference's maker, told, Maker.insert, Insert. -/
namespace Go.Proofs.YtlmdchpbpgcfmaaGreatDoor
namespace Utp
open Go.ChangeShapes Go.WideShapes Go.ChangeAt Go.RowKit Cm Ka Kb Na Om Oa Oz Oc Og Oi Hm Ia Ib Ic Idc Ie If Ig Ih Ii Ij Ik Il Im Um Ua Ub Uc Ud Ue Uf Iq Aa Ac Xp Usp
open La (bel bel_drew errV_zero errV_ne own_ge own_grow own_below Lies LeafsIn)
open Lj (BookAt BookNew)
open Xt (Parts)
theorem maker_no (E:Nat) (who:Int) (w:World) (hw:who<1∨8<who):Calls Tryz.prog 115 #[.pointer (some ⟨E,0,none⟩),.int .i64 who] w fun e w'=>e=.returned (.tuple #[.pointer none,.bool false])∧w'=w:=by
 rcases hw with h | h
 ·go_enter Tryz.func115,Tryz.ntmps115
  go_wp2
  go_ret2
  exact⟨rfl,rfl⟩
 ·have h2:¬who<1:=by omega
  go_enter Tryz.func115,Tryz.ntmps115
  go_wp2
  go_ret2
  exact⟨rfl,rfl⟩
theorem maker_ok (B:Nat→Prop) (E:Nat) (S:Dq) (F:Nat→Prop) (who:Int) (w:World) (h:RefAt B w E S F) (h1:1≤who) (h8:who≤8):
  Calls Tryz.prog 115 #[.pointer (some ⟨E,0,none⟩),.int .i64 who] w fun e w'=>e=.returned (.tuple #[.pointer (some ⟨w.heap.size,0,none⟩),.bool true])∧MkAt w.heap.size w' w.heap.size who (kn S who) (.slice none 0 0) []∧Below w.heap.size w w':=by
 have hk8:=h.inv.klen
 obtain⟨pb,nb,cb,pm,nm,cm,gk,po,no,co,hp⟩:=Xt.RefAt.parts h
 have c2:=hp.c2 w (Below.refl _ _)
 obtain⟨b,o,e9,hcs⟩:=(hp.known w (Below.refl _ _)).some (by intro e;rw[e] at hk8;simp at hk8)
 injection e9 with e9
 injection e9 with e91 e92
 subst e91 e92
 obtain⟨r,hr⟩:∃r:Nat,who=(r:Int)+1:=⟨(who-1).toNat,by omega⟩
 have hc1:=hcs r (by rw[hk8];omega)
 obtain⟨kk,hkk⟩:∃kk,kk=kn S who:=⟨_,rfl⟩
 have hkv:S.known.getD r 0=kk:=by rw[hkk,hr];unfold kn;rw[show((r:Int)+1-1).toNat=r by omega]
 rw[hkv,Nat.zero_add] at hc1
 rw[←hkk]
 have hr8:(r:Int)<8:=by omega
 clear h hp hcs hkk hkv hk8
 subst hr
 go_enter Tryz.func115,Tryz.ntmps115
 go_wp2_with fail
 go_ret2
 refine⟨rfl,⟨heap_alloc_new w _,World.ownsRow_nil _ _ _ _,fun g hg=>(by cases hg),fun y hy=>(by cases hy),Nat.le_refl _⟩,(Below.refl _ _).alloc (Nat.le_refl _) _⟩
theorem told_no (M:Nat) (k:Int) (w:World) (hk:k≠0):Calls Tryz.prog 116 #[.pointer (some ⟨M,0,none⟩),.int .i64 k] w fun e w'=>e=.returned (.tuple #[.slice none 0 0,.int .i64 k])∧w'=w:=by
 have hb:(k !=0)=true:=by simpa using hk
 clear hk
 go_enter Tryz.func116,Tryz.ntmps116
 go_wp2_with fail
 go_ret2
 exact⟨rfl,rfl⟩
theorem told_ok (B M:Nat) (who n:Int) (v:Value) (L:List (Ox × Value)) (w:World) (h:MkAt B w M who n v L):Calls Tryz.prog 116 #[.pointer (some ⟨M,0,none⟩),.int .i64 0] w fun e w'=>e=.returned (.tuple #[v,.int .i64 0])∧w'=w:=by
 have c2:=blk_cell h.blk (i:=2) (u:=v) rfl
 obtain⟨po,no,co,rfl,_⟩:=own_shape h.row
 clear h
 go_enter Tryz.func116,Tryz.ntmps116
 go_wp2_with fail
 go_ret2
 exact⟨rfl,rfl⟩
/- what the reference's edits answer -/
def RfPost (w:World) (k:Int) (L:List Ox) (e:Ending) (w':World):Prop:=∃v,e=.returned (.tuple #[v,.int .i64 k])∧(k=0→OpsJ (New w.heap.size w') (New w.heap.size w') w' v L)∧(k≠0→v=.slice none 0 0)∧Below w.heap.size w w'
/- what the maker's edits answer -/
def MkPost (B:Nat) (w:World) (M:Nat) (who k:Int) (L:List Ox) (e:Ending) (w':World):Prop:=e=.returned (.int .i64 k)∧(∃n' v' L',MkAt B w' M who n' v' L'∧(k=0→L'.map (·.1)=L))∧Below B w w'
def insLs (a b:ByteArray) (who n:Int) (t:ByteArray) (k:Nat):List Ox:=(List.range k).map (insO a b who n t)
theorem insLs_next (a b:ByteArray) (who n:Int) (t:ByteArray) (k:Nat):insLs a b who n t (k+1)=insLs a b who n t k++[insO a b who n t k]:=by
 unfold insLs;rw[List.range_succ,List.map_append];rfl
def insK (l:List Bm.Leaf) (who off:Int) (t:ByteArray):Int:=if textE t≠0 then textE t else if aroundE l off≠0 then 1 else rowE (leftP l off.toNat) (rightP l off.toNat) who t.size
theorem text_loop (t:ByteArray) (M:Nat) (off:Int) (v:Value) (B:Nat) (who n:Int) (l:List Bm.Leaf) (w:World) (hm:t.size≤maxLen) (h:MkAt B w M who n (.slice none 0 0) []) (hk:textE t≠0):
  Calls Tryz.prog 118 #[.pointer (some ⟨M,0,none⟩),v,.int .i64 off,.string t] w (MkPost B w M who (insK l who off t) []):=by
 have HE:Hid (insK l who off t=textE t):=by unfold Hid insK;rw[if_pos hk]
 have HMK:=z9 h
 have HZ:=z9 hk
 by_cases hs:200<t.size
 ·have hsz:(200:Int)<t.size:=by omega
  have HT:Hid (textE t=4):=by unfold Hid textE;rw[if_pos hs]
  clear h hk
  go_enter Tryz.func118,Tryz.ntmps118
  go_wp2_with fail
  go_ret
  exact⟨by rw[HE.out,HT.out];rfl,⟨_,_,_,HMK.out,fun e=>absurd e (by rw[HE.out];exact HZ.out)⟩,Below.refl _ _⟩
 ·have hsz:¬(200:Int)<t.size:=by omega
  have hs2:t.size≤200:=by omega
  have HT:Hid (okText t=false→textE t=1):=fun e=>by unfold textE;rw[if_neg hs,e];rfl
  have HNO:Hid (okText t=false):=by
   unfold Hid
   cases e:okText t with
   | false=>rfl
   | true=>exact absurd (textE_zero.2 ⟨hs2,e⟩) hk
  clear h hk hs
  go_enter Tryz.func118,Tryz.ntmps118
  go_wp2_with fail
  go_loopw [9] (fun i wr=>∃(k:Nat),k≤t.size∧i=.int .i64 k∧Hid ((t.toList.take k).all (fun c=>Bm.isL (c.toNat:Int))=true)∧Hid (wr=w)) (fun i _=>t.size-(intOf i).toNat)
  case atStart=>exact⟨0,by omega,rfl,rfl,rfl⟩
  case round=>
   obtain⟨k,hk,rfl,HTK,HW⟩:=hrel
   by_cases hlt:k<t.size
   ·have hltz:(k:Int)<t.size:=by omega
    have HY:=z9 (ok_take hlt HTK.out)
    rw[byte_at t k hlt] at HY
    have hx255:((t[k]'hlt).toNat:Int)≤255:=by have:=(t[k]'hlt).toNat_lt;omega
    have CL:=Lp.letter_ref ((t[k]'hlt).toNat:Int) wr
    cases hb:Bm.isL ((t[k]'hlt).toNat:Int) with
    | true=>
     rw[hb] at CL
     have HY2:=z9 (HY.out hb)
     clear HY hb
     go_wp2_with fail
     refine CL.mono ?_
     rintro e w2 ⟨rfl,hw⟩
     have HW2:=z9 (hw.trans HW.out)
     clear hw CL
     go_wp2_with fail
     go_roundw
     case rel=>exact⟨k+1,by omega,by go_num,HY2,HW2⟩
     case measure=>simp[intOf];omega
    | false=>
     rw[hb] at CL
     clear HY hb
     go_wp2_with fail
     refine CL.mono ?_
     rintro e w2 ⟨rfl,hw⟩
     have HW2:=z9 (hw.trans HW.out)
     clear hw CL
     go_wp2_with fail
     go_ret
     rw[HW2.out]
     exact⟨by rw[HE.out,HT.out HNO.out];rfl,⟨_,_,_,HMK.out,fun e=>absurd e (by rw[HE.out];exact HZ.out)⟩,Below.refl _ _⟩
   ·exfalso
    have h9:=HTK.out
    rw[List.take_of_length_le (by rw[Om.len_eq];omega)] at h9
    have h8:=HNO.out
    unfold okText at h8
    rw[h9] at h8;cases h8
end Utp
end Go.Proofs.YtlmdchpbpgcfmaaGreatDoor
/- The reference's Maker.insert where the text is right, and Insert. -/
namespace Go.Proofs.YtlmdchpbpgcfmaaGreatDoor
namespace Uup
open Go.ChangeShapes Go.WideShapes Go.ChangeAt Go.RowKit Cm Ka Kb Na Om Oa Oz Oc Og Oi Hm Ia Ib Ic Idc Ie If Ig Ih Ii Ij Ik Il Im Um Ua Ub Uc Ud Ue Uf Iq Aa Ac Xp Usp Utp
open La (bel bel_drew errV_zero errV_ne own_ge own_grow own_below Lies LeafsIn)
open Lj (BookAt BookNew)
open Xt (Parts)
theorem text_len (l:List Bm.Leaf):(⟨(Bm.text l).toArray⟩:ByteArray).size=(seenP l).length:=by
 rw[seenP_len,←Om.len_eq,toList_mk]
theorem nth_pos {l:List Bm.Leaf} {r:Nat} (h:r<(seenP l).length):∃i:Nat,Bm.nth l 0 (r:Int)=i∧i<l.length∧(l.getD i Bm.none0).1=(seenP l).getD r ⟨#[]⟩∧nxt l (r+1)=i+1:=by
 obtain⟨A,x,B,rfl,hx,hr⟩:=split_seen l r h
 obtain⟨h1,h2,h3⟩:=at_parts (A:=A) (B:=B) hx
 rw[hr] at h1 h3
 refine⟨A.length,h1,by simp,by rw[h2,h3], ?_⟩
 unfold nxt
 rw[if_neg (by omega),show(((r+1:Nat):Int)-1)=(r:Int) by omega,h1];simp
theorem insert_some (t:ByteArray) (M:Nat) (off:Int) (b0 oo0:Nat) (m c:Nat) (B:Nat) (who n:Int) (l:List Bm.Leaf) (w:World) (h:MkAt B w M who n (.slice none 0 0) []) (hk:textE t=0) (hbk:∀W,Below B w W→BookAt W (.slice (some ⟨b0,oo0,none⟩) m c) l) (hb0:Bm.bookE l=0) (h1:1≤who) (h8:who≤8) (hB:B≤w.heap.size) (hn0:0≤n) (hn1:n≤400):
  Calls Tryz.prog 118 #[.pointer (some ⟨M,0,none⟩),.slice (some ⟨b0,oo0,none⟩) m c,.int .i64 off,.string t] w (MkPost B w M who (insK l who off t) (insLs (leftP l off.toNat) (rightP l off.toNat) who n t t.size)):=by
 obtain⟨ht2,hok⟩:=textE_zero.1 hk
 have HMK:=z9 h
 have HBK:Hid (∀W,Below B w W→LeafsIn W (some ⟨b0,oo0,none⟩) l):=fun W hb=>by
  obtain⟨p9,c9,e9,hin,_⟩:=hbk W hb
  injection e9 with e1 e2 e3
  rw[e1];exact hin
 have hml:m=l.length:=by
  obtain⟨p9,c9,e9,hin,_⟩:=hbk w (Below.refl _ _)
  injection e9
 have HML:=z9 hml.symm
 have hl3:=(Bm.bookE_zero.1 hb0).1
 have hm3:m≤300:=by omega
 have HRS:Hid (Bm.Rise l):=(Bm.bookE_zero.1 hb0).2.2
 have CT:Hid (∀W,Below B w W→Calls Tryz.prog 70 #[.slice (some ⟨b0,oo0,none⟩) m c] W fun e w'=>e=.returned (.string ⟨(Bm.text l).toArray⟩)∧Below W.heap.size W w'):=fun W hb=>Mb.text_ref (some ⟨b0,oo0,none⟩) m c l W HML.out (HBK.out W hb) (Lf.book_ok hb0).2.2 (by omega)
 have CN:Hid (∀W f,Below B w W→0≤f→Calls Tryz.prog 157 #[.slice (some ⟨b0,oo0,none⟩) m c,.int .i64 f] W fun e w'=>e=.returned (.int .i64 (Bm.nth l 0 f))∧Below W.heap.size W w'):=fun W f hb hf=>Mb.nth_ref (some ⟨b0,oo0,none⟩) m c l f W HML.out (HBK.out W hb) (by omega) hf
 have HE:Hid (insK l who off t=if aroundE l off≠0 then 1 else rowE (leftP l off.toNat) (rightP l off.toNat) who t.size):=by unfold Hid insK;rw[if_neg (by simpa using hk)]
 have HSM:Hid ((leftP l off.toNat).size≤12∧(rightP l off.toNat).size≤12):=by
  have:=left_small (S:=⟨l,[],[],[]⟩) hb0 off.toNat
  exact⟨this.1,this.2.1⟩
 have HSL:=z9 (text_len l)
 have hsl3:(seenP l).length≤300:=by have:=seenP_le l;omega
 obtain⟨tl,htl⟩:∃tl:ByteArray,tl=⟨(Bm.text l).toArray⟩:=⟨_,rfl⟩
 rw[←htl] at CT HSL
 have htl3:tl.size≤300:=by have:=HSL.out;omega
 have HBW:=z9 hB
 have HNB:Hid (0≤n∧n≤400):=⟨hn0,hn1⟩
 have HOK:Hid (∀k,k<t.size→Bm.isL ((t.toList.getD k 0).toNat:Int)=true):=fun k hk9=>let_at hok hk9
 have hsz:¬(200:Int)<t.size:=by omega
 clear h hbk hb0 hk hml hl3 htl hok hB hn0 hn1
 go_enter Tryz.func118,Tryz.ntmps118
 go_wp2_with fail
 go_loopw [9] (fun i wr=>∃(k:Nat),k≤t.size∧i=.int .i64 k∧Hid (wr=w)) (fun i _=>t.size-(intOf i).toNat)
 case atStart=>exact⟨0,by omega,rfl,rfl⟩
 case round=>
  obtain⟨k,hk,rfl,HW⟩:=hrel
  by_cases hlt:k<t.size
  ·have hltz:(k:Int)<t.size:=by omega
   have hx255:((t[k]'hlt).toNat:Int)≤255:=by have:=(t[k]'hlt).toNat_lt;omega
   have CL:=Lp.letter_ref ((t[k]'hlt).toNat:Int) wr
   have hb:=HOK.out k hlt
   rw[byte_at t k hlt] at hb
   rw[hb] at CL
   clear hb
   go_wp2_with fail
   refine CL.mono ?_
   rintro e w2 ⟨rfl,hw⟩
   have HW2:=z9 (hw.trans HW.out)
   clear hw CL
   go_wp2_with fail
   go_roundw
   case rel=>exact⟨k+1,by omega,by go_num,HW2⟩
   case measure=>simp[intOf];omega
  ·have hltz:¬(k:Int)<t.size:=by omega
   have HBr:Hid (Below B w wr):=by unfold Hid;rw[HW.out];exact Below.refl _ _
   have HMr:Hid (MkAt B wr M who n (.slice none 0 0) []):=by unfold Hid;rw[HW.out];exact HMK.out
   clear HW HMK
   by_cases ha:0≤off∧off≤(seenP l).length
   case neg=>
    have hae:aroundE l off≠0:=fun e=>ha (aroundE_zero.1 e)
    have HE1:Hid (insK l who off t=1):=by unfold Hid;rw[HE.out,if_pos hae]
    have hor:off<0∨(¬off<0∧(tl.size:Int)<off):=by have:=HSL.out;omega
    clear ha hae
    rcases hor with ho | ⟨ho,ho2⟩
    ·go_wp2_with fail
     go_ret
     exact⟨by rw[HE1.out];rfl,⟨_,_,_,HMr.out,fun e=>absurd e (by rw[HE1.out];decide)⟩,HBr.out⟩
    ·go_wp2_with fail
     refine(CT.out wr HBr.out).mono ?_
     rintro e w2 ⟨rfl,hb2⟩
     have HB2:=z9 (HBr.out.trans (hb2.mono (Nat.le_trans HBW.out HBr.out.size)))
     have HM2:=z9 (HMr.out.below hb2)
     clear hb2
     go_wp2_with fail
     go_ret
     exact⟨by rw[HE1.out];rfl,⟨_,_,_,HM2.out,fun e=>absurd e (by rw[HE1.out];decide)⟩,HB2.out⟩
   case pos=>
   obtain⟨ha0,ha1⟩:=ha
   obtain⟨o,rfl⟩:∃o:Nat,off=o:=⟨off.toNat,by omega⟩
   have hos:o≤(seenP l).length:=by omega
   have ho0:¬(o:Int)<0:=by omega
   have ho1:¬(tl.size:Int)<o:=by have:=HSL.out;omega
   have HE0:Hid (insK l who (o:Int) t=rowE (leftP l o) (rightP l o) who t.size):=by
    unfold Hid;rw[HE.out,if_neg (by rw[aroundE_zero.2 ⟨ha0,ha1⟩];simp),Int.toNat_natCast]
   rw[Int.toNat_natCast] at HSM ⊢
   have HX:Hid (∀x,x=nxt l o→x≤m):=fun x hx=>by rw[hx,←HML.out];exact(cut_off hos).le
   have hR1:nxt l o<m→rightP l o=(l.getD (nxt l o) Bm.none0).1:=fun hlt9=>by unfold rightP;rw[HML.out,if_pos hlt9]
   have hR2:¬nxt l o<m→rightP l o=⟨#[]⟩:=fun hlt9=>by unfold rightP;rw[HML.out,if_neg hlt9]
   obtain⟨x,hx⟩:∃x,x=nxt l o:=⟨_,rfl⟩
   rw[←hx] at hR1 hR2
   obtain⟨R,hRR⟩:∃R,R=rightP l o:=⟨_,rfl⟩
   have HRPE:=z9 hRR
   rw[←hRR] at hR1 hR2 HE0 HSM ⊢
   have HR1:=z9 hR1
   have HR2:=z9 hR2
   have hxm:x≤m:=HX.out x hx
   have HPLACE:Hid (∀W i,Below B w W→i<m→W.cell? ⟨b0,oo0+i*3,none⟩=some (.string (l.getD i Bm.none0).1)):=fun W i hb hi=>by
    obtain⟨b,oo,e,hc⟩:=(HBK.out W hb).some (by intro e;have:=HML.out;rw[e] at this;simp at this;omega)
    injection e with e
    injection e with e1 e2
    rw[e1,e2]
    exact(hc i (by rw[HML.out];exact hi)).1
   clear hR1 hR2 HE hRR HX
   go_wp2_with fail
   refine(CT.out wr HBr.out).mono ?_
   rintro e w2 ⟨rfl,hb2⟩
   have HB2:=z9 (HBr.out.trans (hb2.mono (Nat.le_trans HBW.out HBr.out.size)))
   have HM2:=z9 (HMr.out.below hb2)
   clear hb2 HBr HMr CT
   obtain⟨Lp,hLp⟩:∃Lp,Lp=leftP l o:=⟨_,rfl⟩
   rw[←hLp] at HE0 HSM ⊢
   have HL0:Hid (o=0→Lp=⟨#[]⟩∧x=0):=fun e=>by rw[hLp,hx];unfold leftP nxt;rw[if_pos e,if_pos e];exact⟨rfl,rfl⟩
   have HL1:Hid (0<o→∃i:Nat,Bm.nth l 0 ((o:Int)-1)=i∧i<m∧(l.getD i Bm.none0).1=Lp∧x=i+1):=fun e=>by
    obtain⟨i,e1,e2,e3,e4⟩:=nth_pos (l:=l) (r:=o-1) (by omega)
    rw[show(((o-1:Nat):Int))=(o:Int)-1 by omega] at e1
    rw[show o-1+1=o by omega] at e4
    exact⟨i,e1,by rw[←HML.out];exact e2,by rw[e3,hLp];exact(left_at e).symm,by rw[hx];exact e4⟩
   have HLPE:=z9 hLp
   clear hLp hx
   go_upto_if 43 with fail
   go_cut [11,12] from 17 to 54 (fun s11 s12 wx=>s11=.int .i64 x∧s12=.string Lp∧Hid (Below w2.heap.size w2 wx))
   case first=>
    by_cases h0:o=0
    ·obtain⟨e1,e2⟩:=HL0.out h0
     subst e1 e2 h0
     go_wp2_with fail
     go_meet
     case rel=>exact⟨rfl,rfl,Below.refl _ _⟩
    ·have h0p:0<o:=by omega
     have h0z:(0:Int)<o:=by omega
     obtain⟨i,e1,e2,e3,e4⟩:=HL1.out h0p
     have CN2:=CN.out w2 ((o:Int)-1) HB2.out (by omega)
     rw[e1] at CN2
     have hi3:(i:Int)≤300:=by omega
     have himz:(i:Int)<m:=by omega
     have HIX:=z9 e4
     have HIP:=z9 e3
     clear e1 e3 e4 HL0 HL1
     go_wp2_with fail
     refine CN2.mono ?_
     rintro e w3 ⟨rfl,hb3⟩
     have HB3:=z9 hb3
     have hcell:=HPLACE.out w3 i (HB2.out.trans (hb3.mono (Nat.le_trans HBW.out HB2.out.size))) e2
     rw[HIP.out] at hcell
     clear CN2 hb3
     go_wp2_with fail
     go_meet
     case rel=>exact⟨by rw[HIX.out];go_num,rfl,HB3⟩
   case rest=>
   obtain⟨rfl,rfl,HB3⟩:=hcut
   have HB3w:=z9 (HB2.out.trans (HB3.out.mono (Nat.le_trans HBW.out HB2.out.size)))
   have HM3:=z9 (HM2.out.below HB3.out)
   obtain⟨w3,hw3⟩:∃w3,w3=wc:=⟨_,rfl⟩
   have HBW3:Hid (Below B w w3):=by unfold Hid;rw[hw3];exact HB3w.out
   have HMW3:Hid (MkAt B w3 M who n (.slice none 0 0) []):=by unfold Hid;rw[hw3];exact HM3.out
   clear HB3 HB2 HM2 HL0 HL1
   go_upto_if 58 with fail
   go_cut [13] from 17 to 63 (fun s13 wx=>s13=.string R∧w3=wx)
   case first=>
    by_cases hxm2:x<m
    ·have hxz:(x:Int)<m:=by omega
     have hcell:=HPLACE.out wc x HB3w.out hxm2
     rw[←HR1.out hxm2] at hcell
     go_wp2_with fail
     go_meet
     case rel=>exact⟨rfl,hw3⟩
    ·have hxz:¬(x:Int)<m:=by omega
     have e9:=HR2.out hxm2
     subst e9
     go_wp2_with fail
     go_meet
     case rel=>exact⟨rfl,hw3⟩
   case rest=>
   obtain⟨rfl,hw9⟩:=hcut
   rw[←hw9]
   clear hw9 hw3 HB3w HM3 HPLACE CN HBK
   go_wp2_with fail
   go_loopw [12,14] (fun vl vi wr=>∃(j:Nat) (v:Value) (L:List (Ox × Value)),j≤t.size∧vi=.int .i64 j∧vl=.string (nthP Lp R who j)∧Hid (rowE Lp R who j=0)∧Hid (MkAt B wr M who (n+j) v L)∧Hid (L.map (·.1)=insLs Lp R who n t j)∧Hid (Below B w wr)) (fun _ vi _=>t.size-(intOf vi).toNat)
   case atStart=>exact⟨0,.slice none 0 0,[],by omega,rfl,rfl,rfl,by have h9:=HMW3.out;rw[show n+((0:Nat):Int)=n by omega];exact h9,rfl,HBW3⟩
   case round=>
    clear HMW3 HBW3
    obtain⟨j,v,L,hj,rfl,rfl,HR,HMj,HLj,HBj⟩:=hrel
    by_cases hjt:j<t.size
    ·have hjz:(j:Int)<t.size:=by omega
     have c0:=blk_cell HMj.out.blk (i:=0) (u:=.int .i64 who) rfl
     have hLl:L.length=j:=by have h9:=congrArg List.length HLj.out;rw[List.length_map] at h9;rw[h9];unfold insLs;simp
     have HLL:Hid (L.length≤1000):=by unfold Hid;omega
     have hx255:((t[j]'hjt).toNat:Int)≤255:=by have:=(t[j]'hjt).toNat_lt;omega
     have CB:=Qi.between_ref (nthP Lp R who j) R who wr (by have:=nth_small HR.out HSM.out.1 j (Nat.le_refl _);unfold maxLen;omega) (by have:=HSM.out.2;unfold maxLen;omega) h1 h8 (nthP Lp R who (j+1)) rfl (rowE Lp R who (j+1)) (row_go HR.out).symm
     obtain⟨p2,hp2⟩:∃p2,p2=nthP Lp R who (j+1):=⟨_,rfl⟩
     rw[←hp2] at CB
     have HP2:=z9 hp2
     have HIO:Hid (insO Lp R who n t j=((who,n+j+1),1,p2,((t[j]'hjt).toNat:Int),[])):=by
      unfold Hid insO;rw[byte_at t j hjt,hp2,show n+1+(j:Int)=n+j+1 by omega]
     clear hp2 hLl
     by_cases hz:rowE Lp R who (j+1)=0
     ·have HR2:=z9 hz
      rw[hz] at CB
      clear hz
      go_wp2_with fail
      refine CB.mono ?_
      rintro e w4 ⟨rfl,hb4⟩
      have HB4:=z9 (HBj.out.trans (hb4.mono (Nat.le_trans HBW.out HBj.out.size)))
      have CA:=add_ref B M who (n+j) v L 1 p2 ((t[j]'hjt).toNat:Int) (.slice none 0 0) [] w4 (HMj.out.below hb4) (World.ownsRow_nil _ _ _ _) (Nat.le_trans HBW.out HB4.out.size) (by have:=HNB.out.1;omega) (by have:=HNB.out.2;omega) HLL.out
      clear CB hb4 c0
      go_wp2_with fail
      refine CA.mono ?_
      rintro e w5 ⟨rfl,v5,hm5,hb5⟩
      have HB5:=z9 (HB4.out.trans hb5)
      have HM5:Hid (MkAt B w5 M who (n+((j+1:Nat):Int)) v5 (L++[(((who,n+j+1),1,p2,((t[j]'hjt).toNat:Int),[]),.slice none 0 0)])):=by
       unfold Hid;rw[show n+((j+1:Nat):Int)=n+j+1 by omega];exact hm5
      have HL5:Hid ((L++[(((who,n+j+1),1,p2,((t[j]'hjt).toNat:Int),[]),(.slice none 0 0:Value))]:List (Ox × Value)).map (fun y:Ox × Value=>y.1)=insLs Lp R who n t (j+1)):=by
       unfold Hid;rw[List.map_append,HLj.out,insLs_next,HIO.out];rfl
      clear CA hm5 hb5
      go_wp2_with fail
      go_roundw
      case rel=>exact⟨j+1,v5,_,by omega,by go_num,by rw[HP2.out],HR2,HM5,HL5,HB5⟩
      case measure=>simp[intOf];omega
     ·have HE2:Hid (insK l who (o:Int) t=rowE Lp R who (j+1)):=by unfold Hid;rw[HE0.out];exact row_stop hz _ (by omega)
      have HZ:=z9 hz
      obtain⟨ez,hez⟩:∃ez,ez=rowE Lp R who (j+1):=⟨_,rfl⟩
      rw[←hez] at CB HE2 HZ
      have hzb:(ez !=0)=true:=by have:=HZ.out;simpa using this
      clear hz hez
      go_wp2_with fail
      refine CB.mono ?_
      rintro e w4 ⟨rfl,hb4⟩
      have HB4:=z9 (HBj.out.trans (hb4.mono (Nat.le_trans HBW.out HBj.out.size)))
      have HM4:=z9 (HMj.out.below hb4)
      clear CB hb4 c0
      go_wp2_with fail
      go_ret
      exact⟨by rw[HE2.out];rfl,⟨_,_,_,HM4.out,fun e=>absurd e (by rw[HE2.out];exact HZ.out)⟩,HB4.out⟩
    ·have hje:j=t.size:=by omega
     have hjz:¬(j:Int)<t.size:=by omega
     have HE2:Hid (insK l who (o:Int) t=0):=by unfold Hid;rw[HE0.out,←hje];exact HR.out
     have HLE:Hid (L.map (·.1)=insLs Lp R who n t t.size):=by unfold Hid;rw[←hje];exact HLj.out
     clear hje
     go_wp2_with fail
     go_ret
     exact⟨by rw[HE2.out];rfl,⟨_,_,_,HMj.out,fun _=>by rw[←HLPE.out,←HRPE.out];exact HLE.out⟩,HBj.out⟩
theorem insert_none (t:ByteArray) (M:Nat) (off:Int) (q:Option Addr) (m c:Nat) (B:Nat) (who n:Int) (l:List Bm.Leaf) (w:World) (h:MkAt B w M who n (.slice none 0 0) []) (hk:textE t=0) (hbk:∀W,Below B w W→BookAt W (.slice q m c) l) (hb0:Bm.bookE l=0) (h1:1≤who) (h8:who≤8) (hB:B≤w.heap.size) (hn0:0≤n) (hn1:n≤400) (hm0:m=0):
  Calls Tryz.prog 118 #[.pointer (some ⟨M,0,none⟩),.slice q m c,.int .i64 off,.string t] w (MkPost B w M who (insK l who off t) (insLs (leftP l off.toNat) (rightP l off.toNat) who n t t.size)):=by
 obtain⟨ht2,hok⟩:=textE_zero.1 hk
 have HMK:=z9 h
 have HBK:Hid (∀W,Below B w W→LeafsIn W q l):=fun W hb=>by
  obtain⟨p9,c9,e9,hin,_⟩:=hbk W hb
  injection e9 with e1 e2 e3
  rw[e1];exact hin
 have hml:m=l.length:=by
  obtain⟨p9,c9,e9,hin,_⟩:=hbk w (Below.refl _ _)
  injection e9
 have HML:=z9 hml.symm
 have HM0:=z9 hm0
 have hl3:=(Bm.bookE_zero.1 hb0).1
 have hm3:m≤300:=by omega
 have HRS:Hid (Bm.Rise l):=(Bm.bookE_zero.1 hb0).2.2
 have CT:Hid (∀W,Below B w W→Calls Tryz.prog 70 #[.slice q m c] W fun e w'=>e=.returned (.string ⟨(Bm.text l).toArray⟩)∧Below W.heap.size W w'):=fun W hb=>Mb.text_ref q m c l W HML.out (HBK.out W hb) (Lf.book_ok hb0).2.2 (by omega)
 have CN:Hid (∀W f,Below B w W→0≤f→Calls Tryz.prog 157 #[.slice q m c,.int .i64 f] W fun e w'=>e=.returned (.int .i64 (Bm.nth l 0 f))∧Below W.heap.size W w'):=fun W f hb hf=>Mb.nth_ref q m c l f W HML.out (HBK.out W hb) (by omega) hf
 have HE:Hid (insK l who off t=if aroundE l off≠0 then 1 else rowE (leftP l off.toNat) (rightP l off.toNat) who t.size):=by unfold Hid insK;rw[if_neg (by simpa using hk)]
 have HSM:Hid ((leftP l off.toNat).size≤12∧(rightP l off.toNat).size≤12):=by
  have:=left_small (S:=⟨l,[],[],[]⟩) hb0 off.toNat
  exact⟨this.1,this.2.1⟩
 have HSL:=z9 (text_len l)
 have hsl3:(seenP l).length≤300:=by have:=seenP_le l;omega
 obtain⟨tl,htl⟩:∃tl:ByteArray,tl=⟨(Bm.text l).toArray⟩:=⟨_,rfl⟩
 rw[←htl] at CT HSL
 have htl3:tl.size≤300:=by have:=HSL.out;omega
 have HBW:=z9 hB
 have HNB:Hid (0≤n∧n≤400):=⟨hn0,hn1⟩
 have HOK:Hid (∀k,k<t.size→Bm.isL ((t.toList.getD k 0).toNat:Int)=true):=fun k hk9=>let_at hok hk9
 have hsz:¬(200:Int)<t.size:=by omega
 clear hm0 h hbk hb0 hk hml hl3 htl hok hB hn0 hn1
 go_enter Tryz.func118,Tryz.ntmps118
 go_wp2_with fail
 go_loopw [9] (fun i wr=>∃(k:Nat),k≤t.size∧i=.int .i64 k∧Hid (wr=w)) (fun i _=>t.size-(intOf i).toNat)
 case atStart=>exact⟨0,by omega,rfl,rfl⟩
 case round=>
  obtain⟨k,hk,rfl,HW⟩:=hrel
  by_cases hlt:k<t.size
  ·have hltz:(k:Int)<t.size:=by omega
   have hx255:((t[k]'hlt).toNat:Int)≤255:=by have:=(t[k]'hlt).toNat_lt;omega
   have CL:=Lp.letter_ref ((t[k]'hlt).toNat:Int) wr
   have hb:=HOK.out k hlt
   rw[byte_at t k hlt] at hb
   rw[hb] at CL
   clear hb
   go_wp2_with fail
   refine CL.mono ?_
   rintro e w2 ⟨rfl,hw⟩
   have HW2:=z9 (hw.trans HW.out)
   clear hw CL
   go_wp2_with fail
   go_roundw
   case rel=>exact⟨k+1,by omega,by go_num,HW2⟩
   case measure=>simp[intOf];omega
  ·have hltz:¬(k:Int)<t.size:=by omega
   have HBr:Hid (Below B w wr):=by unfold Hid;rw[HW.out];exact Below.refl _ _
   have HMr:Hid (MkAt B wr M who n (.slice none 0 0) []):=by unfold Hid;rw[HW.out];exact HMK.out
   clear HW HMK
   by_cases ha:0≤off∧off≤(seenP l).length
   case neg=>
    have hae:aroundE l off≠0:=fun e=>ha (aroundE_zero.1 e)
    have HE1:Hid (insK l who off t=1):=by unfold Hid;rw[HE.out,if_pos hae]
    have hor:off<0∨(¬off<0∧(tl.size:Int)<off):=by have:=HSL.out;omega
    clear ha hae
    rcases hor with ho | ⟨ho,ho2⟩
    ·go_wp2_with fail
     go_ret
     exact⟨by rw[HE1.out];rfl,⟨_,_,_,HMr.out,fun e=>absurd e (by rw[HE1.out];decide)⟩,HBr.out⟩
    ·go_wp2_with fail
     refine(CT.out wr HBr.out).mono ?_
     rintro e w2 ⟨rfl,hb2⟩
     have HB2:=z9 (HBr.out.trans (hb2.mono (Nat.le_trans HBW.out HBr.out.size)))
     have HM2:=z9 (HMr.out.below hb2)
     clear hb2
     go_wp2_with fail
     go_ret
     exact⟨by rw[HE1.out];rfl,⟨_,_,_,HM2.out,fun e=>absurd e (by rw[HE1.out];decide)⟩,HB2.out⟩
   case pos=>
   obtain⟨ha0,ha1⟩:=ha
   obtain⟨o,rfl⟩:∃o:Nat,off=o:=⟨off.toNat,by omega⟩
   have hos:o≤(seenP l).length:=by omega
   have ho0:¬(o:Int)<0:=by omega
   have ho1:¬(tl.size:Int)<o:=by have:=HSL.out;omega
   have HE0:Hid (insK l who (o:Int) t=rowE (leftP l o) (rightP l o) who t.size):=by
    unfold Hid;rw[HE.out,if_neg (by rw[aroundE_zero.2 ⟨ha0,ha1⟩];simp),Int.toNat_natCast]
   rw[Int.toNat_natCast] at HSM ⊢
   have HX:Hid (∀x,x=nxt l o→x≤m):=fun x hx=>by rw[hx,←HML.out];exact(cut_off hos).le
   have hR1:nxt l o<m→rightP l o=(l.getD (nxt l o) Bm.none0).1:=fun hlt9=>by unfold rightP;rw[HML.out,if_pos hlt9]
   have hR2:¬nxt l o<m→rightP l o=⟨#[]⟩:=fun hlt9=>by unfold rightP;rw[HML.out,if_neg hlt9]
   obtain⟨x,hx⟩:∃x,x=nxt l o:=⟨_,rfl⟩
   rw[←hx] at hR1 hR2
   obtain⟨R,hRR⟩:∃R,R=rightP l o:=⟨_,rfl⟩
   have HRPE:=z9 hRR
   rw[←hRR] at hR1 hR2 HE0 HSM ⊢
   have HR1:=z9 hR1
   have HR2:=z9 hR2
   have hxm:x≤m:=HX.out x hx
   clear hR1 hR2 HE hRR HX
   go_wp2_with fail
   refine(CT.out wr HBr.out).mono ?_
   rintro e w2 ⟨rfl,hb2⟩
   have HB2:=z9 (HBr.out.trans (hb2.mono (Nat.le_trans HBW.out HBr.out.size)))
   have HM2:=z9 (HMr.out.below hb2)
   clear hb2 HBr HMr CT
   obtain⟨Lp,hLp⟩:∃Lp,Lp=leftP l o:=⟨_,rfl⟩
   rw[←hLp] at HE0 HSM ⊢
   have HL0:Hid (o=0→Lp=⟨#[]⟩∧x=0):=fun e=>by rw[hLp,hx];unfold leftP nxt;rw[if_pos e,if_pos e];exact⟨rfl,rfl⟩
   have HL1:Hid (0<o→∃i:Nat,Bm.nth l 0 ((o:Int)-1)=i∧i<m∧(l.getD i Bm.none0).1=Lp∧x=i+1):=fun e=>by
    obtain⟨i,e1,e2,e3,e4⟩:=nth_pos (l:=l) (r:=o-1) (by omega)
    rw[show(((o-1:Nat):Int))=(o:Int)-1 by omega] at e1
    rw[show o-1+1=o by omega] at e4
    exact⟨i,e1,by rw[←HML.out];exact e2,by rw[e3,hLp];exact(left_at e).symm,by rw[hx];exact e4⟩
   have HLPE:=z9 hLp
   clear hLp hx
   go_upto_if 43 with fail
   go_cut [11,12] from 17 to 54 (fun s11 s12 wx=>s11=.int .i64 x∧s12=.string Lp∧Hid (Below w2.heap.size w2 wx))
   case first=>
    by_cases h0:o=0
    ·obtain⟨e1,e2⟩:=HL0.out h0
     subst e1 e2 h0
     go_wp2_with fail
     go_meet
     case rel=>exact⟨rfl,rfl,Below.refl _ _⟩
    ·have h0p:0<o:=by omega
     have h0z:(0:Int)<o:=by omega
     obtain⟨i,e1,e2,e3,e4⟩:=HL1.out h0p
     exfalso
     have:=HM0.out
     omega
   case rest=>
   obtain⟨rfl,rfl,HB3⟩:=hcut
   have HB3w:=z9 (HB2.out.trans (HB3.out.mono (Nat.le_trans HBW.out HB2.out.size)))
   have HM3:=z9 (HM2.out.below HB3.out)
   obtain⟨w3,hw3⟩:∃w3,w3=wc:=⟨_,rfl⟩
   have HBW3:Hid (Below B w w3):=by unfold Hid;rw[hw3];exact HB3w.out
   have HMW3:Hid (MkAt B w3 M who n (.slice none 0 0) []):=by unfold Hid;rw[hw3];exact HM3.out
   clear HB3 HB2 HM2 HL0 HL1
   go_upto_if 58 with fail
   go_cut [13] from 17 to 63 (fun s13 wx=>s13=.string R∧w3=wx)
   case first=>
    by_cases hxm2:x<m
    ·have hxz:(x:Int)<m:=by omega
     exfalso
     have:=HM0.out
     omega
    ·have hxz:¬(x:Int)<m:=by omega
     have e9:=HR2.out hxm2
     subst e9
     go_wp2_with fail
     go_meet
     case rel=>exact⟨rfl,hw3⟩
   case rest=>
   obtain⟨rfl,hw9⟩:=hcut
   rw[←hw9]
   clear hw9 hw3 HB3w HM3 CN HBK
   go_wp2_with fail
   go_loopw [12,14] (fun vl vi wr=>∃(j:Nat) (v:Value) (L:List (Ox × Value)),j≤t.size∧vi=.int .i64 j∧vl=.string (nthP Lp R who j)∧Hid (rowE Lp R who j=0)∧Hid (MkAt B wr M who (n+j) v L)∧Hid (L.map (·.1)=insLs Lp R who n t j)∧Hid (Below B w wr)) (fun _ vi _=>t.size-(intOf vi).toNat)
   case atStart=>exact⟨0,.slice none 0 0,[],by omega,rfl,rfl,rfl,by have h9:=HMW3.out;rw[show n+((0:Nat):Int)=n by omega];exact h9,rfl,HBW3⟩
   case round=>
    clear HMW3 HBW3
    obtain⟨j,v,L,hj,rfl,rfl,HR,HMj,HLj,HBj⟩:=hrel
    by_cases hjt:j<t.size
    ·have hjz:(j:Int)<t.size:=by omega
     have c0:=blk_cell HMj.out.blk (i:=0) (u:=.int .i64 who) rfl
     have hLl:L.length=j:=by have h9:=congrArg List.length HLj.out;rw[List.length_map] at h9;rw[h9];unfold insLs;simp
     have HLL:Hid (L.length≤1000):=by unfold Hid;omega
     have hx255:((t[j]'hjt).toNat:Int)≤255:=by have:=(t[j]'hjt).toNat_lt;omega
     have CB:=Qi.between_ref (nthP Lp R who j) R who wr (by have:=nth_small HR.out HSM.out.1 j (Nat.le_refl _);unfold maxLen;omega) (by have:=HSM.out.2;unfold maxLen;omega) h1 h8 (nthP Lp R who (j+1)) rfl (rowE Lp R who (j+1)) (row_go HR.out).symm
     obtain⟨p2,hp2⟩:∃p2,p2=nthP Lp R who (j+1):=⟨_,rfl⟩
     rw[←hp2] at CB
     have HP2:=z9 hp2
     have HIO:Hid (insO Lp R who n t j=((who,n+j+1),1,p2,((t[j]'hjt).toNat:Int),[])):=by
      unfold Hid insO;rw[byte_at t j hjt,hp2,show n+1+(j:Int)=n+j+1 by omega]
     clear hp2 hLl
     by_cases hz:rowE Lp R who (j+1)=0
     ·have HR2:=z9 hz
      rw[hz] at CB
      clear hz
      go_wp2_with fail
      refine CB.mono ?_
      rintro e w4 ⟨rfl,hb4⟩
      have HB4:=z9 (HBj.out.trans (hb4.mono (Nat.le_trans HBW.out HBj.out.size)))
      have CA:=add_ref B M who (n+j) v L 1 p2 ((t[j]'hjt).toNat:Int) (.slice none 0 0) [] w4 (HMj.out.below hb4) (World.ownsRow_nil _ _ _ _) (Nat.le_trans HBW.out HB4.out.size) (by have:=HNB.out.1;omega) (by have:=HNB.out.2;omega) HLL.out
      clear CB hb4 c0
      go_wp2_with fail
      refine CA.mono ?_
      rintro e w5 ⟨rfl,v5,hm5,hb5⟩
      have HB5:=z9 (HB4.out.trans hb5)
      have HM5:Hid (MkAt B w5 M who (n+((j+1:Nat):Int)) v5 (L++[(((who,n+j+1),1,p2,((t[j]'hjt).toNat:Int),[]),.slice none 0 0)])):=by
       unfold Hid;rw[show n+((j+1:Nat):Int)=n+j+1 by omega];exact hm5
      have HL5:Hid ((L++[(((who,n+j+1),1,p2,((t[j]'hjt).toNat:Int),[]),(.slice none 0 0:Value))]:List (Ox × Value)).map (fun y:Ox × Value=>y.1)=insLs Lp R who n t (j+1)):=by
       unfold Hid;rw[List.map_append,HLj.out,insLs_next,HIO.out];rfl
      clear CA hm5 hb5
      go_wp2_with fail
      go_roundw
      case rel=>exact⟨j+1,v5,_,by omega,by go_num,by rw[HP2.out],HR2,HM5,HL5,HB5⟩
      case measure=>simp[intOf];omega
     ·have HE2:Hid (insK l who (o:Int) t=rowE Lp R who (j+1)):=by unfold Hid;rw[HE0.out];exact row_stop hz _ (by omega)
      have HZ:=z9 hz
      obtain⟨ez,hez⟩:∃ez,ez=rowE Lp R who (j+1):=⟨_,rfl⟩
      rw[←hez] at CB HE2 HZ
      have hzb:(ez !=0)=true:=by have:=HZ.out;simpa using this
      clear hz hez
      go_wp2_with fail
      refine CB.mono ?_
      rintro e w4 ⟨rfl,hb4⟩
      have HB4:=z9 (HBj.out.trans (hb4.mono (Nat.le_trans HBW.out HBj.out.size)))
      have HM4:=z9 (HMj.out.below hb4)
      clear CB hb4 c0
      go_wp2_with fail
      go_ret
      exact⟨by rw[HE2.out];rfl,⟨_,_,_,HM4.out,fun e=>absurd e (by rw[HE2.out];exact HZ.out)⟩,HB4.out⟩
    ·have hje:j=t.size:=by omega
     have hjz:¬(j:Int)<t.size:=by omega
     have HE2:Hid (insK l who (o:Int) t=0):=by unfold Hid;rw[HE0.out,←hje];exact HR.out
     have HLE:Hid (L.map (·.1)=insLs Lp R who n t t.size):=by unfold Hid;rw[←hje];exact HLj.out
     clear hje
     go_wp2_with fail
     go_ret
     exact⟨by rw[HE2.out];rfl,⟨_,_,_,HMj.out,fun _=>by rw[←HLPE.out,←HRPE.out];exact HLE.out⟩,HBj.out⟩
end Uup
end Go.Proofs.YtlmdchpbpgcfmaaGreatDoor
