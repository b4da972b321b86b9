import Derived.Test.YtlmdchpbpgcfmaaGreatDoorJ10
import Derived.OwnWalk
import Derived.Deep.RegionLaw
set_option linter.unusedVariables false
set_option maxRecDepth 100000
set_option maxHeartbeats 8000000
/- What copyOp answers: an op whose list of dots is its own. -/
namespace Go.Proofs.YtlmdchpbpgcfmaaGreatDoor
namespace If
open Go.ChangeShapes Go.WideShapes Go.ChangeAt Go.RowKit Cm Ka Kb Na Om Oa Oz Oc Og Oi Hm Ia Ib Ic Idc Ie
open La (bel bel_drew errV_zero errV_ne own_ge own_grow own_below Lies)
theorem dots_flat {w:World} {b o:Nat} {s:List Dt} (h:∀j,j<s.length→DAt w b o j (s.getD j noneD)):∀i u,(flatD s)[i]? =some u→w.cell? ⟨b,o+i,none⟩=some u:=by
 intro i u hu
 have hi:i<(flatD s).length:=(List.getElem?_eq_some_iff.1 hu).1
 rw[flatD_length] at hi
 obtain⟨q,r,hr,e⟩:∃q r,r<2∧i=q*2+r:=⟨i/2,i%2,by omega,by omega⟩
 have hq:q<s.length:=by omega
 obtain⟨f1,f2⟩:=flatD_at hq
 obtain⟨g1,g2⟩:=h q hq
 have h2:r=0∨r=1:=by omega
 rcases h2 with rfl | rfl
 ·rw[Nat.add_zero] at e
  subst e
  rw[f1] at hu;injection hu with hu;rw[←hu];exact g1
 ·subst e
  rw[f2] at hu;injection hu with hu;rw[←hu,←Nat.add_assoc];exact g2
theorem load_op {W:World} {g:Nat} {x0 x1 x2 x4:Int} {x3:ByteArray} {x5:Value} (h:W.heap[g]? =some (.cells #[.int .i64 x0,.int .i64 x1,.int .i64 x2,.string x3,.int .i64 x4,x5] 75)):
  (loadVar 75 ⟨g,0,none⟩).run Tryz.prog W=.ok (.agg #[.int .i64 x0,.int .i64 x1,.int .i64 x2,.string x3,.int .i64 x4,x5]) W:=by
 have c0:=blk_cell h (i:=0) (u:=.int .i64 x0) rfl
 have c1:=blk_cell h (i:=1) (u:=.int .i64 x1) rfl
 have c2:=blk_cell h (i:=2) (u:=.int .i64 x2) rfl
 have c3:=blk_cell h (i:=3) (u:=.string x3) rfl
 have c4:=blk_cell h (i:=4) (u:=.int .i64 x4) rfl
 have c5:=blk_cell h (i:=5) (u:=x5) rfl
 have u1:=Tryz.isAgg75
 have u2:=Tryz.sizeOf75
 go_simp
def opW (w:World) (a b t:Int) (p:ByteArray) (c:Int) (vs:Value):World:=(w.alloc (.cells #[.int .i64 a,.int .i64 b,.int .i64 t,.string p,.int .i64 c,vs] 75)).alloc (.cells #[.int .i64 0,.int .i64 0,.int .i64 0,.string ⟨#[]⟩,.int .i64 0,.slice none 0 0] 75)
theorem opW_facts (w:World) (a b t:Int) (p:ByteArray) (c:Int) (vs:Value):(opW w a b t p c vs).heap[w.heap.size]? =some (.cells #[.int .i64 a,.int .i64 b,.int .i64 t,.string p,.int .i64 c,vs] 75)∧(opW w a b t p c vs).heap[w.heap.size+1]? =some (.cells #[.int .i64 0,.int .i64 0,.int .i64 0,.string ⟨#[]⟩,.int .i64 0,.slice none 0 0] 75)∧Below w.heap.size w (opW w a b t p c vs)∧(opW w a b t p c vs).heap.size=w.heap.size+2:=by
 unfold opW
 refine⟨?_, ?_,((Below.refl _ w).alloc (Nat.le_refl _) _).alloc (by simp) _,by simp⟩
 ·have:=heap_alloc_old (w.alloc (.cells #[.int .i64 a,.int .i64 b,.int .i64 t,.string p,.int .i64 c,vs] 75)) (.cells #[.int .i64 0,.int .i64 0,.int .i64 0,.string ⟨#[]⟩,.int .i64 0,.slice none 0 0] 75) (show w.heap.size<_ by simp)
  exact this.trans (heap_alloc_new w _)
 ·have:=heap_alloc_new (w.alloc (.cells #[.int .i64 a,.int .i64 b,.int .i64 t,.string p,.int .i64 c,vs] 75)) (.cells #[.int .i64 0,.int .i64 0,.int .i64 0,.string ⟨#[]⟩,.int .i64 0,.slice none 0 0] 75)
  rwa [show(w.alloc (.cells #[.int .i64 a,.int .i64 b,.int .i64 t,.string p,.int .i64 c,vs] 75)).heap.size=w.heap.size+1 by simp] at this
theorem copy_some (a b t:Int) (p:ByteArray) (c:Int) (ad:Addr) (n cc:Nat) (s:List Dt) (w:World) (h:DtsAt w (.slice (some ad) n cc) s) (hs:s.length≤1048576):
  Calls Tryz.prog 68 #[.agg #[.int .i64 a,.int .i64 b,.int .i64 t,.string p,.int .i64 c,.slice (some ad) n cc]] w fun e w'=>∃v',e=.returned (.agg #[.int .i64 a,.int .i64 b,.int .i64 t,.string p,.int .i64 c,v'])∧w'.ownsRow w.heap.size 72 2 v' s.length (flatD s)∧Below w.heap.size w w':=by
 obtain⟨i0,hi,hz0,hz1,hz2⟩:=info_parts Oi.infoD
 obtain⟨q0,q1,qb,qz⟩:=opW_facts w a b t p c (.slice (some ad) n cc)
 have hd:=h.below qb
 obtain⟨q,c2,hv,hin,hc1,hc2,hc3⟩:=hd
 injection hv with e1 e2 e3
 subst e1 e3
 have hn:s.length=n:=e2.symm
 have HCE:Hid (∀j u,(flatD s)[j]? =some u→(opW w a b t p c (.slice (some ad) n cc)).cell? (ad.add j)=some u):=by
  intro j u hu
  rcases hin with e0 | ⟨bb,oo,hp,hcs⟩
  ·rw[e0] at hu;simp[flatD] at hu
  ·injection hp with hp
   have ha:ad.add j=⟨bb,oo+j,none⟩:=by rw[hp,Addr.add_lit]
   rw[ha]
   exact dots_flat hcs j u hu
 have HN:=z9 hn
 have HFL:Hid ((flatD s).length=n*2):=by unfold Hid;rw[flatD_length,hn]
 have hnn:n≤1048576:=by omega
 have HQ:=z9 qb
 have HQ0:Hid ((opW w a b t p c (.slice (some ad) n cc)).heap[w.heap.size]? =some (.cells #[.int .i64 a,.int .i64 b,.int .i64 t,.string p,.int .i64 c,(.slice (some ad) n cc)] 75)∧(opW w a b t p c (.slice (some ad) n cc)).heap[w.heap.size+1]? =some (.cells #[.int .i64 0,.int .i64 0,.int .i64 0,.string ⟨#[]⟩,.int .i64 0,.slice none 0 0] 75)):=⟨q0,q1⟩
 have HQZ:=z9 qz
 clear q0 q1 qb qz hin hc1 hc2 hc3 e2 h hs hn
 unfold opW at HCE HQ HQ0 HQZ
 go_enter Tryz.func68,Tryz.ntmps68
 go_wp2_with (at_builtin;refine wpList_append_own_at _ rfl (.const (.slice none 0 0)) (.tmp 4) 73 rfl w.heap.size 72 i0 (.agg #[.int .i64 0,.int .i64 0]) 2 16 Tryz.underlying73 hi hz0 hz1 hz2 rfl (by decide) (.slice none 0 0) 0 [] rfl (World.ownsRow_nil _ _ _ _) ad n cc (flatD s) rfl HFL.out HCE.out (flatD_one s) (by unfold maxLen;omega) (by omega) HQ.out.size ?_;intro v9 w9 hown9 hgrow9 _ hat9;have HO9:Hid (w9.ownsRow w.heap.size 72 2 v9 n (flatD s)):=(by have:=hown9;rw[Nat.zero_add,List.nil_append] at this;exact this);obtain⟨p9,n9,c9,rfl,_⟩:=own_shape hown9;have g0:=(hgrow9.block w.heap.size (by rw[HQZ.out];omega) (by intro e;cases e)).trans HQ0.out.1;have g1:=(hgrow9.block (w.heap.size+1) (by rw[HQZ.out];omega) (by intro e;cases e)).trans HQ0.out.2;have HB9:=z9 (HQ.out.grown hgrow9 HQ.out.size (by intro j hj;cases hj));have HG9:Hid (∀k,(Value.slice p9 n9 c9).ownBlock=some k→k≠w.heap.size∧k≠w.heap.size+1):=(by intro k hk;rcases hat9 with e9 | e9;(rw[hk] at e9;cases e9);(rw[hk,HQZ.out] at e9;injection e9 with e9;omega));have c0:=blk_cell g0 (i:=0) rfl;have c1:=blk_cell g0 (i:=1) rfl;have c2:=blk_cell g0 (i:=2) rfl;have c3:=blk_cell g0 (i:=3) rfl;have c4:=blk_cell g0 (i:=4) rfl;have c5:=blk_cell g0 (i:=5) rfl;have z0:=blk_cell g1 (i:=0) rfl;have z1:=blk_cell g1 (i:=1) rfl;have z2:=blk_cell g1 (i:=2) rfl;have z3:=blk_cell g1 (i:=3) rfl;have z4:=blk_cell g1 (i:=4) rfl;have z5:=blk_cell g1 (i:=5) rfl;have f5:=blk_free g0 (i:=5);have y0:=blk_free g1 (i:=0);have y1:=blk_free g1 (i:=1);have y2:=blk_free g1 (i:=2);have y3:=blk_free g1 (i:=3);have y4:=blk_free g1 (i:=4);have y5:=blk_free g1 (i:=5);have HG1:=z9 g1;clear hown9 hgrow9 hat9 g0 g1)
 (try simp only[Exit.inBlock,Exit.then])
 have HW:Hid ((((((((w9.setCell ⟨w.heap.size,5,none⟩ (.slice p9 n9 c9)).setCell ⟨w.heap.size+1,0,none⟩ (.int .i64 a)).setCell ⟨w.heap.size+1,1,none⟩ (.int .i64 b)).setCell ⟨w.heap.size+1,2,none⟩ (.int .i64 t)).setCell ⟨w.heap.size+1,3,none⟩ (.string p)).setCell ⟨w.heap.size+1,4,none⟩ (.int .i64 c)).setCell ⟨w.heap.size+1,5,none⟩ (.slice p9 n9 c9)).heap[w.heap.size+1]? =some (.cells #[.int .i64 a,.int .i64 b,.int .i64 t,.string p,.int .i64 c,.slice p9 n9 c9] 75)):=by
  unfold Hid
  rw[set_heap (set_heap (set_heap (set_heap (set_heap (set_heap ((set_block _ _ _ _ (by simp)).trans HG1.out))))))];rfl
 have HWB:Hid (Below w.heap.size w (((((((w9.setCell ⟨w.heap.size,5,none⟩ (.slice p9 n9 c9)).setCell ⟨w.heap.size+1,0,none⟩ (.int .i64 a)).setCell ⟨w.heap.size+1,1,none⟩ (.int .i64 b)).setCell ⟨w.heap.size+1,2,none⟩ (.int .i64 t)).setCell ⟨w.heap.size+1,3,none⟩ (.string p)).setCell ⟨w.heap.size+1,4,none⟩ (.int .i64 c)).setCell ⟨w.heap.size+1,5,none⟩ (.slice p9 n9 c9))):=
  ((((((HB9.out.setCell (p:=⟨w.heap.size,5,none⟩) (by simp) _).setCell (p:=⟨w.heap.size+1,0,none⟩) (by simp) _).setCell (p:=⟨w.heap.size+1,1,none⟩) (by simp) _).setCell (p:=⟨w.heap.size+1,2,none⟩) (by simp) _).setCell (p:=⟨w.heap.size+1,3,none⟩) (by simp) _).setCell (p:=⟨w.heap.size+1,4,none⟩) (by simp) _).setCell (p:=⟨w.heap.size+1,5,none⟩) (by simp) _
 have HWO:Hid ((((((((w9.setCell ⟨w.heap.size,5,none⟩ (.slice p9 n9 c9)).setCell ⟨w.heap.size+1,0,none⟩ (.int .i64 a)).setCell ⟨w.heap.size+1,1,none⟩ (.int .i64 b)).setCell ⟨w.heap.size+1,2,none⟩ (.int .i64 t)).setCell ⟨w.heap.size+1,3,none⟩ (.string p)).setCell ⟨w.heap.size+1,4,none⟩ (.int .i64 c)).setCell ⟨w.heap.size+1,5,none⟩ (.slice p9 n9 c9)).ownsRow w.heap.size 72 2 (.slice p9 n9 c9) s.length (flatD s)):=by
  unfold Hid
  rw[HN.out]
  refine own_stay HO9.out fun g hg=> ?_
  obtain⟨x1,x2⟩:=HG9.out g hg
  rw[set_block _ _ _ _ (by simpa using x2),set_block _ _ _ _ (by simpa using x2),set_block _ _ _ _ (by simpa using x2),set_block _ _ _ _ (by simpa using x2),set_block _ _ _ _ (by simpa using x2),set_block _ _ _ _ (by simpa using x2),set_block _ _ _ _ (by simpa using x1)]
 generalize hWq:((((((w9.setCell ⟨w.heap.size,5,none⟩ (.slice p9 n9 c9)).setCell ⟨w.heap.size+1,0,none⟩ (.int .i64 a)).setCell ⟨w.heap.size+1,1,none⟩ (.int .i64 b)).setCell ⟨w.heap.size+1,2,none⟩ (.int .i64 t)).setCell ⟨w.heap.size+1,3,none⟩ (.string p)).setCell ⟨w.heap.size+1,4,none⟩ (.int .i64 c)).setCell ⟨w.heap.size+1,5,none⟩ (.slice p9 n9 c9)=W at HW HWB HWO ⊢
 clear hWq c0 c1 c2 c3 c4 c5 z0 z1 z2 z3 z4 z5 f5 y0 y1 y2 y3 y4 y5 HCE HQ HQ0 HQZ HO9 HB9 HG9 HG1
 refine bodyPost_ret (v:=.agg #[.int .i64 a,.int .i64 b,.int .i64 t,.string p,.int .i64 c,.slice p9 n9 c9]) ?_ rfl ?_
 ·simp[results]
  rw[show(asAddr (Value.pointer (some ⟨w.heap.size+1,0,none⟩))).run Tryz.prog W=.ok ⟨w.heap.size+1,0,none⟩ W from rfl]
  exact load_op HW.out
 ·exact⟨_,rfl,HWO.out,HWB.out⟩
theorem append_none (ty:TypeId) (w:World):(Builtin.append_ #[73,73] ty #[.slice none 0 0,.slice none 0 0]).run Tryz.prog w=.ok (.slice none 0 0) w:=by kernel_rfl
theorem wpList_append_none (w:World) {ops:Array Oper} {rest:List Oper} {o:Oper} {a:Act} {Q:Exit→Act→World→Prop} (hg:o.guard=none) (x y:Operand) (hop:o.op=.call { callee:=.builtin .append,args:=#[x,y],argTypes:=#[73,73] }) (hx:a.eval x=.slice none 0 0) (hy:a.eval y=.slice none 0 0)
  (hK:∀w',w'=w→wpList Tryz.prog ops Q rest (a.put o.dst (.slice none 0 0)) w'):wpList Tryz.prog ops Q (o::rest) a w:=by
 refine wpList_plain hg fun K' hK'=> ?_
 unfold Oper.wp execOp
 simp only[hop,resolve,invoke,builtin,Sem.run_bind,Sem.run_pure,Result.andThen_ok,List.map_toArray,List.map_cons,List.map_nil,hx,hy,append_none]
 exact hK' _ _ (hK w rfl)
theorem copy_none (a b t:Int) (p:ByteArray) (c:Int) (w:World):
  Calls Tryz.prog 68 #[.agg #[.int .i64 a,.int .i64 b,.int .i64 t,.string p,.int .i64 c,.slice none 0 0]] w fun e w'=>e=.returned (.agg #[.int .i64 a,.int .i64 b,.int .i64 t,.string p,.int .i64 c,.slice none 0 0])∧Below w.heap.size w w':=by
 obtain⟨q0,q1,qb,qz⟩:=opW_facts w a b t p c (.slice none 0 0)
 have HQ0:Hid ((opW w a b t p c (.slice none 0 0)).heap[w.heap.size]? =some (.cells #[.int .i64 a,.int .i64 b,.int .i64 t,.string p,.int .i64 c,(.slice none 0 0)] 75)∧(opW w a b t p c (.slice none 0 0)).heap[w.heap.size+1]? =some (.cells #[.int .i64 0,.int .i64 0,.int .i64 0,.string ⟨#[]⟩,.int .i64 0,.slice none 0 0] 75)):=⟨q0,q1⟩
 have HQ:=z9 qb
 clear q0 q1 qb qz
 unfold opW at HQ HQ0
 go_enter Tryz.func68,Tryz.ntmps68
 go_wp2_with (at_builtin;refine wpList_append_none _ rfl (.const (.slice none 0 0)) (.tmp 4) rfl rfl rfl ?_;intro w9 hw9;have g0:=HQ0.out.1;have g1:=HQ0.out.2;have HB9:Hid (Below w.heap.size w w9):=(by rw[hw9];exact HQ.out);rw[←hw9] at g0 g1;have HG1:=z9 g1;have c0:=blk_cell g0 (i:=0) rfl;have c1:=blk_cell g0 (i:=1) rfl;have c2:=blk_cell g0 (i:=2) rfl;have c3:=blk_cell g0 (i:=3) rfl;have c4:=blk_cell g0 (i:=4) rfl;have c5:=blk_cell g0 (i:=5) rfl;have z0:=blk_cell g1 (i:=0) rfl;have z1:=blk_cell g1 (i:=1) rfl;have z2:=blk_cell g1 (i:=2) rfl;have z3:=blk_cell g1 (i:=3) rfl;have z4:=blk_cell g1 (i:=4) rfl;have z5:=blk_cell g1 (i:=5) rfl;have f5:=blk_free g0 (i:=5);have y0:=blk_free g1 (i:=0);have y1:=blk_free g1 (i:=1);have y2:=blk_free g1 (i:=2);have y3:=blk_free g1 (i:=3);have y4:=blk_free g1 (i:=4);have y5:=blk_free g1 (i:=5);clear g0 g1 hw9)
 (try simp only[Exit.inBlock,Exit.then])
 have HW:Hid ((((((((w9.setCell ⟨w.heap.size,5,none⟩ (.slice none 0 0)).setCell ⟨w.heap.size+1,0,none⟩ (.int .i64 a)).setCell ⟨w.heap.size+1,1,none⟩ (.int .i64 b)).setCell ⟨w.heap.size+1,2,none⟩ (.int .i64 t)).setCell ⟨w.heap.size+1,3,none⟩ (.string p)).setCell ⟨w.heap.size+1,4,none⟩ (.int .i64 c)).setCell ⟨w.heap.size+1,5,none⟩ (.slice none 0 0)).heap[w.heap.size+1]? =some (.cells #[.int .i64 a,.int .i64 b,.int .i64 t,.string p,.int .i64 c,.slice none 0 0] 75)):=by
  unfold Hid
  rw[set_heap (set_heap (set_heap (set_heap (set_heap (set_heap ((set_block _ _ _ _ (by simp)).trans HG1.out))))))];rfl
 have HWB:Hid (Below w.heap.size w (((((((w9.setCell ⟨w.heap.size,5,none⟩ (.slice none 0 0)).setCell ⟨w.heap.size+1,0,none⟩ (.int .i64 a)).setCell ⟨w.heap.size+1,1,none⟩ (.int .i64 b)).setCell ⟨w.heap.size+1,2,none⟩ (.int .i64 t)).setCell ⟨w.heap.size+1,3,none⟩ (.string p)).setCell ⟨w.heap.size+1,4,none⟩ (.int .i64 c)).setCell ⟨w.heap.size+1,5,none⟩ (.slice none 0 0))):=
  ((((((HB9.out.setCell (p:=⟨w.heap.size,5,none⟩) (by simp) _).setCell (p:=⟨w.heap.size+1,0,none⟩) (by simp) _).setCell (p:=⟨w.heap.size+1,1,none⟩) (by simp) _).setCell (p:=⟨w.heap.size+1,2,none⟩) (by simp) _).setCell (p:=⟨w.heap.size+1,3,none⟩) (by simp) _).setCell (p:=⟨w.heap.size+1,4,none⟩) (by simp) _).setCell (p:=⟨w.heap.size+1,5,none⟩) (by simp) _
 generalize hWq:((((((w9.setCell ⟨w.heap.size,5,none⟩ (.slice none 0 0)).setCell ⟨w.heap.size+1,0,none⟩ (.int .i64 a)).setCell ⟨w.heap.size+1,1,none⟩ (.int .i64 b)).setCell ⟨w.heap.size+1,2,none⟩ (.int .i64 t)).setCell ⟨w.heap.size+1,3,none⟩ (.string p)).setCell ⟨w.heap.size+1,4,none⟩ (.int .i64 c)).setCell ⟨w.heap.size+1,5,none⟩ (.slice none 0 0)=W at HW HWB ⊢
 clear hWq c0 c1 c2 c3 c4 c5 z0 z1 z2 z3 z4 z5 f5 y0 y1 y2 y3 y4 y5 HQ HQ0 HB9 HG1
 refine bodyPost_ret (v:=.agg #[.int .i64 a,.int .i64 b,.int .i64 t,.string p,.int .i64 c,.slice none 0 0]) ?_ rfl ?_
 ·simp[results]
  rw[show∀W,(asAddr (Value.pointer (some ⟨w.heap.size+1,0,none⟩))).run Tryz.prog W=.ok ⟨w.heap.size+1,0,none⟩ W from fun _=>rfl]
  exact load_op HW.out
 ·exact⟨rfl,HWB.out⟩
/- an op whose dots lie in memory, copied -/
theorem copy_any (a b t:Int) (p:ByteArray) (c:Int) (vs:Value) (s:List Dt) (w:World) (h:DtsAt w vs s) (hs:s.length≤1048576):
  Calls Tryz.prog 68 #[.agg #[.int .i64 a,.int .i64 b,.int .i64 t,.string p,.int .i64 c,vs]] w fun e w'=>∃v',e=.returned (.agg #[.int .i64 a,.int .i64 b,.int .i64 t,.string p,.int .i64 c,v'])∧w'.ownsRow w.heap.size 72 2 v' s.length (flatD s)∧Below w.heap.size w w':=by
 have h2:=h
 obtain⟨q,c2,rfl,hin,h1,h3,h4⟩:=h2
 cases q with
 | none=>
  have hc:=h4 rfl
  have hl:s=[]:=List.eq_nil_of_length_eq_zero (by omega)
  subst hl hc
  refine(copy_none a b t p c w).mono ?_
  rintro e w' ⟨rfl,hb⟩
  exact⟨_,rfl,World.ownsRow_nil _ _ _ _,hb⟩
 | some ad=>exact copy_some a b t p c ad _ c2 s w h hs
end If
end Go.Proofs.YtlmdchpbpgcfmaaGreatDoor
/- What settle stands on: laws at a step of a region that draws; a row of places that grows. -/
namespace Go.Proofs.YtlmdchpbpgcfmaaGreatDoor
namespace Ig
open Go.ChangeShapes Go.WideShapes Go.ChangeAt Go.RowKit Cm Ka Kb Na Om Oa Oz Oc Og Oi Hm Ia Ib Ic Idc Ie If
open La (bel bel_drew errV_zero errV_ne own_ge own_grow own_below Lies)
theorem step_drop {ops:Array Oper} {o:Oper} {a:Act} {W:World} {K:Act→World→Prop} {Q:Exit→Act→World→Prop} {E:Prop} (hgd:o.guard=none) (m x:Operand) (hop:o.op=Op.call { callee:=Callee.builtin Builtin.delete,args:=#[m,x],argTypes:=#[107,72] }) {B:Nat} {M:List Ent} (hm:a.eval m=.map (some B)) (h:MapAt W B M) (d1 d2:Int) (hx:a.eval x=.agg #[.int .i64 d1,.int .i64 d2])
  (hK:∀w',MapAt w' B (delM (d1,d2) M)→W.grownBy w' (some B)→K (a.put o.dst (.tuple #[])) w'):if Region.wanted o (yielded ops a.tmps)=true then Oper.wp Tryz.prog o a W K Q else E:=by
 have hw:Region.wanted o (yielded ops a.tmps)=true:=by simp[Region.wanted,hgd]
 rw[if_pos hw]
 obtain⟨w',hrun,r1,r2⟩:=delete_run h d1 d2 o.type
 unfold Oper.wp execOp
 simp only[hop,resolve,invoke,builtin,Sem.run_bind,Sem.run_pure,Result.andThen_ok,List.map_toArray,List.map_cons,List.map_nil,hm,hx,hrun]
 exact hK w' r1 r2
/- the call of a function of two arguments, at a step of a region that draws -/
theorem step_call2 {ops:Array Oper} {o:Oper} {a:Act} {W:World} {K:Act→World→Prop} {Q:Exit→Act→World→Prop} {E:Prop} {R:Value→World→Prop} (hgd:o.guard=none) (F:FuncId) (x y:Operand) (T U:TypeId)
  (ho:o.op=.call { callee:=.value (.func F),args:=#[x,y],argTypes:=#[T,U] }) (v0 v1:Value) (hx:a.eval x=v0) (hy:a.eval y=v1) (hcf:∀args W,(callFunc F args).run Tryz.prog W=.ok (.enter F args) W) (hC:Calls Tryz.prog F #[v0,v1] W fun e w'=>∃v,e=.returned v∧R v w')
  (h:∀v w',R v w'→K (a.put o.dst v) w'):
  if Region.wanted o (yielded ops a.tmps)=true then Oper.wp Tryz.prog o a W K Q else E:=by
 have hw:Region.wanted o (yielded ops a.tmps)=true:=by simp[Region.wanted,hgd]
 rw[if_pos hw]
 have hr:(execOp a.eval o).run Tryz.prog W=.ok (.enter F #[v0,v1]) W:=by
  have he:a.eval (.func F)=.func (.func F) #[] #[]:=rfl
  unfold execOp
  simp only[ho,resolve,invoke,List.map_toArray,List.map_cons,List.map_nil,hx,hy,he]
  exact hcf _ _
 unfold Oper.wp
 rw[hr,Oper.upon_enter]
 refine hC.mono ?_
 rintro e w' ⟨v,rfl,hR⟩
 exact h v w' hR
theorem enter_knows (args:Array Value) (W:World):(callFunc 111 args).run Tryz.prog W=.ok (.enter 111 args) W:=by
 first | kernel_rfl | simp[callFunc,go_sem,Tryz.func111]
theorem infoS:(Tryz.prog.info? 9).map (fun i=>(i.zero,i.size,i.bytes))=some (some (.string ByteArray.empty),1,16):=by kernel_rfl
/- append of one text to a row of the doc's own -/
theorem step_putS {ops:Array Oper} {o:Oper} {a:Act} {W:World} {K:Act→World→Prop} {Q:Exit→Act→World→Prop} {E:Prop} (hgd:o.guard=none) (sO xO:Operand)
  (ho:o.op=.call { callee:=.builtin .append,args:=#[sO,xO],argTypes:=#[35,35] })
  (v:Value) (l:List ByteArray) (x:ByteArray) (hs:a.eval sO=v) (h0:Nat) (hx:a.eval xO=.slice (some ⟨h0,0,none⟩) 1 1)
  (hlen:l.length+1≤1048576) (hown:RowS W v l) (hc0:W.cell? ⟨h0,0,none⟩=some (.string x))
  (h:∀v' w',RowS w' v' (l++[x])→W.grownBy w' v.ownBlock→(v'.ownBlock=v.ownBlock∨v'.ownBlock=some W.heap.size)→K (a.put o.dst v') w'):
  if Region.wanted o (yielded ops a.tmps)=true then Oper.wp Tryz.prog o a W K Q else E:=by
 have hw:Region.wanted o (yielded ops a.tmps)=true:=by simp[Region.wanted,hgd]
 rw[if_pos hw]
 obtain⟨i0,hi,hz0,hz1,hz2⟩:=info_parts infoS
 obtain⟨v',w',hr,h2,h3,_,h5⟩:=run_append_own_at (P:=Tryz.prog) W 0 35 o.type 9 i0 (.string ByteArray.empty) 1 16 Tryz.underlying35 hi hz0 hz1 hz2 rfl (by decide) v l.length (l.map Value.string) hown ⟨h0,0,none⟩ 1 1 [.string x] rfl (by
  intro j u hu
  rw[Addr.add_lit,Nat.zero_add]
  rcases j with _ | j
  ·rw[hc0];exact hu
  ·simp at hu) (by intro u hu;rw[List.mem_singleton.1 hu];rfl) (by unfold maxLen;omega) (by omega) (Nat.zero_le _)
 unfold Oper.wp execOp
 simp only[ho,resolve,invoke,builtin,Sem.run_bind,Sem.run_pure,Result.andThen_ok,List.map_toArray,List.map_cons,List.map_nil,hs,hx,hr]
 refine h v' w' ?_ h3 h5
 unfold RowS
 rw[List.length_append,List.map_append]
 exact h2
/- an entry behind a put: the one that was put, or another one, whose row lies apart from it -/
theorem put_at {d:Dt} {v:Value} {l:List ByteArray} {x:Ent}:∀{M:List Ent},x ∈ putM d v l M→x=(d,v,l)∨(x ∈ M∧(M.Pairwise Sep→∀g,x.2.1.ownBlock=some g→(getV M d).ownBlock≠some g))
 | [],h=>by left;simpa[putM] using h
 | y::M,h=>by
  rw[putM_cons] at h
  by_cases e:d=y.1
  ·rw[if_pos e] at h
   rcases List.mem_cons.1 h with h | h
   ·exact Or.inl h
   ·refine Or.inr ⟨List.mem_cons_of_mem _ h,fun hp g hg h2=> ?_⟩
    rw[getV_cons,if_pos e] at h2
    exact(List.pairwise_cons.1 hp).1 x h g h2 hg
  ·rw[if_neg e] at h
   rcases List.mem_cons.1 h with h | h
   ·refine Or.inr ⟨by rw[h];exact List.mem_cons_self,fun hp g hg h2=> ?_⟩
    rw[getV_cons,if_neg e] at h2
    rcases get_mem d M with⟨e0,_⟩ | ⟨z,hz,e0,_⟩
    ·rw[e0] at h2;cases h2
    ·rw[←e0] at h2
     rw[h] at hg
     exact(List.pairwise_cons.1 hp).1 z hz g hg h2
   ·rcases put_at h with h | ⟨h,h3⟩
    ·exact Or.inl h
    ·refine Or.inr ⟨List.mem_cons_of_mem _ h,fun hp g hg h2=> ?_⟩
     rw[getV_cons,if_neg e] at h2
     exact h3 (List.pairwise_cons.1 hp).2 g hg h2
/- a doc without what came: the map's block is written -/
theorem drop_mem {w w':World} {m:Mem} {S:Dq} {G:Nat→Prop} {d:Dt} (h:DocMem w m S G) (hm:MapAt w' m.B (delM d m.M)) (hg:w.grownBy w' (some m.B)):
  DocMem w' { m with M:=delM d m.M } S G∧Chg (fun g=>g=m.B) w w'∧∀g,Wr { m with M:=delM d m.M } g→Wr m g:=by
 have hsub:=del_sub d m.M
 have hw:∀g,Wr { m with M:=delM d m.M } g→Wr m g:=by
  rintro g (e | e | e | ⟨x,hx,e⟩)
  ·exact Or.inl e
  ·exact Or.inr (Or.inl e)
  ·exact Or.inr (Or.inr (Or.inl e))
  ·exact Or.inr (Or.inr (Or.inr ⟨x,hsub.subset hx,e⟩))
 have oth:∀g,g<w.heap.size→g≠m.B→w'.heap[g]? =w.heap[g]? :=fun g hl hne=>hg.block g hl (fun e=>hne (by injection e))
 have hs:Stay G w w':=fun g hgg=>oth g (h.lt g hgg) (fun e=>h.off g hgg (Or.inr (Or.inl e)))
 have hcell:∀g cur t,w.heap[g]? =some (.cells cur t (0,0))→g≠m.B:=fun g cur t h9 e=>by
  obtain⟨es,clock,hb,_⟩:=h.map
  rw[e,hb] at h9;cases h9
 obtain⟨L,o1,o2,o3⟩:=h.ops
 refine⟨⟨?_,book_stay h.book h.bookG hs,h.bookG,marks_stay h.marks h.marksG hs,h.marksG,known_stay h.known h.knownG hs,h.knownG,⟨L,o1,own_stay o2 (fun g hgg=> ?_),fun y hy=>⟨dots_stay (o3 y hy).1 (o3 y hy).2 hs,(o3 y hy).2⟩⟩,hm,fun x hx=>own_stay (h.rows x (hsub.subset hx)) (fun g hgg=> ?_),h.apart.sublist hsub,fun g hgg=>Nat.lt_of_lt_of_le (h.lt g hgg) hg.size,fun g hgg e=>h.off g hgg (hw g e)⟩,Chg.grown hg (fun g e=>by injection e with e;exact e.symm),hw⟩
 ·rw[oth _ (Array.getElem?_eq_some_iff.1 h.blk).1 (hcell _ _ _ h.blk)];exact h.blk
 ·obtain⟨hl,cur,hc⟩:=own_lt o2 g hgg
  exact oth g hl (hcell g cur _ hc)
 ·obtain⟨hl,cur,hc⟩:=own_lt (h.rows x (hsub.subset hx)) g hgg
  exact oth g hl (hcell g cur _ hc)
/- .. with one place more at a dot: its row and the map's block are written -/
theorem put_memd {w w':World} {m:Mem} {S:Dq} {G:Nat→Prop} {d:Dt} {v':Value} {p:ByteArray} (h:DocMem w m S G) (hm:MapAt w' m.B (putM d v' (getJ m.M d++[p]) m.M)) (hr:RowS w' v' (getJ m.M d++[p]))
  (hc:Chg (fun g=>g=m.B∨(getV m.M d).ownBlock=some g) w w') (hv:∀g,v'.ownBlock=some g→(getV m.M d).ownBlock=some g∨w.heap.size≤g):
  DocMem w' { m with M:=putM d v' (getJ m.M d++[p]) m.M } S G∧Chg (Wr m) w w'∧∀g,Wr { m with M:=putM d v' (getJ m.M d++[p]) m.M } g→Wr m g∨w.heap.size≤g:=by
 have hgv:∀g,(getV m.M d).ownBlock=some g→∃x ∈ m.M,x.2.1.ownBlock=some g∧x.2.1=getV m.M d:=fun g hg=>by
  rcases get_mem d m.M with⟨e,_⟩ | ⟨x,hx,e,_⟩
  ·rw[e] at hg;cases hg
  ·exact⟨x,hx,by rw[e];exact hg,e⟩
 have hw:∀g,Wr { m with M:=putM d v' (getJ m.M d++[p]) m.M } g→Wr m g∨w.heap.size≤g:=by
  rintro g (e | e | e | ⟨x,hx,e⟩)
  ·exact Or.inl (Or.inl e)
  ·exact Or.inl (Or.inr (Or.inl e))
  ·exact Or.inl (Or.inr (Or.inr (Or.inl e)))
  ·rcases put_mem hx with rfl | hx
   ·rcases hv g e with e | e
    ·obtain⟨y,hy,e2,_⟩:=hgv g e
     exact Or.inl (Or.inr (Or.inr (Or.inr ⟨y,hy,e2⟩)))
    ·exact Or.inr e
   ·exact Or.inl (Or.inr (Or.inr (Or.inr ⟨x,hx,e⟩)))
 have hcw:∀g,(g=m.B∨(getV m.M d).ownBlock=some g)→Wr m g:=fun g hg=>by
  rcases hg with e | e
  ·exact Or.inr (Or.inl e)
  ·obtain⟨y,hy,e2,_⟩:=hgv g e
   exact Or.inr (Or.inr (Or.inr ⟨y,hy,e2⟩))
 have hs:Stay G w w':=hc.stay fun g hgg=>⟨h.lt g hgg,fun e=>h.off g hgg (hcw g e)⟩
 have hvt:∀g,(getV m.M d).ownBlock=some g→∃cur,w.heap[g]? =some (.cells cur 9 (0,0)):=fun g hg=>by
  obtain⟨y,hy,e2,_⟩:=hgv g hg
  exact(own_lt (h.rows y hy) g e2).2
 have hcell:∀g cur t,w.heap[g]? =some (.cells cur t (0,0))→t≠9→¬(g=m.B∨(getV m.M d).ownBlock=some g):=fun g cur t h9 ht e=>by
  rcases e with e | e
  ·obtain⟨es,clock,hb,_⟩:=h.map
   rw[e,hb] at h9;cases h9
  ·obtain⟨cur2,h8⟩:=hvt g e
   rw[h8] at h9
   injection h9 with h9
   injection h9 with _ h9 _
   exact ht h9.symm
 obtain⟨L,o1,o2,o3⟩:=h.ops
 refine⟨⟨?_,book_stay h.book h.bookG hs,h.bookG,marks_stay h.marks h.marksG hs,h.marksG,known_stay h.known h.knownG hs,h.knownG,⟨L,o1,own_stay o2 (fun g hgg=> ?_),fun y hy=>⟨dots_stay (o3 y hy).1 (o3 y hy).2 hs,(o3 y hy).2⟩⟩,hm,fun x hx=> ?_, ?_,fun g hgg=>Nat.lt_of_lt_of_le (h.lt g hgg) hc.size,fun g hgg e=> ?_⟩,hc.mono hcw,hw⟩
 ·rw[hc.block _ (Array.getElem?_eq_some_iff.1 h.blk).1 (hcell _ _ _ h.blk (by decide))];exact h.blk
 ·obtain⟨hl,cur,hcc⟩:=own_lt o2 g hgg
  exact hc.block g hl (hcell g cur _ hcc (by decide))
 ·rcases put_at hx with rfl | ⟨hx,hne⟩
  ·exact hr
  ·refine own_stay (h.rows x hx) fun g hgg=> ?_
   obtain⟨hl,cur,hcc⟩:=own_lt (h.rows x hx) g hgg
   refine hc.block g hl ?_
   rintro(e | e)
   ·obtain⟨es,clock,hb,_⟩:=h.map
    rw[e,hb] at hcc;cases hcc
   ·exact hne h.apart g hgg e
 ·exact put_apart h.apart fun g hgg=>by
   rcases hv g hgg with e | e
   ·exact Or.inl e
   ·refine Or.inr fun x hx e2=> ?_
    have:=(own_lt (h.rows x hx) g e2).1
    omega
 ·rcases hw g e with e | e
  ·exact h.off g hgg e
  ·have:=h.lt g hgg;omega
end Ig
end Go.Proofs.YtlmdchpbpgcfmaaGreatDoor
