import Derived.Test.YtlmdchpbpgcfmaaGreatDoorJ12
set_option linter.unusedVariables false
set_option maxRecDepth 100000
set_option maxHeartbeats 8000000
/- What a doc's Apply answers. -/
namespace Go.Proofs.YtlmdchpbpgcfmaaGreatDoor
namespace Ik
open Go.ChangeShapes Go.WideShapes Go.ChangeAt Go.RowKit Cm Ka Kb Na Om Oa Oz Oc Og Oi Hm Ia Ib Ic Idc Ie If Ig Ih Ii Ij
open La (bel bel_drew errV_zero errV_ne own_ge own_grow own_below Lies)
theorem step_call1 {ops:Array Oper} {o:Oper} {a:Act} {W:World} {K:Act→World→Prop} {Q:Exit→Act→World→Prop} {E:Prop} {R:Value→World→Prop} (hgd:o.guard=none) (F:FuncId) (x:Operand) (T:TypeId)
  (ho:o.op=.call { callee:=.value (.func F),args:=#[x],argTypes:=#[T] }) (v0:Value) (hx:a.eval x=v0) (hcf:∀args W,(callFunc F args).run Tryz.prog W=.ok (.enter F args) W) (hC:Calls Tryz.prog F #[v0] W fun e w'=>∃v,e=.returned v∧R v w')
  (h:∀v w',R v w'→K (a.put o.dst v) w'):
  if Region.wanted o (yielded ops a.tmps)=true then Oper.wp Tryz.prog o a W K Q else E:=by
 have hw:Region.wanted o (yielded ops a.tmps)=true:=by simp[Region.wanted,hgd]
 rw[if_pos hw]
 have hr:(execOp a.eval o).run Tryz.prog W=.ok (.enter F #[v0]) W:=by
  have he:a.eval (.func F)=.func (.func F) #[] #[]:=rfl
  unfold execOp
  simp only[ho,resolve,invoke,List.map_toArray,List.map_cons,List.map_nil,hx,he]
  exact hcf _ _
 unfold Oper.wp
 rw[hr,Oper.upon_enter]
 refine hC.mono ?_
 rintro e w' ⟨v,rfl,hR⟩
 exact h v w' hR
theorem set_ops_blk {w w':World} {D:Nat} {o:Obj} {r:Option Nat} (h:w.heap[D]? =some o) (hg:w.grownBy w' r) (hne:r=some D→False):w'.heap[D]? =some o:=by
 rw[hg.block D (Array.getElem?_eq_some_iff.1 h).1 (fun e=>hne e.symm)];exact h
theorem enter_copy (args:Array Value) (W:World):(callFunc 68 args).run Tryz.prog W=.ok (.enter 68 args) W:=by
 first | kernel_rfl | simp[callFunc,go_sem,Tryz.func68]
theorem behind_wrong (m:Mem) (S:Dq) (G:Nat→Prop) (a b t:Int) (p:ByteArray) (c:Int) (vs:Value) (s:List Dt) (w:World) (h:DocOk w m S G) (hd:DtsAt w vs s) (hp:p.size≤maxLen) (k:Int) (ho:opE ((a,b),t,p,c,s)=k) (h0:k≠0):
  Calls Tryz.prog 67 #[.pointer (some ⟨m.D,0,none⟩),.agg #[.int .i64 a,.int .i64 b,.int .i64 t,.string p,.int .i64 c,vs]] w (BePost w S G ((a,b),t,p,c,s)):=by
 have HB1:Hid (Below w.heap.size w ((w.alloc (.cells #[.int .i64 a,.int .i64 b,.int .i64 t,.string p,.int .i64 c,vs] 75)).alloc (.cells #[.slice none 0 0,.slice none 0 0,.slice none 0 0] 106))):=((Below.refl _ w).alloc (Nat.le_refl _) _).alloc (by simp) _
 have H6:Hid (Six ((w.alloc (.cells #[.int .i64 a,.int .i64 b,.int .i64 t,.string p,.int .i64 c,vs] 75)).alloc (.cells #[.slice none 0 0,.slice none 0 0,.slice none 0 0] 106)) w.heap.size a b t p c vs):=(six_new w a b t p c vs 75).below ((Below.refl _ _).alloc (Nat.le_refl _) _)
 have HT1:Hid (Ct ((w.alloc (.cells #[.int .i64 a,.int .i64 b,.int .i64 t,.string p,.int .i64 c,vs] 75)).alloc (.cells #[.slice none 0 0,.slice none 0 0,.slice none 0 0] 106)) (w.heap.size+1)):=ct_new w _
 have CCk:Hid (∀W,Below w.heap.size w W→Calls Tryz.prog 110 #[.agg #[.int .i64 a,.int .i64 b,.int .i64 t,.string p,.int .i64 c,vs]] W fun e w'=>e=.returned (errV (opE ((a,b),t,p,c,s)))∧Below W.heap.size W w'):=fun W hb=>Vc.check_says a b t p c vs s W (hd.below hb) hp
 have HN:Hid (isNew S ((a,b),t,p,c,s)=false):=by unfold Hid isNew;rw[ho,decide_eq_false h0];rfl
 have HE:Hid (errV (apE S ((a,b),t,p,c,s))=.iface 84 (.int .i64 k)):=by unfold Hid apE;rw[ho,if_pos h0,errV_ne h0]
 rw[ho] at CCk
 simp only[errV_ne h0] at CCk
 obtain⟨D,hD⟩:∃D,D=m.D:=⟨_,rfl⟩
 have HD:=z9 hD
 rw[←hD]
 clear h hd hp ho h0 hD
 go_enter Tryz.func67,Tryz.ntmps67
 obtain⟨o0,o1,o2,o3,o4,o5⟩:=H6.out
 go_wp2_with fail
 refine(CCk.out _ HB1.out).mono ?_
 rintro e w2 ⟨rfl,hb2⟩
 have HB2:=z9 (bel HB1.out hb2)
 have HT2:=z9 (keep_heap hb2 HT1.out)
 clear hb2 CCk
 have c0:=blk_cell HT2.out (i:=0) (u:=.slice none 0 0) rfl
 have c1:=blk_cell HT2.out (i:=1) (u:=.slice none 0 0) rfl
 have c2:=blk_cell HT2.out (i:=2) (u:=.slice none 0 0) rfl
 have f0:=blk_free HT2.out (i:=0)
 have f1:=blk_free HT2.out (i:=1)
 have f2:=blk_free HT2.out (i:=2)
 go_wp2_with fail
 try simp only[Exit.inBlock,Exit.then]
 refine bodyPost_ret (v:=.tuple #[.agg #[.slice none 0 0,.slice none 0 0,.slice none 0 0],.bool false,.iface 84 (.int .i64 k)]) ?_ rfl (BePost.no HN.out HE.out (set3_below HB2.out (by omega) _ _ _))
 simp[results,Tryz.results67,go_sem,asAddr,Result.andThen,c0,c1,c2]
theorem behind_known (m:Mem) (S:Dq) (G:Nat→Prop) (a b t:Int) (p:ByteArray) (c:Int) (vs:Value) (s:List Dt) (w:World) (h:DocOk w m S G) (hd:DtsAt w vs s) (hp:p.size≤maxLen) (ho:opE ((a,b),t,p,c,s)=0) (hk:Dm.hasB S.known a b=true) (hkn:b≤kn S a):
  Calls Tryz.prog 67 #[.pointer (some ⟨m.D,0,none⟩),.agg #[.int .i64 a,.int .i64 b,.int .i64 t,.string p,.int .i64 c,vs]] w (BePost w S G ((a,b),t,p,c,s)):=by
 have HB1:Hid (Below w.heap.size w ((w.alloc (.cells #[.int .i64 a,.int .i64 b,.int .i64 t,.string p,.int .i64 c,vs] 75)).alloc (.cells #[.slice none 0 0,.slice none 0 0,.slice none 0 0] 106))):=((Below.refl _ w).alloc (Nat.le_refl _) _).alloc (by simp) _
 have H6:Hid (Six ((w.alloc (.cells #[.int .i64 a,.int .i64 b,.int .i64 t,.string p,.int .i64 c,vs] 75)).alloc (.cells #[.slice none 0 0,.slice none 0 0,.slice none 0 0] 106)) w.heap.size a b t p c vs):=(six_new w a b t p c vs 75).below ((Below.refl _ _).alloc (Nat.le_refl _) _)
 have HT1:Hid (Ct ((w.alloc (.cells #[.int .i64 a,.int .i64 b,.int .i64 t,.string p,.int .i64 c,vs] 75)).alloc (.cells #[.slice none 0 0,.slice none 0 0,.slice none 0 0] 106)) (w.heap.size+1)):=ct_new w _
 have CCk:Hid (∀W,Below w.heap.size w W→Calls Tryz.prog 110 #[.agg #[.int .i64 a,.int .i64 b,.int .i64 t,.string p,.int .i64 c,vs]] W fun e w'=>e=.returned (errV (opE ((a,b),t,p,c,s)))∧Below W.heap.size W w'):=fun W hb=>Vc.check_says a b t p c vs s W (hd.below hb) hp
 have HN:Hid (isNew S ((a,b),t,p,c,s)=false):=by
  unfold Hid
  cases h9:isNew S ((a,b),t,p,c,s)
  ·rfl
  ·have:=(isNew_iff.1 h9).2.1;simp only at this;omega
 have HE:Hid (errV (apE S ((a,b),t,p,c,s))=.nilIface):=by unfold Hid apE;rw[if_neg (by simpa using ho),if_pos hkn];rfl
 have CKn:Hid (∀W,Below w.heap.size w W→Calls Tryz.prog 111 #[.pointer (some ⟨m.D,0,none⟩),.agg #[.int .i64 a,.int .i64 b]] W fun e w'=>e=.returned (.bool true)∧Below W.heap.size W w'):=fun W hb=>by
  have:=knows_any m S G a b W (h.mem.below hb)
  rw[hk] at this;exact this
 rw[ho] at CCk
 simp only[errV_zero] at CCk
 obtain⟨D,hD⟩:∃D,D=m.D:=⟨_,rfl⟩
 have HD:=z9 hD
 rw[←hD]
 rw[←hD] at CKn
 clear h hd hp ho hk hkn hD
 go_enter Tryz.func67,Tryz.ntmps67
 obtain⟨o0,o1,o2,o3,o4,o5⟩:=H6.out
 go_wp2_with fail
 refine(CCk.out _ HB1.out).mono ?_
 rintro e w2 ⟨rfl,hb2⟩
 have HB2:=z9 (bel HB1.out hb2)
 have HT2:=z9 (keep_heap hb2 HT1.out)
 have HS2:=z9 (H6.out.below hb2)
 clear hb2 o0 o1 o2 o3 o4 o5 CCk H6 HB1
 obtain⟨o0,o1,o2,o3,o4,o5⟩:=HS2.out
 go_wp2_with fail
 refine(CKn.out w2 HB2.out).mono ?_
 rintro e w3 ⟨rfl,hb3⟩
 have HB3:=z9 (bel HB2.out hb3)
 have HT3:=z9 (keep_heap hb3 HT2.out)
 clear hb3 CKn
 have c0:=blk_cell HT3.out (i:=0) (u:=.slice none 0 0) rfl
 have c1:=blk_cell HT3.out (i:=1) (u:=.slice none 0 0) rfl
 have c2:=blk_cell HT3.out (i:=2) (u:=.slice none 0 0) rfl
 have f0:=blk_free HT3.out (i:=0)
 have f1:=blk_free HT3.out (i:=1)
 have f2:=blk_free HT3.out (i:=2)
 go_wp2_with fail
 try simp only[Exit.inBlock,Exit.then]
 refine bodyPost_ret (v:=.tuple #[.agg #[.slice none 0 0,.slice none 0 0,.slice none 0 0],.bool false,.nilIface]) ?_ rfl (BePost.no HN.out HE.out (set3_below HB3.out (by omega) _ _ _))
 simp[results,Tryz.results67,go_sem,asAddr,Result.andThen,c0,c1,c2]
theorem behind_state (m:Mem) (S:Dq) (G:Nat→Prop) (a b t:Int) (p:ByteArray) (c:Int) (vs:Value) (s:List Dt) (w:World) (h:DocOk w m S G) (hd:DtsAt w vs s) (hp:p.size≤maxLen) (ho:opE ((a,b),t,p,c,s)=0) (hk:Dm.hasB S.known a b=false) (ha:Dm.addE S.known a b=6) (hkn:kn S a<b-1):
  Calls Tryz.prog 67 #[.pointer (some ⟨m.D,0,none⟩),.agg #[.int .i64 a,.int .i64 b,.int .i64 t,.string p,.int .i64 c,vs]] w (BePost w S G ((a,b),t,p,c,s)):=by
 have HB1:Hid (Below w.heap.size w ((w.alloc (.cells #[.int .i64 a,.int .i64 b,.int .i64 t,.string p,.int .i64 c,vs] 75)).alloc (.cells #[.slice none 0 0,.slice none 0 0,.slice none 0 0] 106))):=((Below.refl _ w).alloc (Nat.le_refl _) _).alloc (by simp) _
 have H6:Hid (Six ((w.alloc (.cells #[.int .i64 a,.int .i64 b,.int .i64 t,.string p,.int .i64 c,vs] 75)).alloc (.cells #[.slice none 0 0,.slice none 0 0,.slice none 0 0] 106)) w.heap.size a b t p c vs):=(six_new w a b t p c vs 75).below ((Below.refl _ _).alloc (Nat.le_refl _) _)
 have HT1:Hid (Ct ((w.alloc (.cells #[.int .i64 a,.int .i64 b,.int .i64 t,.string p,.int .i64 c,vs] 75)).alloc (.cells #[.slice none 0 0,.slice none 0 0,.slice none 0 0] 106)) (w.heap.size+1)):=ct_new w _
 have CCk:Hid (∀W,Below w.heap.size w W→Calls Tryz.prog 110 #[.agg #[.int .i64 a,.int .i64 b,.int .i64 t,.string p,.int .i64 c,vs]] W fun e w'=>e=.returned (errV (opE ((a,b),t,p,c,s)))∧Below W.heap.size W w'):=fun W hb=>Vc.check_says a b t p c vs s W (hd.below hb) hp
 have HN:Hid (isNew S ((a,b),t,p,c,s)=false):=by
  unfold Hid
  cases h9:isNew S ((a,b),t,p,c,s)
  ·rfl
  ·have:=(isNew_iff.1 h9).2.1;simp only at this;omega
 have HE:Hid (errV (apE S ((a,b),t,p,c,s))=.iface 84 (.int .i64 6)):=by unfold Hid apE;rw[if_neg (by simpa using ho),if_neg (show¬b≤kn S a by omega),if_pos hkn];rfl
 have CKn:Hid (∀W,Below w.heap.size w W→Calls Tryz.prog 111 #[.pointer (some ⟨m.D,0,none⟩),.agg #[.int .i64 a,.int .i64 b]] W fun e w'=>e=.returned (.bool false)∧Below W.heap.size W w'):=fun W hb=>by
  have:=knows_any m S G a b W (h.mem.below hb)
  rw[hk] at this;exact this
 rw[ho] at CCk
 simp only[errV_zero] at CCk
 obtain⟨pk,nk,ck,hvk⟩:∃p n c,m.vk=.slice p n c:=by obtain⟨p,c,e,_⟩:=h.mem.known;exact⟨_,_,_,e⟩
 obtain⟨po,no,co,hvo⟩:∃p n c,m.vo=.slice p n c:=by obtain⟨L,_,e,_⟩:=h.mem.ops;obtain⟨p,n,c,e2,_⟩:=own_shape e;exact⟨p,n,c,e2⟩
 obtain⟨pb,nb,cb,hvb⟩:∃p n c,m.vb=.slice p n c:=by obtain⟨p,c,e,_⟩:=h.mem.book;exact⟨_,_,_,e⟩
 obtain⟨pm,nm,cm,hvm⟩:∃p n c,m.vm=.slice p n c:=by obtain⟨p,c,e,_⟩:=h.mem.marks;exact⟨_,_,_,e⟩
 have HVO:=z9 hvo
 have HVK:=z9 hvk
 have HNO:Hid (no=S.ops.length):=by
  obtain⟨L,_,e,_⟩:=h.mem.ops
  obtain⟨p,n,c,e2,e3⟩:=own_shape e
  rw[hvo] at e2
  injection e2 with _ e2 _
  exact e2.trans e3.out
 have HBL:Hid (∀W,Below w.heap.size w W→W.heap[m.D]? =some (.cells #[.slice pb nb cb,.slice pm nm cm,.slice pk nk ck,.slice po no co,.map (some m.B)] 109)):=fun W hb=>by
  have:=(h.mem.below hb).blk
  rw[hvk,hvo,hvb,hvm] at this;exact this
 have CAd:Hid (∀W,Below w.heap.size w W→Calls Tryz.prog 112 #[.slice pk nk ck,.agg #[.int .i64 a,.int .i64 b]] W fun e w'=>e=.returned (.tuple #[.slice none 0 0,.iface 84 (.int .i64 6)])∧Below W.heap.size W w'):=fun W hb=>by
  obtain⟨q,cc,e,hi⟩:=h.mem.known
  rw[hvk] at e
  injection e with e1 e2 e3
  subst e1 e2 e3
  exact Dd.add_no pk _ ck S.known a b W rfl (hi.below hb) (by rw[ha];decide) 6 ha
 obtain⟨D,hD⟩:∃D,D=m.D:=⟨_,rfl⟩
 have HD:=z9 hD
 rw[←hD]
 rw[←hD] at CKn HBL
 clear h hd hp ho hk hkn ha hD hvk hvo hvb hvm
 go_enter Tryz.func67,Tryz.ntmps67
 obtain⟨o0,o1,o2,o3,o4,o5⟩:=H6.out
 go_wp2_with fail
 refine(CCk.out _ HB1.out).mono ?_
 rintro e w2 ⟨rfl,hb2⟩
 have HB2:=z9 (bel HB1.out hb2)
 have HT2:=z9 (keep_heap hb2 HT1.out)
 have HS2:=z9 (H6.out.below hb2)
 clear hb2 o0 o1 o2 o3 o4 o5 CCk H6 HB1
 obtain⟨o0,o1,o2,o3,o4,o5⟩:=HS2.out
 go_wp2_with fail
 refine(CKn.out w2 HB2.out).mono ?_
 rintro e w3 ⟨rfl,hb3⟩
 have HB3:=z9 (bel HB2.out hb3)
 have HT3:=z9 (keep_heap hb3 HT2.out)
 have HS3:=z9 (HS2.out.below hb3)
 clear hb3 o0 o1 o2 o3 o4 o5 CKn HS2 HB2
 obtain⟨o0,o1,o2,o3,o4,o5⟩:=HS3.out
 have d2:=blk_cell (HBL.out w3 HB3.out) (i:=2) (u:=.slice pk nk ck) rfl
 go_wp2_with fail
 go_region_held3 (fun W=>W.cell? ⟨D,2,none⟩=some (.slice pk nk ck)∧W.cell? ⟨w.heap.size,0,none⟩=some (.int .i64 a)∧W.cell? ⟨w.heap.size,1,none⟩=some (.int .i64 b)) (first | (go_keep;done) | (refine⟨keep_cell hb7 ?_,keep_cell hb7 ?_,keep_cell hb7 ?_⟩<;>(go_split_ands;assumption))) (first
  | (go_at_call 112;refine(CAd.out _ HB3.out.drew).mono ?_;rintro e w4 ⟨rfl,hb7⟩;have HB4:=z9 (bel HB3.out.drew hb7);have HT4:=z9 (keep_heap (un_drew hb7) HT3.out)))
 all_goals
  clear hb7
  have c0:=blk_cell HT4.out (i:=0) (u:=.slice none 0 0) rfl
  have c1:=blk_cell HT4.out (i:=1) (u:=.slice none 0 0) rfl
  have c2:=blk_cell HT4.out (i:=2) (u:=.slice none 0 0) rfl
  have f0:=blk_free HT4.out (i:=0)
  have f1:=blk_free HT4.out (i:=1)
  have f2:=blk_free HT4.out (i:=2)
  go_wp2_with fail
  try simp only[Exit.inBlock,Exit.then]
  refine bodyPost_ret (v:=.tuple #[.agg #[.slice none 0 0,.slice none 0 0,.slice none 0 0],.bool false,.iface 84 (.int .i64 6)]) ?_ rfl (BePost.no HN.out HE.out (set3_below HB4.out (by omega) _ _ _))
  simp[results,Tryz.results67,go_sem,asAddr,Result.andThen,c0,c1,c2]
theorem behind_full (m : Mem) (S : Dq) (G : Nat → Prop) (a b t : Int) (p : ByteArray) (c : Int) (vs : Value) (s : List Dt) (w : World) (h : DocOk w m S G) (hd : DtsAt w vs s) (hp : p.size ≤ maxLen) (ho : opE ((a, b), t, p, c, s) = 0) (hk : Dm.hasB S.known a b = false) (ha : Dm.addE S.known a b = 0) (hkn : kn S a + 1 = b) (hfull : 400 ≤ S.ops.length) :
  Calls Tryz.prog 67 #[.pointer (some ⟨m.D, 0, none⟩), .agg #[.int .i64 a, .int .i64 b, .int .i64 t, .string p, .int .i64 c, vs]] w (BePost w S G ((a, b), t, p, c, s)) := by
 have HB1 : Hid (Below w.heap.size w ((w.alloc (.cells #[.int .i64 a, .int .i64 b, .int .i64 t, .string p, .int .i64 c, vs] 75)).alloc (.cells #[.slice none 0 0, .slice none 0 0, .slice none 0 0] 106))) := ((Below.refl _ w).alloc (Nat.le_refl _) _).alloc (by simp) _
 have H6 : Hid (Six ((w.alloc (.cells #[.int .i64 a, .int .i64 b, .int .i64 t, .string p, .int .i64 c, vs] 75)).alloc (.cells #[.slice none 0 0, .slice none 0 0, .slice none 0 0] 106)) w.heap.size a b t p c vs) := (six_new w a b t p c vs 75).below ((Below.refl _ _).alloc (Nat.le_refl _) _)
 have HT1 : Hid (Ct ((w.alloc (.cells #[.int .i64 a, .int .i64 b, .int .i64 t, .string p, .int .i64 c, vs] 75)).alloc (.cells #[.slice none 0 0, .slice none 0 0, .slice none 0 0] 106)) (w.heap.size + 1)) := ct_new w _
 have CCk : Hid (∀ W, Below w.heap.size w W → Calls Tryz.prog 110 #[.agg #[.int .i64 a, .int .i64 b, .int .i64 t, .string p, .int .i64 c, vs]] W fun e w' => e = .returned (errV (opE ((a, b), t, p, c, s))) ∧ Below W.heap.size W w') := fun W hb => Vc.check_says a b t p c vs s W (hd.below hb) hp
 have HN : Hid (isNew S ((a, b), t, p, c, s) = false) := by
  unfold Hid
  cases h9 : isNew S ((a, b), t, p, c, s)
  ·rfl
  ·have := (isNew_iff.1 h9).2.2.1; omega
 have HE : Hid (errV (apE S ((a, b), t, p, c, s)) = .iface 84 (.int .i64 4)) := by unfold Hid apE; rw [if_neg (by simpa using ho), if_neg (show ¬ b ≤ kn S a by omega), if_neg (show ¬ kn S a < b - 1 by omega), if_pos hfull]; rfl
 have CKn : Hid (∀ W, Below w.heap.size w W → Calls Tryz.prog 111 #[.pointer (some ⟨m.D, 0, none⟩), .agg #[.int .i64 a, .int .i64 b]] W fun e w' => e = .returned (.bool false) ∧ Below W.heap.size W w') := fun W hb => by
  have := knows_any m S G a b W (h.mem.below hb)
  rw [hk] at this; exact this
 rw [ho] at CCk
 simp only [errV_zero] at CCk
 obtain ⟨pk, nk, ck, hvk⟩ : ∃ p n c, m.vk = .slice p n c := by obtain ⟨p, c, e, _⟩ := h.mem.known; exact ⟨_, _, _, e⟩
 obtain ⟨po, no, co, hvo⟩ : ∃ p n c, m.vo = .slice p n c := by obtain ⟨L, _, e, _⟩ := h.mem.ops; obtain ⟨p, n, c, e2, _⟩ := own_shape e; exact ⟨p, n, c, e2⟩
 obtain ⟨pb, nb, cb, hvb⟩ : ∃ p n c, m.vb = .slice p n c := by obtain ⟨p, c, e, _⟩ := h.mem.book; exact ⟨_, _, _, e⟩
 obtain ⟨pm, nm, cm, hvm⟩ : ∃ p n c, m.vm = .slice p n c := by obtain ⟨p, c, e, _⟩ := h.mem.marks; exact ⟨_, _, _, e⟩
 have HVO : Hid (m.vo = .slice po no co) := hvo
 have HVK : Hid (m.vk = .slice pk nk ck) := hvk
 have HNO : Hid (no = S.ops.length) := by
  obtain ⟨L, _, e, _⟩ := h.mem.ops
  obtain ⟨p, n, c, e2, e3⟩ := own_shape e
  rw [hvo] at e2
  injection e2 with _ e2 _
  exact e2.trans e3.out
 have HBL : Hid (∀ W, Below w.heap.size w W → W.heap[m.D]? = some (.cells #[.slice pb nb cb, .slice pm nm cm, .slice pk nk ck, .slice po no co, .map (some m.B)] 109)) := fun W hb => by
  have := (h.mem.below hb).blk
  rw [hvk, hvo, hvb, hvm] at this; exact this
 have CAd : Hid (∀ W, Below w.heap.size w W → Calls Tryz.prog 112 #[.slice pk nk ck, .agg #[.int .i64 a, .int .i64 b]] W fun e w' => ∃ g cap, e = .returned (.tuple #[.slice (some ⟨g, 0, none⟩) 8 cap, .nilIface]) ∧ Za.IntsIn w' (some ⟨g, 0, none⟩) (S.known.set (a - 1).toNat b) ∧ W.heap.size ≤ g ∧ Below W.heap.size W w') := fun W hb => by
  obtain ⟨q, cc, e, hi⟩ := h.mem.known
  rw [hvk] at e
  injection e with e1 e2 e3
  subst e1 e2 e3
  exact Dd.add_loc pk _ ck S.known a b W rfl (hi.below hb) ha
 have hfz : (400 : Int) ≤ no := by have := HNO.out; omega
 obtain ⟨D, hD⟩ : ∃ D, D = m.D := ⟨_, rfl⟩
 have HD : Hid (D = m.D) := hD
 rw [← hD]
 rw [← hD] at CKn HBL
 clear h hd hp ho hk hkn ha hD hvk hvo hvb hvm hfull
 go_enter Tryz.func67, Tryz.ntmps67
 obtain ⟨o0, o1, o2, o3, o4, o5⟩ := H6.out
 go_wp2_with fail
 refine (CCk.out _ HB1.out).mono ?_
 rintro e w2 ⟨rfl, hb2⟩
 have HB2 : Hid (Below w.heap.size w w2) := bel HB1.out hb2
 have HT2 : Hid (Ct w2 (w.heap.size + 1)) := keep_heap hb2 HT1.out
 have HS2 : Hid (Six w2 w.heap.size a b t p c vs) := H6.out.below hb2
 clear hb2 o0 o1 o2 o3 o4 o5 CCk H6 HB1
 obtain ⟨o0, o1, o2, o3, o4, o5⟩ := HS2.out
 go_wp2_with fail
 refine (CKn.out w2 HB2.out).mono ?_
 rintro e w3 ⟨rfl, hb3⟩
 have HB3 : Hid (Below w.heap.size w w3) := bel HB2.out hb3
 have HT3 : Hid (Ct w3 (w.heap.size + 1)) := keep_heap hb3 HT2.out
 have HS3 : Hid (Six w3 w.heap.size a b t p c vs) := HS2.out.below hb3
 clear hb3 o0 o1 o2 o3 o4 o5 CKn HS2 HB2
 obtain ⟨o0, o1, o2, o3, o4, o5⟩ := HS3.out
 have d2 := blk_cell (HBL.out w3 HB3.out) (i := 2) (u := .slice pk nk ck) rfl
 go_wp2_with fail
 go_region_held3 (fun W => W.cell? ⟨D, 2, none⟩ = some (.slice pk nk ck) ∧ W.cell? ⟨w.heap.size, 0, none⟩ = some (.int .i64 a) ∧ W.cell? ⟨w.heap.size, 1, none⟩ = some (.int .i64 b)) (first | (go_keep; done) | (refine ⟨keep_cell hb7 ?_, keep_cell hb7 ?_, keep_cell hb7 ?_⟩ <;> (go_split_ands; assumption))) (first
  | (go_at_call 112; refine (CAd.out _ HB3.out.drew).mono ?_; rintro e w4 ⟨gk, ck2, rfl, hk4, hgk, hb7⟩; have HB4 : Hid (Below w.heap.size w w4) := bel HB3.out.drew hb7; have HT4 : Hid (Ct w4 (w.heap.size + 1)) := keep_heap (un_drew hb7) HT3.out; have HK4 : Hid (Za.IntsIn w4 (some ⟨gk, 0, none⟩) (S.known.set (a - 1).toNat b)) := hk4; have HGK : Hid (w.heap.size + 1 < gk) := Nat.lt_of_lt_of_le HT3.out.lt hgk; have HS4 : Hid (Six w4 w.heap.size a b t p c vs) := HS3.out.below (un_drew hb7); clear hk4 hgk))
 all_goals
  clear hb7 o0 o1 o2 o3 o4 o5 d2 HS3 HB3 CAd
  have d3 := blk_cell (HBL.out w4 HB4.out) (i := 3) (u := .slice po no co) rfl
  obtain ⟨o0, o1, o2, o3, o4, o5⟩ := HS4.out
  have c0 := blk_cell HT4.out (i := 0) (u := .slice none 0 0) rfl
  have c1 := blk_cell HT4.out (i := 1) (u := .slice none 0 0) rfl
  have c2 := blk_cell HT4.out (i := 2) (u := .slice none 0 0) rfl
  have f0 := blk_free HT4.out (i := 0)
  have f1 := blk_free HT4.out (i := 1)
  have f2 := blk_free HT4.out (i := 2)
  go_wp2_with fail
  try simp only [Exit.inBlock, Exit.then]
  refine bodyPost_ret (v := .tuple #[.agg #[.slice none 0 0, .slice none 0 0, .slice none 0 0], .bool false, .iface 84 (.int .i64 4)]) ?_ rfl (BePost.no HN.out HE.out (set3_below HB4.out (by omega) _ _ _))
  simp [results, Tryz.results67, go_sem, asAddr, Result.andThen, c0, c1, c2]
theorem behind_no (m : Mem) (S : Dq) (G : Nat → Prop) (a b t : Int) (p : ByteArray) (c : Int) (vs : Value) (s : List Dt) (w : World) (h : DocOk w m S G) (hd : DtsAt w vs s) (hp : p.size ≤ maxLen) (ho : opE ((a, b), t, p, c, s) = 0) (hk : Dm.hasB S.known a b = false) (ha : Dm.addE S.known a b = 0) (hkn : kn S a + 1 = b) (hun : kn S a < b) (hfew : S.ops.length < 400) (k : Int) (hdo : doE S ((a, b), t, p, c, s) = k) (h0 : k ≠ 0) :
  Calls Tryz.prog 67 #[.pointer (some ⟨m.D, 0, none⟩), .agg #[.int .i64 a, .int .i64 b, .int .i64 t, .string p, .int .i64 c, vs]] w (BePost w S G ((a, b), t, p, c, s)) := by
 have HB1 : Hid (Below w.heap.size w ((w.alloc (.cells #[.int .i64 a, .int .i64 b, .int .i64 t, .string p, .int .i64 c, vs] 75)).alloc (.cells #[.slice none 0 0, .slice none 0 0, .slice none 0 0] 106))) := ((Below.refl _ w).alloc (Nat.le_refl _) _).alloc (by simp) _
 have H6 : Hid (Six ((w.alloc (.cells #[.int .i64 a, .int .i64 b, .int .i64 t, .string p, .int .i64 c, vs] 75)).alloc (.cells #[.slice none 0 0, .slice none 0 0, .slice none 0 0] 106)) w.heap.size a b t p c vs) := (six_new w a b t p c vs 75).below ((Below.refl _ _).alloc (Nat.le_refl _) _)
 have HT1 : Hid (Ct ((w.alloc (.cells #[.int .i64 a, .int .i64 b, .int .i64 t, .string p, .int .i64 c, vs] 75)).alloc (.cells #[.slice none 0 0, .slice none 0 0, .slice none 0 0] 106)) (w.heap.size + 1)) := ct_new w _
 have CCk : Hid (∀ W, Below w.heap.size w W → Calls Tryz.prog 110 #[.agg #[.int .i64 a, .int .i64 b, .int .i64 t, .string p, .int .i64 c, vs]] W fun e w' => e = .returned (errV (opE ((a, b), t, p, c, s))) ∧ Below W.heap.size W w') := fun W hb => Vc.check_says a b t p c vs s W (hd.below hb) hp
 have HN : Hid (isNew S ((a, b), t, p, c, s) = false) := by
  unfold Hid
  cases h9 : isNew S ((a, b), t, p, c, s)
  ·rfl
  ·have := (isNew_iff.1 h9).2.2.2; rw [hdo] at this; exact absurd this h0
 have HE : Hid (errV (apE S ((a, b), t, p, c, s)) = .iface 84 (.int .i64 k)) := by unfold Hid apE; rw [if_neg (by simpa using ho), if_neg (show ¬ b ≤ kn S a by omega), if_neg (show ¬ kn S a < b - 1 by omega), if_neg (by omega), hdo, errV_ne h0]
 have HDE : Hid (doE S ((a, b), t, p, c, s) = k) := hdo
 have H0 : Hid (k ≠ 0) := h0
 have CKn : Hid (∀ W, Below w.heap.size w W → Calls Tryz.prog 111 #[.pointer (some ⟨m.D, 0, none⟩), .agg #[.int .i64 a, .int .i64 b]] W fun e w' => e = .returned (.bool false) ∧ Below W.heap.size W w') := fun W hb => by
  have := knows_any m S G a b W (h.mem.below hb)
  rw [hk] at this; exact this
 rw [ho] at CCk
 simp only [errV_zero] at CCk
 obtain ⟨pk, nk, ck, hvk⟩ : ∃ p n c, m.vk = .slice p n c := by obtain ⟨p, c, e, _⟩ := h.mem.known; exact ⟨_, _, _, e⟩
 obtain ⟨po, no, co, hvo⟩ : ∃ p n c, m.vo = .slice p n c := by obtain ⟨L, _, e, _⟩ := h.mem.ops; obtain ⟨p, n, c, e2, _⟩ := own_shape e; exact ⟨p, n, c, e2⟩
 obtain ⟨pb, nb, cb, hvb⟩ : ∃ p n c, m.vb = .slice p n c := by obtain ⟨p, c, e, _⟩ := h.mem.book; exact ⟨_, _, _, e⟩
 obtain ⟨pm, nm, cm, hvm⟩ : ∃ p n c, m.vm = .slice p n c := by obtain ⟨p, c, e, _⟩ := h.mem.marks; exact ⟨_, _, _, e⟩
 have HVO : Hid (m.vo = .slice po no co) := hvo
 have HVK : Hid (m.vk = .slice pk nk ck) := hvk
 have HNO : Hid (no = S.ops.length) := by
  obtain ⟨L, _, e, _⟩ := h.mem.ops
  obtain ⟨p, n, c, e2, e3⟩ := own_shape e
  rw [hvo] at e2
  injection e2 with _ e2 _
  exact e2.trans e3.out
 have HBL : Hid (∀ W, Below w.heap.size w W → W.heap[m.D]? = some (.cells #[.slice pb nb cb, .slice pm nm cm, .slice pk nk ck, .slice po no co, .map (some m.B)] 109)) := fun W hb => by
  have := (h.mem.below hb).blk
  rw [hvk, hvo, hvb, hvm] at this; exact this
 have CAd : Hid (∀ W, Below w.heap.size w W → Calls Tryz.prog 112 #[.slice pk nk ck, .agg #[.int .i64 a, .int .i64 b]] W fun e w' => ∃ g cap, e = .returned (.tuple #[.slice (some ⟨g, 0, none⟩) 8 cap, .nilIface]) ∧ Za.IntsIn w' (some ⟨g, 0, none⟩) (S.known.set (a - 1).toNat b) ∧ W.heap.size ≤ g ∧ Below W.heap.size W w') := fun W hb => by
  obtain ⟨q, cc, e, hi⟩ := h.mem.known
  rw [hvk] at e
  injection e with e1 e2 e3
  subst e1 e2 e3
  exact Dd.add_loc pk _ ck S.known a b W rfl (hi.below hb) ha
 have CDo : Hid (∀ W, Below w.heap.size w W → Calls Tryz.prog 113 #[.pointer (some ⟨m.D, 0, none⟩), .agg #[.int .i64 a, .int .i64 b, .int .i64 t, .string p, .int .i64 c, vs]] W (DoPost W m S G ((a, b), t, p, c, s))) := fun W hb => do_any m S G a b t p c vs s W ⟨h.mem.below hb, h.inv, h.jn, h.short⟩ ho (hd.below hb) hun
 have hfz : ¬ (400 : Int) ≤ no := by have := HNO.out; omega
 obtain ⟨D, hD⟩ : ∃ D, D = m.D := ⟨_, rfl⟩
 have HD : Hid (D = m.D) := hD
 rw [← hD]
 rw [← hD] at CKn HBL CDo
 clear h hd hp ho hk hkn ha hD hvk hvo hvb hvm hfew hun hdo h0
 go_enter Tryz.func67, Tryz.ntmps67
 obtain ⟨o0, o1, o2, o3, o4, o5⟩ := H6.out
 go_wp2_with fail
 refine (CCk.out _ HB1.out).mono ?_
 rintro e w2 ⟨rfl, hb2⟩
 have HB2 : Hid (Below w.heap.size w w2) := bel HB1.out hb2
 have HT2 : Hid (Ct w2 (w.heap.size + 1)) := keep_heap hb2 HT1.out
 have HS2 : Hid (Six w2 w.heap.size a b t p c vs) := H6.out.below hb2
 clear hb2 o0 o1 o2 o3 o4 o5 CCk H6 HB1
 obtain ⟨o0, o1, o2, o3, o4, o5⟩ := HS2.out
 go_wp2_with fail
 refine (CKn.out w2 HB2.out).mono ?_
 rintro e w3 ⟨rfl, hb3⟩
 have HB3 : Hid (Below w.heap.size w w3) := bel HB2.out hb3
 have HT3 : Hid (Ct w3 (w.heap.size + 1)) := keep_heap hb3 HT2.out
 have HS3 : Hid (Six w3 w.heap.size a b t p c vs) := HS2.out.below hb3
 clear hb3 o0 o1 o2 o3 o4 o5 CKn HS2 HB2
 obtain ⟨o0, o1, o2, o3, o4, o5⟩ := HS3.out
 have d2 := blk_cell (HBL.out w3 HB3.out) (i := 2) (u := .slice pk nk ck) rfl
 go_wp2_with fail
 go_region_held3 (fun W => W.cell? ⟨D, 2, none⟩ = some (.slice pk nk ck) ∧ W.cell? ⟨w.heap.size, 0, none⟩ = some (.int .i64 a) ∧ W.cell? ⟨w.heap.size, 1, none⟩ = some (.int .i64 b)) (first | (go_keep; done) | (refine ⟨keep_cell hb7 ?_, keep_cell hb7 ?_, keep_cell hb7 ?_⟩ <;> (go_split_ands; assumption))) (first
  | (go_at_call 112; refine (CAd.out _ HB3.out.drew).mono ?_; rintro e w4 ⟨gk, ck2, rfl, hk4, hgk, hb7⟩; have HB4 : Hid (Below w.heap.size w w4) := bel HB3.out.drew hb7; have HT4 : Hid (Ct w4 (w.heap.size + 1)) := keep_heap (un_drew hb7) HT3.out; have HK4 : Hid (Za.IntsIn w4 (some ⟨gk, 0, none⟩) (S.known.set (a - 1).toNat b)) := hk4; have HGK : Hid (w.heap.size + 1 < gk) := Nat.lt_of_lt_of_le HT3.out.lt hgk; have HS4 : Hid (Six w4 w.heap.size a b t p c vs) := HS3.out.below (un_drew hb7); clear hk4 hgk))
 all_goals
  clear hb7 o0 o1 o2 o3 o4 o5 d2 HS3 HB3 CAd
  have d3 := blk_cell (HBL.out w4 HB4.out) (i := 3) (u := .slice po no co) rfl
  obtain ⟨o0, o1, o2, o3, o4, o5⟩ := HS4.out
  go_wp2_with fail
  refine (CDo.out w4 HB4.out).mono ?_
  rintro e w5 ⟨vb5, vm5, he, hb5, _⟩
  rw [HDE.out, errV_ne H0.out] at he
  subst he
  have HB5 : Hid (Below w.heap.size w w5) := bel HB4.out hb5
  have HT5 : Hid (Ct w5 (w.heap.size + 1)) := keep_heap hb5 HT4.out
  clear hb5 CDo
  have c0 := blk_cell HT5.out (i := 0) (u := .slice none 0 0) rfl
  have c1 := blk_cell HT5.out (i := 1) (u := .slice none 0 0) rfl
  have c2 := blk_cell HT5.out (i := 2) (u := .slice none 0 0) rfl
  have f0 := blk_free HT5.out (i := 0)
  have f1 := blk_free HT5.out (i := 1)
  have f2 := blk_free HT5.out (i := 2)
  go_wp2_with fail
  try simp only [Exit.inBlock, Exit.then]
  refine bodyPost_ret (v := .tuple #[.agg #[.slice none 0 0, .slice none 0 0, .slice none 0 0], .bool false, .iface 84 (.int .i64 k)]) ?_ rfl (BePost.no HN.out HE.out (set3_below HB5.out (by omega) _ _ _))
  simp [results, Tryz.results67, go_sem, asAddr, Result.andThen, c0, c1, c2]
theorem behind_yes (m : Mem) (S : Dq) (G : Nat → Prop) (a b t : Int) (p : ByteArray) (c : Int) (vs : Value) (s : List Dt) (w : World) (h : DocOk w m S G) (hd : DtsAt w vs s) (hp : p.size ≤ maxLen) (ho : opE ((a, b), t, p, c, s) = 0) (hk : Dm.hasB S.known a b = false) (ha : Dm.addE S.known a b = 0) (hkn : kn S a + 1 = b) (hun : kn S a < b) (hfew : S.ops.length < 400) (hdo : doE S ((a, b), t, p, c, s) = 0) :
  Calls Tryz.prog 67 #[.pointer (some ⟨m.D, 0, none⟩), .agg #[.int .i64 a, .int .i64 b, .int .i64 t, .string p, .int .i64 c, vs]] w (BePost w S G ((a, b), t, p, c, s)) := by
 have HB1 : Hid (Below w.heap.size w ((w.alloc (.cells #[.int .i64 a, .int .i64 b, .int .i64 t, .string p, .int .i64 c, vs] 75)).alloc (.cells #[.slice none 0 0, .slice none 0 0, .slice none 0 0] 106))) := ((Below.refl _ w).alloc (Nat.le_refl _) _).alloc (by simp) _
 have H6 : Hid (Six ((w.alloc (.cells #[.int .i64 a, .int .i64 b, .int .i64 t, .string p, .int .i64 c, vs] 75)).alloc (.cells #[.slice none 0 0, .slice none 0 0, .slice none 0 0] 106)) w.heap.size a b t p c vs) := (six_new w a b t p c vs 75).below ((Below.refl _ _).alloc (Nat.le_refl _) _)
 have HT1 : Hid (Ct ((w.alloc (.cells #[.int .i64 a, .int .i64 b, .int .i64 t, .string p, .int .i64 c, vs] 75)).alloc (.cells #[.slice none 0 0, .slice none 0 0, .slice none 0 0] 106)) (w.heap.size + 1)) := ct_new w _
 have CCk : Hid (∀ W, Below w.heap.size w W → Calls Tryz.prog 110 #[.agg #[.int .i64 a, .int .i64 b, .int .i64 t, .string p, .int .i64 c, vs]] W fun e w' => e = .returned (errV (opE ((a, b), t, p, c, s))) ∧ Below W.heap.size W w') := fun W hb => Vc.check_says a b t p c vs s W (hd.below hb) hp
 have HNEW : Hid (isNew S ((a, b), t, p, c, s) = true) := isNew_iff.2 ⟨ho, hkn, hfew, hdo⟩
 have HDE : Hid (doE S ((a, b), t, p, c, s) = 0) := hdo
 have HLT : Hid (∀ g, G g → g < w.heap.size) := h.mem.lt
 have HL8 : Hid ((S.known.set (a - 1).toNat b).length = 8) := by unfold Hid; rw [List.length_set]; exact h.inv.klen
 have CKn : Hid (∀ W, Below w.heap.size w W → Calls Tryz.prog 111 #[.pointer (some ⟨m.D, 0, none⟩), .agg #[.int .i64 a, .int .i64 b]] W fun e w' => e = .returned (.bool false) ∧ Below W.heap.size W w') := fun W hb => by
  have := knows_any m S G a b W (h.mem.below hb)
  rw [hk] at this; exact this
 rw [ho] at CCk
 simp only [errV_zero] at CCk
 obtain ⟨pk, nk, ck, hvk⟩ : ∃ p n c, m.vk = .slice p n c := by obtain ⟨p, c, e, _⟩ := h.mem.known; exact ⟨_, _, _, e⟩
 obtain ⟨po, no, co, hvo⟩ : ∃ p n c, m.vo = .slice p n c := by obtain ⟨L, _, e, _⟩ := h.mem.ops; obtain ⟨p, n, c, e2, _⟩ := own_shape e; exact ⟨p, n, c, e2⟩
 obtain ⟨pb, nb, cb, hvb⟩ : ∃ p n c, m.vb = .slice p n c := by obtain ⟨p, c, e, _⟩ := h.mem.book; exact ⟨_, _, _, e⟩
 obtain ⟨pm, nm, cm, hvm⟩ : ∃ p n c, m.vm = .slice p n c := by obtain ⟨p, c, e, _⟩ := h.mem.marks; exact ⟨_, _, _, e⟩
 have HVO : Hid (m.vo = .slice po no co) := hvo
 have HVK : Hid (m.vk = .slice pk nk ck) := hvk
 have HNO : Hid (no = S.ops.length) := by
  obtain ⟨L, _, e, _⟩ := h.mem.ops
  obtain ⟨p, n, c, e2, e3⟩ := own_shape e
  rw [hvo] at e2
  injection e2 with _ e2 _
  exact e2.trans e3.out
 have HBL : Hid (∀ W, Below w.heap.size w W → W.heap[m.D]? = some (.cells #[.slice pb nb cb, .slice pm nm cm, .slice pk nk ck, .slice po no co, .map (some m.B)] 109)) := fun W hb => by
  have := (h.mem.below hb).blk
  rw [hvk, hvo, hvb, hvm] at this; exact this
 have CAd : Hid (∀ W, Below w.heap.size w W → Calls Tryz.prog 112 #[.slice pk nk ck, .agg #[.int .i64 a, .int .i64 b]] W fun e w' => ∃ g cap, e = .returned (.tuple #[.slice (some ⟨g, 0, none⟩) 8 cap, .nilIface]) ∧ Za.IntsIn w' (some ⟨g, 0, none⟩) (S.known.set (a - 1).toNat b) ∧ W.heap.size ≤ g ∧ Below W.heap.size W w') := fun W hb => by
  obtain ⟨q, cc, e, hi⟩ := h.mem.known
  rw [hvk] at e
  injection e with e1 e2 e3
  subst e1 e2 e3
  exact Dd.add_loc pk _ ck S.known a b W rfl (hi.below hb) ha
 have CDo : Hid (∀ W, Below w.heap.size w W → Calls Tryz.prog 113 #[.pointer (some ⟨m.D, 0, none⟩), .agg #[.int .i64 a, .int .i64 b, .int .i64 t, .string p, .int .i64 c, vs]] W (DoPost W m S G ((a, b), t, p, c, s))) := fun W hb => do_any m S G a b t p c vs s W ⟨h.mem.below hb, h.inv, h.jn, h.short⟩ ho (hd.below hb) hun
 have hfz : ¬ (400 : Int) ≤ no := by have := HNO.out; omega
 obtain ⟨D, hD⟩ : ∃ D, D = m.D := ⟨_, rfl⟩
 have HD : Hid (D = m.D) := hD
 rw [← hD]
 rw [← hD] at CKn HBL CDo
 clear h hd hp ho hk hkn ha hD hvk hvo hvb hvm hfew hun hdo
 go_enter Tryz.func67, Tryz.ntmps67
 obtain ⟨o0, o1, o2, o3, o4, o5⟩ := H6.out
 go_wp2_with fail
 refine (CCk.out _ HB1.out).mono ?_
 rintro e w2 ⟨rfl, hb2⟩
 have HB2 : Hid (Below w.heap.size w w2) := bel HB1.out hb2
 have HT2 : Hid (Ct w2 (w.heap.size + 1)) := keep_heap hb2 HT1.out
 have HS2 : Hid (Six w2 w.heap.size a b t p c vs) := H6.out.below hb2
 clear hb2 o0 o1 o2 o3 o4 o5 CCk H6 HB1
 obtain ⟨o0, o1, o2, o3, o4, o5⟩ := HS2.out
 go_wp2_with fail
 refine (CKn.out w2 HB2.out).mono ?_
 rintro e w3 ⟨rfl, hb3⟩
 have HB3 : Hid (Below w.heap.size w w3) := bel HB2.out hb3
 have HT3 : Hid (Ct w3 (w.heap.size + 1)) := keep_heap hb3 HT2.out
 have HS3 : Hid (Six w3 w.heap.size a b t p c vs) := HS2.out.below hb3
 clear hb3 o0 o1 o2 o3 o4 o5 CKn HS2 HB2
 obtain ⟨o0, o1, o2, o3, o4, o5⟩ := HS3.out
 have d2 := blk_cell (HBL.out w3 HB3.out) (i := 2) (u := .slice pk nk ck) rfl
 go_wp2_with fail
 go_region_held3 (fun W => W.cell? ⟨D, 2, none⟩ = some (.slice pk nk ck) ∧ W.cell? ⟨w.heap.size, 0, none⟩ = some (.int .i64 a) ∧ W.cell? ⟨w.heap.size, 1, none⟩ = some (.int .i64 b)) (first | (go_keep; done) | (refine ⟨keep_cell hb7 ?_, keep_cell hb7 ?_, keep_cell hb7 ?_⟩ <;> (go_split_ands; assumption))) (first
  | (go_at_call 112; refine (CAd.out _ HB3.out.drew).mono ?_; rintro e w4 ⟨gk, ck2, rfl, hk4, hgk, hb7⟩; have HB4 : Hid (Below w.heap.size w w4) := bel HB3.out.drew hb7; have HT4 : Hid (Ct w4 (w.heap.size + 1)) := keep_heap (un_drew hb7) HT3.out; have HK4 : Hid (Za.IntsIn w4 (some ⟨gk, 0, none⟩) (S.known.set (a - 1).toNat b)) := hk4; have HGK : Hid (w.heap.size + 1 < gk) := Nat.lt_of_lt_of_le HT3.out.lt hgk; have HS4 : Hid (Six w4 w.heap.size a b t p c vs) := HS3.out.below (un_drew hb7); clear hk4 hgk))
 all_goals
  clear hb7 o0 o1 o2 o3 o4 o5 d2 HS3 HB3 CAd
  have d3 := blk_cell (HBL.out w4 HB4.out) (i := 3) (u := .slice po no co) rfl
  obtain ⟨o0, o1, o2, o3, o4, o5⟩ := HS4.out
  go_wp2_with fail
  refine (CDo.out w4 HB4.out).mono ?_
  rintro e w5 ⟨vb5, vm5, he, hb5, hyes⟩
  rw [HDE.out, errV_zero] at he
  subst he
  obtain ⟨⟨h1, i1⟩, h2, i2⟩ := hyes HDE.out
  obtain ⟨pb5, nb5, cb5, rfl⟩ : ∃ p n c, vb5 = .slice p n c := by obtain ⟨p, c, e, _⟩ := h1; exact ⟨_, _, _, e⟩
  obtain ⟨pm5, nm5, cm5, rfl⟩ : ∃ p n c, vm5 = .slice p n c := by obtain ⟨p, c, e, _⟩ := h2; exact ⟨_, _, _, e⟩
  have HP : Hid (BePost w S G ((a, b), t, p, c, s) (.returned (.tuple #[.agg #[.slice pb5 nb5 cb5, .slice pm5 nm5 cm5, .slice (some ⟨gk, 0, none⟩) 8 ck2], .bool true, .nilIface])) (set3 w5 (w.heap.size + 1) (.slice pb5 nb5 cb5) (.slice pm5 nm5 cm5) (.slice (some ⟨gk, 0, none⟩) 8 ck2))) := BePost.yes HNEW.out HLT.out HB4.out HT4.out hb5 h1 i1 h2 i2 HK4.out HL8.out HGK.out
  have HT5 : Hid (Ct w5 (w.heap.size + 1)) := keep_heap hb5 HT4.out
  clear h1 i1 h2 i2 hyes hb5 CDo
  have c0 := blk_cell HT5.out (i := 0) (u := .slice none 0 0) rfl
  have c1 := blk_cell HT5.out (i := 1) (u := .slice none 0 0) rfl
  have c2 := blk_cell HT5.out (i := 2) (u := .slice none 0 0) rfl
  have f0 := blk_free HT5.out (i := 0)
  have f1 := blk_free HT5.out (i := 1)
  have f2 := blk_free HT5.out (i := 2)
  go_wp2_with fail
  try simp only [Exit.inBlock, Exit.then]
  refine bodyPost_ret (v := .tuple #[.agg #[.slice pb5 nb5 cb5, .slice pm5 nm5 cm5, .slice (some ⟨gk, 0, none⟩) 8 ck2], .bool true, .nilIface]) ?_ rfl HP.out
  simp [results, Tryz.results67, go_sem, asAddr, Result.andThen, c0, c1, c2]
/- a doc's behind, at every op -/
theorem behind_any (m:Mem) (S:Dq) (G:Nat→Prop) (a b t:Int) (p:ByteArray) (c:Int) (vs:Value) (s:List Dt) (w:World) (ok:DocOk w m S G) (hd:DtsAt w vs s) (hp:p.size≤maxLen):
  Calls Tryz.prog 67 #[.pointer (some ⟨m.D,0,none⟩),.agg #[.int .i64 a,.int .i64 b,.int .i64 t,.string p,.int .i64 c,vs]] w (BePost w S G ((a,b),t,p,c,s)):=by
 by_cases ho:opE ((a,b),t,p,c,s)=0
 ·have hdt:dotE a b=0:=(opE_zero.1 ho).1
  have hh:=has_eq ok.inv hdt
  by_cases hk:b≤kn S a
  ·exact behind_known m S G a b t p c vs s w ok hd hp ho (by rw[hh,decide_eq_true hk]) hk
  ·have hh2:Dm.hasB S.known a b=false:=by rw[hh,decide_eq_false hk]
   have hadd:=add_eq ok.inv hdt hk
   by_cases hs:kn S a+1<b
   ·rw[if_pos hs] at hadd
    exact behind_state m S G a b t p c vs s w ok hd hp ho hh2 hadd (by omega)
   ·rw[if_neg hs] at hadd
    by_cases hf:400≤S.ops.length
    ·exact behind_full m S G a b t p c vs s w ok hd hp ho hh2 hadd (by omega) hf
    ·by_cases hdo:doE S ((a,b),t,p,c,s)=0
     ·exact behind_yes m S G a b t p c vs s w ok hd hp ho hh2 hadd (by omega) (by omega) (by omega) hdo
     ·exact behind_no m S G a b t p c vs s w ok hd hp ho hh2 hadd (by omega) (by omega) (by omega) _ rfl hdo
 ·exact behind_wrong m S G a b t p c vs s w ok hd hp _ rfl ho
theorem apply_no (m:Mem) (S:Dq) (G F:Nat→Prop) (a b t:Int) (p:ByteArray) (c:Int) (vs:Value) (s:List Dt) (w:World) (h:DocOk w m S G) (hF:∀g,F g↔(G g∨Wr m g)) (hd:DtsAt w vs s) (hoff:In (fun g=>¬F g) vs) (hp:p.size≤maxLen) (hn:isNew S ((a,b),t,p,c,s)=false) (k:Int) (hk:apE S ((a,b),t,p,c,s)=k) (h0:k≠0):
  Calls Tryz.prog 32 #[.pointer (some ⟨m.D,0,none⟩),.agg #[.int .i64 a,.int .i64 b,.int .i64 t,.string p,.int .i64 c,vs]] w (ApPost w m.D S F ((a,b),t,p,c,s)):=by
 have HAT:Hid (DocAt w m.D S F):=⟨m,G,rfl,h,hF⟩
 have HB1:Hid (Below w.heap.size w (w.alloc (.cells #[.int .i64 a,.int .i64 b,.int .i64 t,.string p,.int .i64 c,vs] 75))):=(Below.refl _ w).alloc (Nat.le_refl _) _
 have H6:=z9 (six_new w a b t p c vs 75)
 have CBe:=behind_any m S G a b t p c vs s (w.alloc (.cells #[.int .i64 a,.int .i64 b,.int .i64 t,.string p,.int .i64 c,vs] 75)) ⟨h.mem.below HB1.out,h.inv,h.jn,h.short⟩ (hd.below HB1.out) hp
 have HN:=z9 hn
 have HE:Hid (errV (apE S ((a,b),t,p,c,s))=.iface 84 (.int .i64 k)):=by unfold Hid;rw[hk,errV_ne h0]
 obtain⟨D,hD⟩:∃D,D=m.D:=⟨_,rfl⟩
 have HD:=z9 hD
 rw[←hD] at CBe HAT
 rw[←hD]
 clear h hF hd hoff hp hn hk h0 hD
 go_enter Tryz.func32,Tryz.ntmps32
 obtain⟨o0,o1,o2,o3,o4,o5⟩:=H6.out
 go_wp2_with fail
 refine CBe.mono ?_
 rintro e w2 ⟨pb,nb,cb,pm,nm,cm,pk,nk,ck,he,hb2,_⟩
 have HB2:=z9 (bel HB1.out hb2)
 clear hb2 CBe o0 o1 o2 o3 o4 o5 H6
 rw[HN.out,HE.out] at he
 subst he
 go_wp2_with fail
 go_ret2
 exact ApPost.no HAT.out HN.out HE.out (HB2.out.alloc HB2.out.size _)
theorem apply_same (m:Mem) (S:Dq) (G F:Nat→Prop) (a b t:Int) (p:ByteArray) (c:Int) (vs:Value) (s:List Dt) (w:World) (h:DocOk w m S G) (hF:∀g,F g↔(G g∨Wr m g)) (hd:DtsAt w vs s) (hoff:In (fun g=>¬F g) vs) (hp:p.size≤maxLen) (hn:isNew S ((a,b),t,p,c,s)=false) (hk:apE S ((a,b),t,p,c,s)=0):
  Calls Tryz.prog 32 #[.pointer (some ⟨m.D,0,none⟩),.agg #[.int .i64 a,.int .i64 b,.int .i64 t,.string p,.int .i64 c,vs]] w (ApPost w m.D S F ((a,b),t,p,c,s)):=by
 have HAT:Hid (DocAt w m.D S F):=⟨m,G,rfl,h,hF⟩
 have HB1:Hid (Below w.heap.size w (w.alloc (.cells #[.int .i64 a,.int .i64 b,.int .i64 t,.string p,.int .i64 c,vs] 75))):=(Below.refl _ w).alloc (Nat.le_refl _) _
 have H6:=z9 (six_new w a b t p c vs 75)
 have CBe:=behind_any m S G a b t p c vs s (w.alloc (.cells #[.int .i64 a,.int .i64 b,.int .i64 t,.string p,.int .i64 c,vs] 75)) ⟨h.mem.below HB1.out,h.inv,h.jn,h.short⟩ (hd.below HB1.out) hp
 have HN:=z9 hn
 have HE:Hid (errV (apE S ((a,b),t,p,c,s))=.nilIface):=by unfold Hid;rw[hk];rfl
 obtain⟨D,hD⟩:∃D,D=m.D:=⟨_,rfl⟩
 have HD:=z9 hD
 rw[←hD] at CBe HAT
 rw[←hD]
 clear h hF hd hoff hp hn hk hD
 go_enter Tryz.func32,Tryz.ntmps32
 obtain⟨o0,o1,o2,o3,o4,o5⟩:=H6.out
 go_wp2_with fail
 refine CBe.mono ?_
 rintro e w2 ⟨pb,nb,cb,pm,nm,cm,pk,nk,ck,he,hb2,_⟩
 have HB2:=z9 (bel HB1.out hb2)
 clear hb2 CBe o0 o1 o2 o3 o4 o5 H6
 rw[HN.out,HE.out] at he
 subst he
 go_wp2_with fail
 go_ret2
 exact ApPost.no HAT.out HN.out HE.out (HB2.out.alloc HB2.out.size _)
theorem apply_yes (m:Mem) (S:Dq) (G F:Nat→Prop) (a b t:Int) (p:ByteArray) (c:Int) (vs:Value) (s:List Dt) (w:World) (h:DocOk w m S G) (hF:∀g,F g↔(G g∨Wr m g)) (hd:DtsAt w vs s) (hoff:In (fun g=>¬F g) vs) (hp:p.size≤maxLen) (hn:isNew S ((a,b),t,p,c,s)=true):
  Calls Tryz.prog 32 #[.pointer (some ⟨m.D,0,none⟩),.agg #[.int .i64 a,.int .i64 b,.int .i64 t,.string p,.int .i64 c,vs]] w (ApPost w m.D S F ((a,b),t,p,c,s)):=by
 have HAT:Hid (DocAt w m.D S F):=⟨m,G,rfl,h,hF⟩
 have HB1:Hid (Below w.heap.size w (w.alloc (.cells #[.int .i64 a,.int .i64 b,.int .i64 t,.string p,.int .i64 c,vs] 75))):=(Below.refl _ w).alloc (Nat.le_refl _) _
 have H6:=z9 (six_new w a b t p c vs 75)
 have CBe:=behind_any m S G a b t p c vs s (w.alloc (.cells #[.int .i64 a,.int .i64 b,.int .i64 t,.string p,.int .i64 c,vs] 75)) ⟨h.mem.below HB1.out,h.inv,h.jn,h.short⟩ (hd.below HB1.out) hp
 have HNEW:=z9 hn
 obtain⟨ho,hkn,hfew,hdo⟩:=isNew_iff.1 hn
 simp only at hkn
 have hap:apE S ((a,b),t,p,c,s)=0:=by
  unfold apE
  rw[if_neg (by simpa using ho),if_neg (show¬b≤kn S a by omega),if_neg (show¬kn S a<b-1 by omega),if_neg (by omega)]
  exact hdo
 have HE:Hid (errV (apE S ((a,b),t,p,c,s))=.nilIface):=by unfold Hid;rw[hap];rfl
 have HOK:=z9 h
 have HF:=z9 hF
 have hs40:s.length≤40:=(lawOf_zero.1 (opE_zero.1 ho).2.2.2).2.2.2.1
 have HFEW:=z9 hfew
 have HIN:Hid (∀x n cc,vs=.slice (some x) n cc→0<n→x.block<w.heap.size∧¬F x.block):=fun x n cc e hn=>⟨by
   obtain⟨q,c2,hv,hin,_⟩:=hd
   rw[e] at hv
   injection hv with e1 e2 e3
   rcases hin with e0 | ⟨bb,oo,hp9,hcs⟩
   ·rw[e0] at e2;simp at e2;omega
   ·rw[hp9] at e1;injection e1 with e1;rw[e1];exact(hcs 0 (by omega)).lt,hoff x n cc e hn⟩
 have HDS:Hid (∀W,Chg F w W→DtsAt W vs s):=fun W hc=>dots_stay hd (G:=fun g=>g<w.heap.size∧¬F g) (fun x n cc e hn=>HIN.out x n cc e hn) (hc.stay fun g hg=>hg)
 have HCP:Hid (∀W,DtsAt W vs s→Calls Tryz.prog 68 #[.agg #[.int .i64 a,.int .i64 b,.int .i64 t,.string p,.int .i64 c,vs]] W fun e w'=>∃v,e=.returned v∧∃v',v=.agg #[.int .i64 a,.int .i64 b,.int .i64 t,.string p,.int .i64 c,v']∧w'.ownsRow W.heap.size 72 2 v' s.length (flatD s)∧Below W.heap.size W w'):=fun W hW=>(copy_any a b t p c vs s W hW (by omega)).mono fun e w' ⟨v',h1,h2,h3⟩=>⟨_,h1,v',rfl,h2,h3⟩
 have HSE:Hid (∀W m9,m9.D=m.D→m9.M=m.M→Mid w F m9 (next S ((a,b),t,p,c,s)) W→Calls Tryz.prog 69 #[.pointer (some ⟨m.D,0,none⟩),.agg #[.int .i64 a,.int .i64 b,.int .i64 t,.string p,.int .i64 c,vs]] W fun e w'=>e=.returned (.tuple #[])∧ApPost w m.D S F ((a,b),t,p,c,s) (.returned (.tuple #[.bool true,.nilIface])) w'):=by
  intro W m9 hmD hmM hmid
  have hdW:=HDS.out W hmid.chg
  obtain⟨G',h1,h2,h3,h4⟩:=hmid
  have hsh:∀x ∈ m9.M,x.2.2.length≤40*S.ops.length:=by rw[hmM];exact h.short
  have hofw:In (fun g=>¬Wr m9 g) vs:=fun x n cc e hn e9=>by
   have q:=HIN.out x n cc e hn
   rcases h4 _ e9 with e8 | e8
   ·exact q.2 e8
   ·omega
  rw[←hmD]
  refine(settle_any m9 (next S ((a,b),t,p,c,s)) G' (40*S.ops.length) a b t p c vs s W h1 (by omega) hsh hdW hofw hs40).mono ?_
  rintro e w' ⟨rfl,M',hst⟩
  exact⟨rfl,mid_end h hmM HNEW.out G' h2 h3 h4 hst⟩
 obtain⟨po,no,co,hvo⟩:∃p n c,m.vo=.slice p n c:=by obtain⟨L,_,e,_⟩:=h.mem.ops;obtain⟨p,n,c,e2,_⟩:=own_shape e;exact⟨p,n,c,e2⟩
 obtain⟨pb0,nb0,cb0,hvb⟩:∃p n c,m.vb=.slice p n c:=by obtain⟨p,c,e,_⟩:=h.mem.book;exact⟨_,_,_,e⟩
 obtain⟨pm0,nm0,cm0,hvm⟩:∃p n c,m.vm=.slice p n c:=by obtain⟨p,c,e,_⟩:=h.mem.marks;exact⟨_,_,_,e⟩
 obtain⟨pk0,nk0,ck0,hvk⟩:∃p n c,m.vk=.slice p n c:=by obtain⟨p,c,e,_⟩:=h.mem.known;exact⟨_,_,_,e⟩
 have HVO:=z9 hvo
 have HNO:Hid (no=S.ops.length):=by
  obtain⟨L,_,e,_⟩:=h.mem.ops
  obtain⟨p,n,c,e2,e3⟩:=own_shape e
  rw[hvo] at e2
  injection e2 with _ e2 _
  exact e2.trans e3.out
 have HBL:Hid (∀W,Below w.heap.size w W→W.heap[m.D]? =some (.cells #[.slice pb0 nb0 cb0,.slice pm0 nm0 cm0,.slice pk0 nk0 ck0,.slice po no co,.map (some m.B)] 109)):=fun W hb=>by
  have:=(h.mem.below hb).blk
  rw[hvk,hvo,hvb,hvm] at this;exact this
 have HDL:Hid (m.D<w.heap.size):=h.mem.wr_lt _ (Or.inl rfl)
 obtain⟨D,hD⟩:∃D,D=m.D:=⟨_,rfl⟩
 have HD:=z9 hD
 rw[←hD] at CBe HAT HSE HBL HDL
 rw[←hD]
 clear h hF hd hoff hp hn ho hkn hfew hdo hap hs40 hD hvo hvb hvm hvk
 go_enter Tryz.func32,Tryz.ntmps32
 obtain⟨o0,o1,o2,o3,o4,o5⟩:=H6.out
 go_wp2_with fail
 refine CBe.mono ?_
 rintro e w2 ⟨pb,nb,cb,pm,nm,cm,pk,nk,ck,he,hb2,hy⟩
 rw[HNEW.out,HE.out] at he
 subst he
 have HB2:=z9 (bel HB1.out hb2)
 have HS2:=z9 (H6.out.below hb2)
 have HBA:Hid (Below w2.heap.size w2 (w2.alloc (.cells #[.slice pb nb cb,.slice pm nm cm,.slice pk nk ck] 106))):=(Below.refl _ _).alloc (Nat.le_refl _) _
 have HB3:=z9 (bel HB2.out HBA.out)
 have HY:Hid (Mid w F { m with vb:=.slice pb nb cb,vm:=.slice pm nm cm,vk:=.slice pk nk ck } ⟨doB S ((a,b),t,p,c,s),doM S ((a,b),t,p,c,s),S.known.set (a-1).toNat b,S.ops⟩ (set3 (w2.alloc (.cells #[.slice pb nb cb,.slice pm nm cm,.slice pk nk ck] 106)) D (.slice pb nb cb) (.slice pm nm cm) (.slice pk nk ck))):=by
  obtain⟨⟨y1,i1⟩,⟨y2,i2⟩,y3,i3⟩:=hy HNEW.out
  have hz1:=HB1.out.size
  have hz2:=HBA.out.size
  have hmono:∀g,News G (w.alloc (.cells #[.int .i64 a,.int .i64 b,.int .i64 t,.string p,.int .i64 c,vs] 75)) w2 g→News G w (w2.alloc (.cells #[.slice pb nb cb,.slice pm nm cm,.slice pk nk ck] 106)) g:=fun g hg=>by
   rcases hg with e | e
   ·exact Or.inl e
   ·exact Or.inr ⟨by omega,by omega⟩
  rw[Hid,HD.out]
  exact mid_content HOK.out HF.out HB3.out (y1.below HBA.out) (i1.mono hmono) (y2.below HBA.out) (i2.mono hmono) (y3.below HBA.out) (i3.mono hmono)
 have HS6:Hid (Six (set3 (w2.alloc (.cells #[.slice pb nb cb,.slice pm nm cm,.slice pk nk ck] 106)) D (.slice pb nb cb) (.slice pm nm cm) (.slice pk nk ck)) w.heap.size a b t p c vs):=six_same (HS2.out.below HBA.out) (set3_block _ _ _ _ _ _ (by have:=HDL.out;omega))
 have d0:=blk_cell (HBL.out _ HB3.out) (i:=0) (u:=.slice pb0 nb0 cb0) rfl
 have d1:=blk_cell (HBL.out _ HB3.out) (i:=1) (u:=.slice pm0 nm0 cm0) rfl
 have d2:=blk_cell (HBL.out _ HB3.out) (i:=2) (u:=.slice pk0 nk0 ck0) rfl
 have f0:=blk_free (HBL.out _ HB3.out) (i:=0)
 have f1:=blk_free (HBL.out _ HB3.out) (i:=1)
 have f2:=blk_free (HBL.out _ HB3.out) (i:=2)
 clear hb2 hy CBe o0 o1 o2 o3 o4 o5 H6
 go_wp2_with fail
 unfold set3 at HY HS6
 generalize hw6:(((w2.alloc (.cells #[.slice pb nb cb,.slice pm nm cm,.slice pk nk ck] 106)).setCell ⟨D,0,none⟩ (.slice pb nb cb)).setCell ⟨D,1,none⟩ (.slice pm nm cm)).setCell ⟨D,2,none⟩ (.slice pk nk ck)=w6 at HY HS6 ⊢
 clear hw6 d0 d1 d2 f0 f1 f2 HB3 HBA HS2
 obtain⟨G6,hm6,hc6,hg6,hwr6⟩:=HY.out
 obtain⟨L,hL,hLo,hLd⟩:=hm6.ops
 have HM6:=z9 hm6
 have HC6:=z9 hc6
 have HG6:Hid ((∀g,G6 g→F g∨w.heap.size≤g)∧∀g,Wr { m with vb:=.slice pb nb cb,vm:=.slice pm nm cm,vk:=.slice pk nk ck } g→F g∨w.heap.size≤g):=⟨hg6,hwr6⟩
 have HL1:=z9 hL
 have HL2:=z9 hLd
 have HLO:Hid (w6.ownsRow 0 75 6 (.slice po no co) no (flatO L)):=by unfold Hid;rw[←HVO.out,HNO.out];exact hLo
 have HBK6:Hid (∀W,Below w6.heap.size w6 W→W.heap[D]? =some (.cells #[.slice pb nb cb,.slice pm nm cm,.slice pk nk ck,.slice po no co,.map (some m.B)] 109)):=fun W hb=>by
  have:=(HM6.out.below hb).blk
  simp only[HVO.out] at this
  rw[HD.out];exact this
 have HD6:=z9 (HDS.out w6.drew ⟨hc6.os,hc6.tape,hc6.output,hc6.size,hc6.block⟩)
 have HVB:Hid (∀g,(Value.slice po no co).ownBlock=some g→g<w.heap.size):=fun g hg=>HOK.out.mem.wr_lt g (Or.inr (Or.inr (Or.inl (by rw[HVO.out];exact hg))))
 have HDNE:Hid (∀g,(Value.slice po no co).ownBlock=some g→g=D→False):=fun g hg e=>by
  obtain⟨_,cur,hc⟩:=own_lt HLO.out g hg
  rw[e,HBK6.out w6 (Below.refl _ _)] at hc
  injection hc with hc
  injection hc with _ hc _
  exact absurd hc (by decide)
 have q6:=blk_cell (HBK6.out w6 (Below.refl _ _)) (i:=3) (u:=.slice po no co) rfl
 obtain⟨o0,o1,o2,o3,o4,o5⟩:=HS6.out
 clear hL hLo hLd hm6 hc6 hg6 hwr6 HY
 go_region_law (first
  | (refine step_call1 (R:=fun v w'=>∃v',v=.agg #[.int .i64 a,.int .i64 b,.int .i64 t,.string p,.int .i64 c,v']∧w'.ownsRow w6.drew.heap.size 72 2 v' s.length (flatD s)∧Below w6.drew.heap.size w6.drew w') (by rfl) 68 (.tmp 32) _ (by rfl) _ (by rfl) enter_copy (HCP.out _ HD6.out) ?_;rintro v7 w7 ⟨vs7,rfl,hn7,hb7⟩;obtain⟨p7,n7,c7,rfl,_⟩:=own_shape hn7;have HB7:=z9 (un_drew hb7);have HN7:=z9 hn7;have HBA:Hid (∀O,Below w6.heap.size w6 (w7.alloc O)):=(fun O=>HB7.out.alloc HB7.out.size O);have HOA:Hid (∀O,(w7.alloc O).ownsRow 0 75 6 (.slice po no co) no (flatO L)):=(fun O=>own_below HLO.out (HBA.out O));have q7:=blk_cell (HBK6.out w7 HB7.out) (i:=3) (u:=.slice po no co) rfl;have q8:=fun O=>blk_cell (HBK6.out _ (HBA.out O)) (i:=3) (u:=.slice po no co) rfl;clear hn7 hb7)
  | (refine step_putO (by rfl) (.tmp 31) (.tmp 34) (by rfl) (.slice po no co) no L ((a,b),t,p,c,s) p7 n7 c7 (by rfl) w7.heap.size (by rfl) (by have:=HNO.out;have:=HFEW.out;omega) (HOA.out _) (heap_alloc_new w7 _) ?_;intro v9 w9 hr9 hg9 hl9;obtain⟨p9,n9,c9,rfl,_⟩:=own_shape hr9;have hbk9:=(set_ops_blk (HBK6.out _ (HBA.out _)) hg9 (fun e=>HDNE.out D e rfl));have q9:=blk_cell hbk9 (i:=3) (u:=.slice po no co) rfl;have fq9:=blk_free hbk9 (i:=3);have HS9:Hid (Six w9 w.heap.size a b t p c vs):=six_same (HS6.out.below (HBA.out _)) (hg9.block _ (six_lt (HS6.out.below (HBA.out _))) (fun e=>by have:=HVB.out _ e.symm;omega));have HM9:Hid (Mid w F { m with vb:=.slice pb nb cb,vm:=.slice pm nm cm,vk:=.slice pk nk ck,vo:=.slice p9 n9 c9 } (next S ((a,b),t,p,c,s)) (w9.setCell ⟨m.D,3,none⟩ (.slice p9 n9 c9))):=mid_ops (o:=((a,b),t,p,c,s)) HM6.out HC6.out HG6.out.1 HG6.out.2 HL1.out HL2.out (HBA.out _) (own_below HN7.out ((Below.refl _ w7).alloc (Nat.le_refl _) _)) (by show World.grownBy _ _ m.vo.ownBlock;rw[HVO.out];exact hg9) (by have:=hr9;rw[HNO.out] at this;exact this) (by show _=m.vo.ownBlock∨_;rw[HVO.out];exact hl9);clear hr9 hg9 hl9 hbk9))
 all_goals
  have HS11:Hid (Six (w9.setCell ⟨D,3,none⟩ (.slice p9 n9 c9)) w.heap.size a b t p c vs):=six_same HS9.out (set_block _ _ _ _ (by have:=HDL.out;simp;omega))
  have HM11:Hid (Mid w F { m with vb:=.slice pb nb cb,vm:=.slice pm nm cm,vk:=.slice pk nk ck,vo:=.slice p9 n9 c9 } (next S ((a,b),t,p,c,s)) (w9.setCell ⟨D,3,none⟩ (.slice p9 n9 c9))):=by unfold Hid;rw[HD.out];exact HM9.out
  clear q6 q7 q8 HM9 HS9 HS6 o0 o1 o2 o3 o4 o5
  generalize hw11:w9.setCell ⟨D,3,none⟩ (.slice p9 n9 c9)=w11 at HM11 HS11 ⊢
  clear hw11 q9 fq9
  obtain⟨o0,o1,o2,o3,o4,o5⟩:=HS11.out
  go_wp2_with fail
  refine(HSE.out w11 { m with vb:=.slice pb nb cb,vm:=.slice pm nm cm,vk:=.slice pk nk ck,vo:=.slice p9 n9 c9 } HD.out.symm rfl HM11.out).mono ?_
  rintro e w12 ⟨rfl,hpost⟩
  have HP:=z9 hpost
  clear hpost
  go_wp2_with fail
  go_ret2
  exact HP.out
/- a doc's Apply, at every op -/
theorem apply_any (D:Nat) (S:Dq) (F:Nat→Prop) (a b t:Int) (p:ByteArray) (c:Int) (vs:Value) (s:List Dt) (w:World) (h:DocAt w D S F) (hd:DtsAt w vs s) (hoff:In (fun g=>¬F g) vs) (hp:p.size≤maxLen):
  Calls Tryz.prog 32 #[.pointer (some ⟨D,0,none⟩),.agg #[.int .i64 a,.int .i64 b,.int .i64 t,.string p,.int .i64 c,vs]] w (ApPost w D S F ((a,b),t,p,c,s)):=by
 obtain⟨m,G,rfl,ok,hF⟩:=h
 cases hn:isNew S ((a,b),t,p,c,s)
 ·by_cases hk:apE S ((a,b),t,p,c,s)=0
  ·exact apply_same m S G F a b t p c vs s w ok hF hd hoff hp hn hk
  ·exact apply_no m S G F a b t p c vs s w ok hF hd hoff hp hn _ rfl hk
 ·exact apply_yes m S G F a b t p c vs s w ok hF hd hoff hp hn
/- a doc's Would, at every op -/
end Ik
end Go.Proofs.YtlmdchpbpgcfmaaGreatDoor
/- What New, Book, Marks, Known and Text answer. -/
namespace Go.Proofs.YtlmdchpbpgcfmaaGreatDoor
namespace Il
open Go.ChangeShapes Go.WideShapes Go.ChangeAt Go.RowKit Cm Ka Kb Na Om Oa Oz Oc Og Oi Hm Ia Ib Ic Idc Ie If Ig Ih Ii Ij Ik
open La (bel bel_drew errV_zero errV_ne own_ge own_grow own_below Lies)
open Lj (BookAt BookNew)
theorem leaf_clone (ad:Addr) (n c:Nat) (l:List Bm.Leaf) (w:World) (hl:l.length=n) (hn2:n≤1048576) (hc:∀j u,(La.flat l)[j]? =some u→w.cell? (ad.add j)=some u):
  Calls Tryz.prog 50 #[.slice (some ad) n c] w fun e w'=>∃v,e=.returned v∧w'.ownsRow w.heap.size 53 3 v n (La.flat l)∧Below w.heap.size w w':=by
 obtain⟨i0,hi,hz0,hz1,hz2⟩:=info_parts Lh.infoLeaf
 have HN:Hid (∀j u,(La.flat l)[j]? =some u→(w.alloc (.cells #[] 53)).cell? (ad.add j)=some u):=by
  intro j u hu
  exact keep_cell ((Below.refl _ w).alloc (Nat.le_refl _) _) (hc j u hu)
 have HL:=z9 hl
 have HO:Hid ((w.alloc (.cells #[] 53)).ownsRow w.heap.size 53 3 (.slice (some ⟨w.heap.size,0,none⟩) 0 0) 0 []):=
  ⟨rfl,Or.inr ⟨w.heap.size,0,#[],rfl,Nat.le_refl _,heap_alloc_new w _,Nat.le_refl _,by unfold maxLen;omega,rfl,rfl⟩⟩
 have heq:∀(a:Addr) (n c:Nat) (w:World),Sem.run Tryz.prog (binOp .eql 44 (.slice (some a) n c) (.slice none 0 0)) w=.ok (.bool false) w:=fun _ _ _ _=>by kernel_rfl
 clear hc hl
 go_enter Tryz.func50,Tryz.ntmps50
 go_wp2_with (at_builtin;refine wpList_append_own_at _ rfl (.tmp 5) (.tmp 6) 44 rfl w.heap.size 53 i0 (.agg #[.string ⟨#[]⟩,.int .i64 0,.bool false]) 3 32 Tryz.underlying44 hi hz0 hz1 hz2 rfl (by decide) (.slice (some ⟨w.heap.size,0,none⟩) 0 0) 0 [] rfl HO.out ad n c (La.flat l) rfl (by rw[La.flat_length,HL.out]) HN.out (La.flat_one l) (by unfold maxLen;omega) (by omega) (by simp) ?_;intro v' w1 hown' hgrow _ hat;have HOW:Hid (w1.ownsRow w.heap.size 53 3 v' n (La.flat l)):=(by have h9:=hown';rw[Nat.zero_add,List.nil_append] at h9;exact h9);have HGR:Hid (Below w.heap.size w w1):=((Below.refl _ w).alloc (Nat.le_refl _) (.cells #[] 53)).grown hgrow (by simp) (by intro j hj;simp[Value.ownBlock] at hj;omega);clear hown' hgrow hat)
 go_ret
 exact⟨_,rfl,HOW.out,HGR.out⟩
theorem leaf_clone_none (w:World):
  Calls Tryz.prog 50 #[.slice none 0 0] w fun e w'=>e=.returned (.slice none 0 0)∧w'=w:=by
 have heq:∀(w:World),Sem.run Tryz.prog (binOp .eql 44 (.slice none 0 0) (.slice none 0 0)) w=.ok (.bool true) w:=fun _=>by kernel_rfl
 go_enter Tryz.func50,Tryz.ntmps50
 go_wp2
 go_ret
 exact⟨rfl,rfl⟩
theorem book_clone (v:Value) (l:List Bm.Leaf) (w:World) (h:BookAt w v l) (hn:l.length≤1048576):
  Calls Tryz.prog 50 #[v] w fun e w'=>∃v',e=.returned v'∧BookNew w.heap.size w' v' l∧Below w.heap.size w w':=by
 obtain⟨q,c,rfl,hlf,hc,hcm,hqc⟩:=h
 cases q with
 | none=>
  have hc0:=hqc rfl
  subst hc0
  have hl0:l=[]:=List.eq_nil_of_length_eq_zero (by omega)
  subst hl0
  refine(leaf_clone_none w).mono ?_
  rintro e w' ⟨rfl,rfl⟩
  exact⟨_,rfl,BookNew.nil _ _,Below.refl _ _⟩
 | some ad=>
  refine(leaf_clone ad l.length c l w rfl hn (fun j u hu=> ?_)).mono ?_
  ·rcases hlf with e0 | ⟨b,o,hp2,hcs⟩
   ·subst e0;simp[La.flat] at hu
   ·injection hp2 with hp2
    subst hp2
    rw[Addr.add_lit];exact La.at_flat hcs j u hu
  ·rintro e w' ⟨v',rfl,h1,h2⟩
   exact⟨v',rfl,⟨Lj.own_at h1,Lies.own h1⟩,h2⟩
theorem few_book {S:Dq} (I:Inv S):S.book.length≤300:=(Bm.bookE_zero.1 I.book).1
theorem book_get (D:Nat) (S:Dq) (F:Nat→Prop) (w:World) (h:DocAt w D S F):
  Calls Tryz.prog 16 #[.pointer (some ⟨D,0,none⟩)] w fun e w'=>∃v',e=.returned v'∧BookNew w.heap.size w' v' S.book∧Below w.heap.size w w':=by
 obtain⟨m,G,rfl,ok,hF⟩:=h
 have d0:=blk_cell ok.mem.blk (i:=0) (u:=m.vb) rfl
 have C:=book_clone m.vb S.book w ok.mem.book (by have:=few_book ok.inv;omega)
 obtain⟨pb,nb,cb,hvb⟩:∃p n c,m.vb=.slice p n c:=by obtain⟨p,c,e,_⟩:=ok.mem.book;exact⟨_,_,_,e⟩
 obtain⟨D,hD⟩:∃D,D=m.D:=⟨_,rfl⟩
 rw[hvb] at d0 C
 rw[←hD] at d0
 rw[←hD]
 clear ok hF hvb hD
 go_enter Tryz.func16,Tryz.ntmps16
 go_wp2_with fail
 refine C.mono ?_
 rintro e w2 ⟨v2,rfl,hk,hb⟩
 have HK:Hid (BookNew w.heap.size w2 v2 S.book∧Below w.heap.size w w2):=⟨hk,hb⟩
 clear hk hb C
 go_wp2_with fail
 go_ret
 exact⟨_,rfl,HK.out.1,HK.out.2⟩
theorem known_get (D:Nat) (S:Dq) (F:Nat→Prop) (w:World) (h:DocAt w D S F):
  Calls Tryz.prog 81 #[.pointer (some ⟨D,0,none⟩)] w fun e w'=>∃v',e=.returned v'∧KnAt w' v' S.known∧Lies w.heap.size v'∧Below w.heap.size w w':=by
 obtain⟨m,G,rfl,ok,hF⟩:=h
 have d0:=blk_cell ok.mem.blk (i:=2) (u:=m.vk) rfl
 have hl8:=ok.inv.klen
 obtain⟨q,c,hvk,hin⟩:=ok.mem.known
 obtain⟨b,o,rfl,hcs⟩:=hin.some (by intro e;rw[e] at hl8;simp at hl8)
 have C:=Dc.clone_cells b o S.known.length c S.known w rfl (by omega) (by omega) hcs
 obtain⟨D,hD⟩:∃D,D=m.D:=⟨_,rfl⟩
 obtain⟨n,hn⟩:∃n,n=S.known.length:=⟨_,rfl⟩
 have HN:=z9 hn
 rw[hvk,←hn,←hD] at d0
 rw[←hn] at C
 rw[←hD]
 have HL8:=z9 hl8
 clear ok hF hvk hD hin hcs hl8 hn
 go_enter Tryz.func81,Tryz.ntmps81
 go_wp2_with fail
 refine C.mono ?_
 rintro e w2 ⟨g,cap,rfl,hg,hcs,_,hb⟩
 have HK:Hid (w.heap.size≤g∧(∀j,j<S.known.length→w2.cell? ⟨g,0+j,none⟩=some (.int .i64 (S.known.getD j 0)))∧Below w.heap.size w w2):=⟨hg,by rw[←HN.out];exact hcs,hb⟩
 clear hg hcs hb C
 go_wp2_with fail
 go_ret
 exact⟨_,rfl,⟨_,cap,by rw[←HN.out];rfl,Or.inr ⟨g,0,rfl,HK.out.2.1⟩⟩,Lies.at HK.out.1,HK.out.2.2⟩
theorem text_get (D:Nat) (S:Dq) (F:Nat→Prop) (w:World) (h:DocAt w D S F):
  Calls Tryz.prog 17 #[.pointer (some ⟨D,0,none⟩)] w fun e w'=>e=.returned (.string (Lf.textR S.book))∧Below w.heap.size w w':=by
 obtain⟨m,G,rfl,ok,hF⟩:=h
 have d0:=blk_cell ok.mem.blk (i:=0) (u:=m.vb) rfl
 obtain⟨q,c,hvb,hin,hc1,hc2,_⟩:=ok.mem.book
 have C:=Lf.text_any q S.book.length c S.book w rfl hin (small_book ok.inv.book) (by omega)
 obtain⟨D,hD⟩:∃D,D=m.D:=⟨_,rfl⟩
 obtain⟨n,hn⟩:∃n,n=S.book.length:=⟨_,rfl⟩
 obtain⟨ee,hee⟩:∃ee,ee=errV (Bm.bookE S.book):=⟨_,rfl⟩
 obtain⟨tx,htx⟩:∃tx,tx=Lf.textR S.book:=⟨_,rfl⟩
 rw[hvb,←hn,←hD] at d0
 rw[←hn,←hee,←htx] at C
 rw[←hD,←htx]
 clear ok hF hvb hD hin hn hee htx hc1 hc2
 go_enter Tryz.func17,Tryz.ntmps17
 go_wp2_with fail
 refine C.mono ?_
 rintro e w2 ⟨rfl,hb⟩
 have HB:=z9 hb
 clear hb C
 go_wp2_with fail
 go_ret
 exact⟨rfl,HB.out⟩
/- a new doc -/
theorem new_doc {w w1:World} (ho:w1.ownsRow w.heap.size 3 1 (.slice (some ⟨w.heap.size,0,none⟩) 8 8) 8 (List.replicate 8 (.int .i64 0))) (hb:Below w.heap.size w w1):
  ∃F,DocAt ((w1.alloc (.map #[] 0)).alloc (.cells #[.slice none 0 0,.slice none 0 0,.slice (some ⟨w.heap.size,0,none⟩) 8 8,.slice none 0 0,.map (some w1.heap.size)] 109)) (w1.heap.size+1) d0 F∧(∀g,F g→w.heap.size≤g)∧
   Below w.heap.size w ((w1.alloc (.map #[] 0)).alloc (.cells #[.slice none 0 0,.slice none 0 0,.slice (some ⟨w.heap.size,0,none⟩) 8 8,.slice none 0 0,.map (some w1.heap.size)] 109)):=by
 have hz:(w1.alloc (.map #[] 0)).heap.size=w1.heap.size+1:=by simp
 have hlt:w.heap.size<w1.heap.size:=(own_lt ho w.heap.size rfl).1
 have hD:=heap_alloc_new (w1.alloc (.map #[] 0)) (.cells #[.slice none 0 0,.slice none 0 0,.slice (some ⟨w.heap.size,0,none⟩) 8 8,.slice none 0 0,.map (some w1.heap.size)] 109)
 rw[hz] at hD
 have hbb:Below w1.heap.size w1 ((w1.alloc (.map #[] 0)).alloc (.cells #[.slice none 0 0,.slice none 0 0,.slice (some ⟨w.heap.size,0,none⟩) 8 8,.slice none 0 0,.map (some w1.heap.size)] 109)):=((Below.refl _ w1).alloc (Nat.le_refl _) _).alloc (by simp) _
 have hB:MapAt ((w1.alloc (.map #[] 0)).alloc (.cells #[.slice none 0 0,.slice none 0 0,.slice (some ⟨w.heap.size,0,none⟩) 8 8,.slice none 0 0,.map (some w1.heap.size)] 109)) w1.heap.size []:=MapAt.below (make_map w1) ((Below.refl _ _).alloc (Nat.le_refl _) _)
 have ho2:=own_below ho hbb
 have hkn:KnAt ((w1.alloc (.map #[] 0)).alloc (.cells #[.slice none 0 0,.slice none 0 0,.slice (some ⟨w.heap.size,0,none⟩) 8 8,.slice none 0 0,.map (some w1.heap.size)] 109)) (.slice (some ⟨w.heap.size,0,none⟩) 8 8) (List.replicate 8 0):=by
  refine⟨some ⟨w.heap.size,0,none⟩,8,rfl,Or.inr ⟨w.heap.size,0,rfl,fun j hj=> ?_⟩⟩
  have hj8:j<8:=by simpa using hj
  have:=ho2.cells (g:=w.heap.size) rfl j (.int .i64 0) (by rw[List.getElem?_replicate,if_pos hj8])
  rw[Addr.add_lit] at this
  rw[this,List.getD_eq_getElem?_getD,List.getElem?_replicate,if_pos hj8];rfl
 let m:Mem:=⟨w1.heap.size+1,.slice none 0 0,.slice none 0 0,.slice (some ⟨w.heap.size,0,none⟩) 8 8,.slice none 0 0,w1.heap.size,[]⟩
 have hwr:∀g,Wr m g→g=w1.heap.size+1∨g=w1.heap.size:=by
  rintro g (e | e | e | ⟨x,hx,e⟩)
  ·exact Or.inl e
  ·exact Or.inr e
  ·cases e
  ·cases hx
 refine⟨fun g=>(g=w.heap.size)∨Wr m g,⟨m,fun g=>g=w.heap.size,rfl,⟨⟨hD,Lj.BookAt.nil _,In.nil _,MksAt.nil _,In.nil _,hkn,fun a n c e _=>(by injection e with e;injection e with e;rw[←e]),⟨[],rfl,World.ownsRow_nil _ _ _ _,fun y hy=>(by cases hy)⟩,hB,fun x hx=>(by cases hx),List.Pairwise.nil,fun g hg=> ?_,fun g hg e=> ?_⟩,inv_zero,fun d p hd hk=> ?_,fun x hx=>(by cases hx)⟩,fun g=>Iff.rfl⟩,fun g hg=> ?_,hb.trans ⟨hbb.os,hbb.tape,hbb.output,hbb.size,fun k hk=>hbb.block k (by omega)⟩⟩
 ·have hg2:g=w.heap.size:=hg
  rw[hg2];exact Nat.lt_of_lt_of_le hlt hbb.size
 ·have hg2:g=w.heap.size:=hg
  rcases hwr g e with e | e<;>omega
 ·show p ∈ []↔_
  unfold d0 saw
  simp
 ·rcases hg with e | e
  ·omega
  ·rcases hwr g e with e | e<;>omega
theorem made8:(madeCells (Value.int .i64 0).cells (8*1)).toList=List.replicate 8 (.int .i64 0):=by kernel_rfl
theorem new_any (w:World):Calls Tryz.prog 29 #[] w fun e w'=>∃D F,e=.returned (.pointer (some ⟨D,0,none⟩))∧DocAt w' D d0 F∧(∀g,F g→w.heap.size≤g)∧Below w.heap.size w w':=by
 have hmm:=@run_makeMap Tryz.prog
 obtain⟨i0,hi,hz0,hz1,hz2⟩:=info_parts Za.infoInt
 go_enter Tryz.func29,Tryz.ntmps29
 go_wp2_with (at_make;refine wpList_make_full _ rfl (.const (.int .i64 8)) (.const (.int .i64 8)) 39 rfl w.heap.size 3 i0 (.int .i64 0) 1 Tryz.underlying39 hi hz0 hz1 .i64 .i64 8 8 8 rfl rfl rfl rfl (by rw[hz2];omega) (by unfold maxLen;omega) (Nat.le_refl _) ?_;intro w1 hown hgrow;have HO:Hid (w1.ownsRow w.heap.size 3 1 (.slice (some ⟨w.heap.size,0,none⟩) 8 8) 8 (List.replicate 8 (.int .i64 0))):=(made8▸hown);have HB:Hid (Below w.heap.size w w1):=⟨hgrow.os,hgrow.tape,hgrow.output,hgrow.size,fun k hk=>hgrow.block k hk (by intro e;cases e)⟩;clear hown hgrow)
 go_ret
 obtain⟨F,r1,r2,r3⟩:=new_doc HO.out HB.out
 exact⟨_,F,rfl,r1,r2,r3⟩
end Il
end Go.Proofs.YtlmdchpbpgcfmaaGreatDoor
/- What Ops answers: copies of all of them, in blocks of their own. -/
namespace Go.Proofs.YtlmdchpbpgcfmaaGreatDoor
namespace Im
open Go.ChangeShapes Go.WideShapes Go.ChangeAt Go.RowKit Cm Ka Kb Na Om Oa Oz Oc Og Oi Hm Ia Ib Ic Idc Ie If Ig Ih Ii Ij Ik Il
open La (bel bel_drew errV_zero errV_ne own_ge own_grow own_below Lies)
theorem set6 (l:List Value) (m:Nat) (x0 x1 x2 x3 x4 x5:Value) (h:m+6≤l.length):
  ((((((l.set m x0).set (m+1) x1).set (m+2) x2).set (m+3) x3).set (m+4) x4).set (m+5) x5).take (m+6)=l.take m++[x0,x1,x2,x3,x4,x5]:=by
 apply List.ext_getElem?
 intro j
 have hl:(l.take m).length=m:=by rw[List.length_take];omega
 by_cases hj:j<m
 ·rw[List.getElem?_append_left (by omega),List.getElem?_take_of_lt (by omega),List.getElem?_take_of_lt hj]
  rw[List.getElem?_set_ne (by omega),List.getElem?_set_ne (by omega),List.getElem?_set_ne (by omega),List.getElem?_set_ne (by omega),List.getElem?_set_ne (by omega),List.getElem?_set_ne (by omega)]
 ·rw[List.getElem?_append_right (by omega),hl]
  by_cases hj2:j<m+6
  ·rw[List.getElem?_take_of_lt hj2]
   have h6:j=m∨j=m+1∨j=m+2∨j=m+3∨j=m+4∨j=m+5:=by omega
   rcases h6 with rfl | rfl | rfl | rfl | rfl | rfl
   ·rw[List.getElem?_set_ne (by omega),List.getElem?_set_ne (by omega),List.getElem?_set_ne (by omega),List.getElem?_set_ne (by omega),List.getElem?_set_ne (by omega),List.getElem?_set_self (by omega)];simp
   ·rw[List.getElem?_set_ne (by omega),List.getElem?_set_ne (by omega),List.getElem?_set_ne (by omega),List.getElem?_set_ne (by omega),List.getElem?_set_self (by simp;omega)];simp
   ·rw[List.getElem?_set_ne (by omega),List.getElem?_set_ne (by omega),List.getElem?_set_ne (by omega),List.getElem?_set_self (by simp;omega)];simp
   ·rw[List.getElem?_set_ne (by omega),List.getElem?_set_ne (by omega),List.getElem?_set_self (by simp;omega)];simp
   ·rw[List.getElem?_set_ne (by omega),List.getElem?_set_self (by simp;omega)];simp
   ·rw[List.getElem?_set_self (by simp;omega)];simp
  ·rw[List.getElem?_eq_none (by rw[List.length_take];omega),List.getElem?_eq_none (by simp;omega)]
theorem own_lower {w:World} {base B:Nat} {t:TypeId} {z:Nat} {v:Value} {n:Nat} {xs:List Value} (h:w.ownsRow base t z v n xs) (hB:B≤base):w.ownsRow B t z v n xs:=by
 refine⟨h.1, ?_⟩
 rcases h.2 with h0 | ⟨g,cap,cur,h1,h2,h3⟩
 ·exact Or.inl h0
 ·exact Or.inr ⟨g,cap,cur,h1,Nat.le_trans hB h2,h3⟩
/- a row of n ops that is filled one by one: the first ones -/
def RowO (w:World) (g n:Nat) (L:List (Ox × Value)):Prop:=∃cur:Array Value,w.heap[g]? =some (.cells cur 75 (0,0))∧cur.size=n*6∧cur.toList.take (L.length*6)=flatO L
theorem RowO.below {w w':World} {g n:Nat} {L:List (Ox × Value)} (h:RowO w g n L) (hb:Below w.heap.size w w'):RowO w' g n L:=by
 obtain⟨cur,h1,h2⟩:=h
 exact⟨cur,keep_heap hb h1,h2⟩
def w6s (w:World) (g m:Nat) (x:Ox) (v:Value):World:=(((((w.setCell ⟨g,m,none⟩ (.int .i64 x.1.1)).setCell ⟨g,m+1,none⟩ (.int .i64 x.1.2)).setCell ⟨g,m+2,none⟩ (.int .i64 x.2.1)).setCell ⟨g,m+3,none⟩ (.string x.2.2.1)).setCell ⟨g,m+4,none⟩ (.int .i64 x.2.2.2.1)).setCell ⟨g,m+5,none⟩ v
theorem RowO.put {w:World} {g n:Nat} {L:List (Ox × Value)} {x:Ox} {v:Value} (h:RowO w g n L) (hk:L.length<n):RowO (w6s w g (L.length*6) x v) g n (L++[(x,v)]):=by
 obtain⟨cur,h1,h2,h3⟩:=h
 refine⟨_,set_heap (set_heap (set_heap (set_heap (set_heap (set_heap h1))))),by simp[h2], ?_⟩
 rw[List.length_append,flatO_append,←h3]
 have e:flatO [(x,v)]=[.int .i64 x.1.1,.int .i64 x.1.2,.int .i64 x.2.1,.string x.2.2.1,.int .i64 x.2.2.2.1,v]:=rfl
 rw[e,show(L.length+[(x,v)].length)*6=L.length*6+6 by simp;omega]
 rw[←set6 cur.toList (L.length*6) _ _ _ _ _ _ (by have h9:cur.toList.length=n*6:=(by simpa using h2);omega)]
 simp only[Array.toList_setIfInBounds]
theorem RowO.cell6 {w:World} {g n:Nat} {L:List (Ox × Value)} (h:RowO w g n L) {k:Nat} (hk:k<n):∀i,i<6→(∃u,w.cell? ⟨g,k*6+i,none⟩=some u)∧w.frozen? ⟨g,k*6+i,none⟩=false:=by
 obtain⟨cur,h1,h2,_⟩:=h
 intro i hi
 have hlt:k*6+i<cur.size:=by rw[h2];omega
 exact⟨⟨cur[k*6+i],blk_cell h1 (Array.getElem?_eq_getElem hlt)⟩,blk_free h1⟩
theorem RowO.at{w:World} {g n:Nat} {L:List (Ox × Value)} (h:RowO w g n L) {j:Nat} {y:Ox × Value} (hj:L[j]? =some y):∀i u,(six y.1 y.2)[i]? =some u→w.cell? ⟨g,j*6+i,none⟩=some u:=by
 obtain⟨cur,h1,h2,h3⟩:=h
 intro i u hu
 have hf:=flatO_at hj i u hu
 have hlt:j*6+i<(flatO L).length:=(List.getElem?_eq_some_iff.1 hf).1
 rw[flatO_length] at hlt
 rw[←h3,List.getElem?_take_of_lt hlt] at hf
 exact blk_cell h1 (by simpa using hf)
theorem w6s_block (w:World) (g m:Nat) (x:Ox) (v:Value) (k:Nat) (h:k≠g):(w6s w g m x v).heap[k]? =w.heap[k]? :=by
 unfold w6s
 rw[set_block _ _ _ _ h,set_block _ _ _ _ h,set_block _ _ _ _ h,set_block _ _ _ _ h,set_block _ _ _ _ h,set_block _ _ _ _ h]
theorem w6s_below {w0 w:World} {g B m:Nat} (hb:Below B w0 w) (hg:B≤g) (x:Ox) (v:Value):Below B w0 (w6s w g m x v):=
 (((((hb.setCell (p:=⟨g,m,none⟩) hg _).setCell (p:=⟨g,m+1,none⟩) hg _).setCell (p:=⟨g,m+2,none⟩) hg _).setCell (p:=⟨g,m+3,none⟩) hg _).setCell (p:=⟨g,m+4,none⟩) hg _).setCell (p:=⟨g,m+5,none⟩) hg _
/- ops that lie from block B on, each with a list of its own -/
def OpsNew (B:Nat) (w:World) (v:Value) (l:List Ox):Prop:=∃g L,v=.slice (some ⟨g,0,none⟩) l.length l.length∧B≤g∧L.map (·.1)=l∧RowO w g l.length L∧l.length≤1048576∧∀y ∈ L,w.ownsRow B 72 2 y.2 y.1.2.2.2.2.length (flatD y.1.2.2.2.2)
theorem OpsNew.below {B:Nat} {w w':World} {v:Value} {l:List Ox} (h:OpsNew B w v l) (hb:Below w.heap.size w w'):OpsNew B w' v l:=by
 obtain⟨g,L,h1,h2,h3,h4,h6,h5⟩:=h
 exact⟨g,L,h1,h2,h3,h4.below hb,h6,fun y hy=>own_below (h5 y hy) hb⟩
theorem OpsNew.at{B:Nat} {w:World} {v:Value} {l:List Ox} (h:OpsNew B w v l):OpsAt w v l:=by
 obtain⟨g,L,h1,h2,h3,h4,h6,h5⟩:=h
 have hlen:L.length=l.length:=by rw[←h3,List.length_map]
 refine⟨some ⟨g,0,none⟩,l.length,h1,Or.inr ⟨g,0,rfl,fun j hj=> ?_⟩,Nat.le_refl _, ?_,fun e=>by cases e⟩
 ·have hj2:j<L.length:=by omega
  have hy:=List.getElem?_eq_getElem hj2
  have e1:l.getD j oz=L[j].1:=by rw[←h3,List.getD_eq_getElem?_getD,List.getElem?_map,hy];rfl
  rw[e1]
  have key:=h4.at hy
  refine⟨L[j].2,⟨?_, ?_, ?_, ?_, ?_, ?_⟩,own_dts (h5 _ (List.getElem_mem hj2))⟩
  ·have:=key 0 _ rfl;rwa [show j*6+0=0+j*6 by omega] at this
  ·have:=key 1 _ rfl;rwa [show j*6+1=0+j*6+1 by omega] at this
  ·have:=key 2 _ rfl;rwa [show j*6+2=0+j*6+2 by omega] at this
  ·have:=key 3 _ rfl;rwa [show j*6+3=0+j*6+3 by omega] at this
  ·have:=key 4 _ rfl;rwa [show j*6+4=0+j*6+4 by omega] at this
  ·have:=key 5 _ rfl;rwa [show j*6+5=0+j*6+5 by omega] at this
 ·unfold maxLen;omega
theorem take_next {l:List Ox} {k:Nat} (hk:k<l.length):l.take (k+1)=l.take k++[l.getD k oz]:=by
 rw[List.take_add_one,List.getElem?_eq_getElem hk,List.getD_eq_getElem?_getD,List.getElem?_eq_getElem hk];rfl
structure OpsSt (w:World) (n:Nat) (l:List Ox) (g k:Nat) (wr:World) (L:List (Ox × Value)):Prop where
 bl:Below w.heap.size w wr
 row:RowO wr g n L
 ls:L.map (·.1)=l.take k
 own:∀y ∈ L,wr.ownsRow w.heap.size 72 2 y.2 y.1.2.2.2.2.length (flatD y.1.2.2.2.2)
theorem OpsSt.below {w:World} {n:Nat} {l:List Ox} {g k:Nat} {wr w':World} {L:List (Ox × Value)} (h:OpsSt w n l g k wr L) (hb:Below wr.heap.size wr w'):OpsSt w n l g k w' L:=
 ⟨bel h.bl hb,h.row.below hb,h.ls,fun y hy=>own_below (h.own y hy) hb⟩
theorem OpsSt.put {w:World} {n:Nat} {l:List Ox} {g k:Nat} {wr:World} {L:List (Ox × Value)} {x:Ox} {v:Value} (h:OpsSt w n l g k wr L) (hg:w.heap.size≤g) (hn:l.length=n) (hk:k<n) (hx:x=l.getD k oz) (hv:wr.ownsRow w.heap.size 72 2 v x.2.2.2.2.length (flatD x.2.2.2.2)):
  OpsSt w n l g (k+1) (w6s wr g (k*6) x v) (L++[(x,v)]):=by
 have hlen:L.length=k:=by have:=congrArg List.length h.ls;rw[List.length_map,List.length_take] at this;omega
 have hr:=h.row.put (x:=x) (v:=v) (by omega)
 rw[hlen] at hr
 have hne:∀(u:Value) (m:Nat) (xs:List Value),wr.ownsRow w.heap.size 72 2 u m xs→∀q,u.ownBlock=some q→q≠g:=fun u m xs ho q hq e=>by
  obtain⟨_,cur,hc⟩:=own_lt ho q hq
  obtain⟨cur2,c1,_⟩:=h.row
  rw[e,c1] at hc
  injection hc with hc
  injection hc with _ hc _
  exact absurd hc (by decide)
 refine⟨w6s_below h.bl hg x v,hr,by rw[List.map_append,h.ls,take_next (by omega),←hx];rfl,fun y hy=> ?_⟩
 rcases List.mem_append.1 hy with hy | hy
 ·exact own_stay (h.own y hy) fun q hq=>w6s_block _ _ _ _ _ _ (hne _ _ _ (h.own y hy) q hq)
 ·rw[List.mem_singleton.1 hy]
  exact own_stay hv fun q hq=>w6s_block _ _ _ _ _ _ (hne _ _ _ hv q hq)
theorem ops_get (D:Nat) (S:Dq) (F:Nat→Prop) (w:World) (h:DocAt w D S F):
  Calls Tryz.prog 119 #[.pointer (some ⟨D,0,none⟩)] w fun e w'=>∃v',e=.returned v'∧OpsNew w.heap.size w' v' S.ops∧Below w.heap.size w w':=by
 obtain⟨m,G,rfl,ok,hF⟩:=h
 have hfew:=ok.inv.few
 have hat:=ok.mem.ops.at
 have hsm:∀x ∈ S.ops,x.2.2.2.2.length≤40:=fun x hx=>(lawOf_zero.1 (opE_zero.1 (ok.inv.right x hx)).2.2.2).2.2.2.1
 obtain⟨i0,hi,hz0,hz1,hz2⟩:=info_parts Ii.infoO
 obtain⟨q,c,hvo,hin,_⟩:=hat
 have HBL:Hid (∀W,Below w.heap.size w W→W.cell? ⟨m.D,3,none⟩=some (.slice q S.ops.length c)):=fun W hb=>by
  rw[←hvo];exact blk_cell (ok.mem.below hb).blk rfl
 have HIN:Hid (∀W,Below w.heap.size w W→OpsIn W q S.ops):=fun W hb=>hin.below hb
 have HSM:=z9 hsm
 obtain⟨D,hD⟩:∃D,D=m.D:=⟨_,rfl⟩
 obtain⟨n,hn⟩:∃n,n=S.ops.length:=⟨_,rfl⟩
 rw[←hn,←hD] at HBL
 rw[←hD]
 have HN:=z9 hn.symm
 have hn4:n≤400:=by omega
 have hnz:(n:Int)≤400:=by omega
 have d3:=HBL.out w (Below.refl _ _)
 clear ok hF hfew hvo hin hsm hD hn
 go_enter Tryz.func119,Tryz.ntmps119
 go_wp2_with (at_make;refine wpList_make_full _ rfl (.tmp 10) (.tmp 10) 55 rfl w.heap.size 75 i0 (.agg #[.int .i64 0,.int .i64 0,.int .i64 0,.string ⟨#[]⟩,.int .i64 0,.slice none 0 0]) 6 Tryz.underlying55 hi hz0 hz1 .i64 .i64 (n:Int) (n:Int) n rfl rfl rfl rfl (by rw[hz2];omega) (by unfold maxLen;omega) (Nat.le_refl _) ?_;intro w1 hown hgrow;have HB1:Hid (Below w.heap.size w w1):=⟨hgrow.os,hgrow.tape,hgrow.output,hgrow.size,fun k hk=>hgrow.block k hk (by intro e;cases e)⟩;have HST1:Hid (OpsSt w n S.ops w.heap.size 0 w1 []):=⟨HB1.out,(by obtain⟨_,e | ⟨g9,cap9,cur9,e,_,hc9,_,_,hsz9,_⟩⟩:=hown;(exact absurd e.1 (by intro e9;cases e9));(injection e with e1 e2 e3;injection e1 with e1;injection e1 with e1;exact⟨cur9,(by rw[e1];exact hc9),(by rw[hsz9,←e3]),rfl⟩)),rfl,fun y hy=>(by cases hy)⟩;have d3b:=HBL.out w1 HB1.out;clear hown hgrow)
 go_loopw [17] (fun vi wr=>∃(k:Nat) (L:List (Ox × Value)),k≤n∧vi=.int .i64 k∧Hid (OpsSt w n S.ops w.heap.size k wr L)) (fun vi _=>n-(intOf vi).toNat)
 case atStart=>exact⟨0,[],by omega,rfl,HST1⟩
 case round=>
  clear HST1 HB1 d3b d3
  obtain⟨k,L,hk,rfl,HST⟩:=hrel
  by_cases hlt:k<n
  ·have hltz:(k:Int)<n:=by omega
   have hkl:k<S.ops.length:=by rw[HN.out];exact hlt
   obtain⟨bo,oo,rfl,hc⟩:=(HIN.out wr HST.out.bl).some (by intro e;rw[e] at hkl;simp at hkl)
   have ha:=hc k hkl
   have hxm:=HSM.out _ (getO_mem hkl)
   obtain⟨x,hx⟩:∃x,x=S.ops.getD k oz:=⟨_,rfl⟩
   rw[←hx] at ha hxm
   have HX:=z9 hx
   obtain⟨⟨xa,xb⟩,xt,xp,xc,xs⟩:=x
   obtain⟨vx,⟨a0,a1,a2,a3,a4,a5⟩,hdx⟩:=ha
   simp only at a0 a1 a2 a3 a4 a5 hdx hxm
   obtain⟨pv,nv,cv,rfl⟩:∃pv nv cv,vx=.slice pv nv cv:=by obtain⟨_,_,e9,_⟩:=hdx;exact⟨_,_,_,e9⟩
   have HBX:Hid (Below wr.heap.size wr (wr.alloc (.cells #[.int .i64 xa,.int .i64 xb,.int .i64 xt,.string xp,.int .i64 xc,.slice pv nv cv] 75))):=(Below.refl _ _).alloc (Nat.le_refl _) _
   have C:=copy_any xa xb xt xp xc (.slice pv nv cv) xs _ (hdx.below HBX.out) (by omega)
   obtain⟨e0,e1,e2,e3,e4,e5⟩:=six_new wr xa xb xt xp xc (.slice pv nv cv) 75
   clear hc hx hkl hdx hxm
   go_wp2_with fail
   refine C.mono ?_
   rintro e w2 ⟨v2,rfl,ho2,hb2⟩
   obtain⟨p2,n2,c2,rfl,_⟩:=own_shape ho2
   have HB2:=z9 (bel HBX.out hb2)
   have HST2:=z9 (HST.out.below HB2.out)
   have HO2:=z9 (own_lower ho2 (Nat.le_trans HST.out.bl.size HBX.out.size))
   obtain⟨⟨y0,z0⟩,g0⟩:=HST2.out.row.cell6 hlt 0 (by omega)
   obtain⟨⟨y1,z1⟩,g1⟩:=HST2.out.row.cell6 hlt 1 (by omega)
   obtain⟨⟨y2,z2⟩,g2⟩:=HST2.out.row.cell6 hlt 2 (by omega)
   obtain⟨⟨y3,z3⟩,g3⟩:=HST2.out.row.cell6 hlt 3 (by omega)
   obtain⟨⟨y4,z4⟩,g4⟩:=HST2.out.row.cell6 hlt 4 (by omega)
   obtain⟨⟨y5,z5⟩,g5⟩:=HST2.out.row.cell6 hlt 5 (by omega)
   rw[Nat.add_zero] at z0 g0
   have HP:Hid (OpsSt w n S.ops w.heap.size (k+1) (w6s w2 w.heap.size (k*6) ((xa,xb),xt,xp,xc,xs) (.slice p2 n2 c2)) (L++[(((xa,xb),xt,xp,xc,xs),.slice p2 n2 c2)])):=HST2.out.put (Nat.le_refl _) HN.out hlt HX.out HO2.out
   clear C ho2 hb2 a0 a1 a2 a3 a4 a5 e0 e1 e2 e3 e4 e5
   go_wp2_with fail
   go_roundw
   case rel=>exact⟨k+1,_,by omega,by go_num,HP⟩
   case measure=>simp[intOf];omega
  ·obtain rfl:n=k:=by omega
   have hltz:¬(n:Int)<n:=by omega
   go_wp2_with fail
   go_ret
   refine⟨_,rfl,⟨w.heap.size,L,by rw[HN.out];rfl,Nat.le_refl _, ?_,by rw[HN.out];exact HST.out.row,by rw[HN.out];omega,HST.out.own⟩,HST.out.bl⟩
   rw[HST.out.ls,←HN.out,List.take_length]
end Im
end Go.Proofs.YtlmdchpbpgcfmaaGreatDoor
