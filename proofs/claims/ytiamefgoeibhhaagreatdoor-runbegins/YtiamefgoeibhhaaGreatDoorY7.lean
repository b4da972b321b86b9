import Derived.Test.YtiamefgoeibhhaaGreatDoorY6
import Derived.Deep.QuietTactic
import Derived.BigQuiet
set_option linter.unusedVariables false
set_option maxRecDepth 100000
set_option maxHeartbeats 8000000
namespace Go.Proofs.YtiamefgoeibhhaaGreatDoor
namespace Rx7
open Go.ChangeShapes Go.WideShapes Go.ChangeAt Go.RowKit Cm Ka Om Hm Ia Hc Hd Hl Rz1 Rz4 Rx1 Rx3 Rx5 Rx6
open La (bel bel_drew errV_zero errV_ne)
open Di (Lib3)
structure DoPost (F0:Nat→Prop) (w0:World) (X:Nat) (N:Nt) (c:Cmd) (r:Ending) (w':World):Prop where
 out:∃(T:ByteArray) (E:Int),r=.returned (.tuple #[.string T,errV E])∧Eb E∧(doC N c).1=if E=0 then T.toList else nameE E
 net:Nw F0 w0 w' X (doC N c).2
theorem DoPost.err {F0:Nat→Prop} {w0:World} {X:Nat} {N:Nt} {c:Cmd} {w':World} {E:Int} {T:ByteArray} (hE:Eb E) (hT:T.toList=tOk) (h1:(doC N c).1=well E) (h2:Nw F0 w0 w' X (doC N c).2):DoPost F0 w0 X N c (.returned (.tuple #[.string T,errV E])) w':=
 ⟨⟨T,E,rfl,hE,by rw[h1,hT];rfl⟩,h2⟩
theorem DoPost.txt {F0:Nat→Prop} {w0:World} {X:Nat} {N:Nt} {c:Cmd} {w':World} {T:ByteArray} (h1:(doC N c).1=T.toList) (h2:Nw F0 w0 w' X (doC N c).2):DoPost F0 w0 X N c (.returned (.tuple #[.string T,.nilIface])) w':=
 ⟨⟨T,0,rfl,eb_k,by rw[if_pos rfl];exact h1⟩,h2⟩
theorem DoPost.one {F0:Nat→Prop} {w0:World} {X:Nat} {N:Nt} {c:Cmd} {w':World} {T:ByteArray} (h1:(doC N c).1=nRange) (h2:Nw F0 w0 w' X (doC N c).2):DoPost F0 w0 X N c (.returned (.tuple #[.string T,.iface 76 (.int .i64 1)])) w':=
 ⟨⟨T,1,rfl,eb_k,by rw[if_neg (by decide)];exact h1⟩,h2⟩
theorem ok_list:(⟨#[111,107]⟩:ByteArray).toList=tOk:=by kernel_rfl
theorem do_type (F0:Nat→Prop) (w0:World) (X:Nat) (N:Nt) (s:ByteArray) (a b:Nat) (tb:ByteArray) (w:World) (hs:s.toList=wType) (h:Nw F0 w0 w X N) (ho:Ok N) (hL:Lib3 w) (ha:a≤9999) (hb:b≤9999) (ht:tb.size≤100000):
  Calls Tryz.prog 33 #[ptr X,cmdV s a b tb] w (DoPost F0 w0 X N (.type a b tb.toList)):=by
 have b0:(s.toList==[116,121,112,101])=true:=by rw[hs];rfl
 have HB0:Hid (Below w.heap.size w (w.alloc (.cells #[.string s,.int .i64 a,.int .i64 b,.string tb] 85))):=(Below.refl _ w).alloc (Nat.le_refl _) _
 have HC0:Hid (CmdM (w.alloc (.cells #[.string s,.int .i64 a,.int .i64 b,.string tb] 85)) w.heap.size s a b tb):=CmdM.new w _ _ _ _
 have HW:=Hid.mk' h
 have HO:=Hid.mk' ho
 have HL:=Hid.mk' hL
 have HM:=Hid.mk' (And.intro ha (And.intro hb ht))
 clear h ho hL ha hb ht hs
 go_enter Tryz.func33,Tryz.ntmps33
 go_upto_region 1 with fail
 obtain⟨c0,c1,c2,c3,_⟩:=HC0.out.cells
 go_wp2_with fail
 go_quiet (fail)
 generalize hwq:World.drewN _ _=wq
 have HBQ:Hid (Below w.heap.size w wq):=by unfold Hid;rw[←hwq];exact bel_drew HB0.out _
 have HCQ:Hid (CmdM wq w.heap.size s a b tb):=by unfold Hid;rw[←hwq];exact HC0.out.below (bel_drew (Below.refl _ _) _)
 clear hwq c0 c1 c2 c3 HC0 HB0
 obtain⟨c0,c1,c2,c3,_⟩:=HCQ.out.cells
 have HWQ:=Hid.mk' (HW.out.below HBQ.out)
 have C:=type_any F0 w0 X N a b tb wq HWQ.out HO.out HM.out.1 HM.out.2.1 HM.out.2.2
 obtain⟨V,hV⟩:∃V,V=errV (typ N a b tb.toList).1:=⟨_,rfl⟩
 rw[←hV] at C
 have HV:=Hid.mk' hV
 clear hV HW
 go_wp2_with fail
 refine C.mono ?_
 rintro e w2 ⟨rfl,HW2⟩
 clear C c0 c1 c2 c3 HCQ
 go_wp2_with fail
 go_ret2
 rw[HV.out]
 exact DoPost.err (eb_typ _ _ _ _) ok_list rfl HW2.out
theorem do_erase (F0:Nat→Prop) (w0:World) (X:Nat) (N:Nt) (s:ByteArray) (a b:Nat) (tb:ByteArray) (w:World) (hs:s.toList=wErase) (h:Nw F0 w0 w X N) (ho:Ok N) (hL:Lib3 w) (ha:a≤9999) (hb:b≤9999) (ht:tb.size≤100000):
  Calls Tryz.prog 33 #[ptr X,cmdV s a b tb] w (DoPost F0 w0 X N (.ev 2 a b)):=by
 have b0:(s.toList==[116,121,112,101])=false:=by rw[hs];rfl
 have b1:(s.toList==[101,114,97,115,101])=true:=by rw[hs];rfl
 have HB0:Hid (Below w.heap.size w (w.alloc (.cells #[.string s,.int .i64 a,.int .i64 b,.string tb] 85))):=(Below.refl _ w).alloc (Nat.le_refl _) _
 have HC0:Hid (CmdM (w.alloc (.cells #[.string s,.int .i64 a,.int .i64 b,.string tb] 85)) w.heap.size s a b tb):=CmdM.new w _ _ _ _
 have HW:=Hid.mk' h
 have HO:=Hid.mk' ho
 have HL:=Hid.mk' hL
 have HM:=Hid.mk' (And.intro ha (And.intro hb ht))
 clear h ho hL ha hb ht hs
 go_enter Tryz.func33,Tryz.ntmps33
 go_upto_region 1 with fail
 obtain⟨c0,c1,c2,c3,_⟩:=HC0.out.cells
 go_wp2_with fail
 go_quiet (fail)
 generalize hwq:World.drewN _ _=wq
 have HBQ:Hid (Below w.heap.size w wq):=by unfold Hid;rw[←hwq];exact bel_drew HB0.out _
 have HCQ:Hid (CmdM wq w.heap.size s a b tb):=by unfold Hid;rw[←hwq];exact HC0.out.below (bel_drew (Below.refl _ _) _)
 clear hwq c0 c1 c2 c3 HC0 HB0
 obtain⟨c0,c1,c2,c3,_⟩:=HCQ.out.cells
 have HWQ:=Hid.mk' (HW.out.below HBQ.out)
 have C:=HWQ.out.does HO.out.gl (by rw[HO.out.none];exact Nat.zero_le _) (2,(a:Int),(b:Int),0)
 obtain⟨V,hV⟩:∃V,V=errV (evE N (2,(a:Int),(b:Int),0)):=⟨_,rfl⟩
 rw[←hV] at C
 have HV:=Hid.mk' hV
 clear hV HW
 go_wp2_with fail
 refine C.mono ?_
 rintro e w2 ⟨rfl,HW2⟩
 clear C c0 c1 c2 c3 HCQ
 go_wp2_with fail
 go_ret2
 rw[HV.out]
 exact DoPost.err (eb_ev _ _) ok_list rfl HW2.out
theorem do_cut (F0:Nat→Prop) (w0:World) (X:Nat) (N:Nt) (s:ByteArray) (a b:Nat) (tb:ByteArray) (w:World) (hs:s.toList=wCut) (h:Nw F0 w0 w X N) (ho:Ok N) (hL:Lib3 w) (ha:a≤9999) (hb:b≤9999) (ht:tb.size≤100000):
  Calls Tryz.prog 33 #[ptr X,cmdV s a b tb] w (DoPost F0 w0 X N (.ev 7 a b)):=by
 have b0:(s.toList==[116,121,112,101])=false:=by rw[hs];rfl
 have b1:(s.toList==[101,114,97,115,101])=false:=by rw[hs];rfl
 have b2:(s.toList==[99,117,116])=true:=by rw[hs];rfl
 have HB0:Hid (Below w.heap.size w (w.alloc (.cells #[.string s,.int .i64 a,.int .i64 b,.string tb] 85))):=(Below.refl _ w).alloc (Nat.le_refl _) _
 have HC0:Hid (CmdM (w.alloc (.cells #[.string s,.int .i64 a,.int .i64 b,.string tb] 85)) w.heap.size s a b tb):=CmdM.new w _ _ _ _
 have HW:=Hid.mk' h
 have HO:=Hid.mk' ho
 have HL:=Hid.mk' hL
 have HM:=Hid.mk' (And.intro ha (And.intro hb ht))
 clear h ho hL ha hb ht hs
 go_enter Tryz.func33,Tryz.ntmps33
 go_upto_region 1 with fail
 obtain⟨c0,c1,c2,c3,_⟩:=HC0.out.cells
 go_wp2_with fail
 go_quiet (fail)
 generalize hwq:World.drewN _ _=wq
 have HBQ:Hid (Below w.heap.size w wq):=by unfold Hid;rw[←hwq];exact bel_drew HB0.out _
 have HCQ:Hid (CmdM wq w.heap.size s a b tb):=by unfold Hid;rw[←hwq];exact HC0.out.below (bel_drew (Below.refl _ _) _)
 clear hwq c0 c1 c2 c3 HC0 HB0
 obtain⟨c0,c1,c2,c3,_⟩:=HCQ.out.cells
 have HWQ:=Hid.mk' (HW.out.below HBQ.out)
 have C:=HWQ.out.does HO.out.gl (by rw[HO.out.none];exact Nat.zero_le _) (7,(a:Int),(b:Int),0)
 obtain⟨V,hV⟩:∃V,V=errV (evE N (7,(a:Int),(b:Int),0)):=⟨_,rfl⟩
 rw[←hV] at C
 have HV:=Hid.mk' hV
 clear hV HW
 go_wp2_with fail
 refine C.mono ?_
 rintro e w2 ⟨rfl,HW2⟩
 clear C c0 c1 c2 c3 HCQ
 go_wp2_with fail
 go_ret2
 rw[HV.out]
 exact DoPost.err (eb_ev _ _) ok_list rfl HW2.out
theorem do_fuse (F0:Nat→Prop) (w0:World) (X:Nat) (N:Nt) (s:ByteArray) (a b:Nat) (tb:ByteArray) (w:World) (hs:s.toList=wFuse) (h:Nw F0 w0 w X N) (ho:Ok N) (hL:Lib3 w) (ha:a≤9999) (hb:b≤9999) (ht:tb.size≤100000):
  Calls Tryz.prog 33 #[ptr X,cmdV s a b tb] w (DoPost F0 w0 X N (.ev 8 a b)):=by
 have b0:(s.toList==[116,121,112,101])=false:=by rw[hs];rfl
 have b1:(s.toList==[101,114,97,115,101])=false:=by rw[hs];rfl
 have b2:(s.toList==[99,117,116])=false:=by rw[hs];rfl
 have b3:(s.toList==[102,117,115,101])=true:=by rw[hs];rfl
 have HB0:Hid (Below w.heap.size w (w.alloc (.cells #[.string s,.int .i64 a,.int .i64 b,.string tb] 85))):=(Below.refl _ w).alloc (Nat.le_refl _) _
 have HC0:Hid (CmdM (w.alloc (.cells #[.string s,.int .i64 a,.int .i64 b,.string tb] 85)) w.heap.size s a b tb):=CmdM.new w _ _ _ _
 have HW:=Hid.mk' h
 have HO:=Hid.mk' ho
 have HL:=Hid.mk' hL
 have HM:=Hid.mk' (And.intro ha (And.intro hb ht))
 clear h ho hL ha hb ht hs
 go_enter Tryz.func33,Tryz.ntmps33
 go_upto_region 1 with fail
 obtain⟨c0,c1,c2,c3,_⟩:=HC0.out.cells
 go_wp2_with fail
 go_quiet (fail)
 generalize hwq:World.drewN _ _=wq
 have HBQ:Hid (Below w.heap.size w wq):=by unfold Hid;rw[←hwq];exact bel_drew HB0.out _
 have HCQ:Hid (CmdM wq w.heap.size s a b tb):=by unfold Hid;rw[←hwq];exact HC0.out.below (bel_drew (Below.refl _ _) _)
 clear hwq c0 c1 c2 c3 HC0 HB0
 obtain⟨c0,c1,c2,c3,_⟩:=HCQ.out.cells
 have HWQ:=Hid.mk' (HW.out.below HBQ.out)
 have C:=HWQ.out.does HO.out.gl (by rw[HO.out.none];exact Nat.zero_le _) (8,(a:Int),(b:Int),0)
 obtain⟨V,hV⟩:∃V,V=errV (evE N (8,(a:Int),(b:Int),0)):=⟨_,rfl⟩
 rw[←hV] at C
 have HV:=Hid.mk' hV
 clear hV HW
 go_wp2_with fail
 refine C.mono ?_
 rintro e w2 ⟨rfl,HW2⟩
 clear C c0 c1 c2 c3 HCQ
 go_wp2_with fail
 go_ret2
 rw[HV.out]
 exact DoPost.err (eb_ev _ _) ok_list rfl HW2.out
theorem do_send (F0:Nat→Prop) (w0:World) (X:Nat) (N:Nt) (s:ByteArray) (a b:Nat) (tb:ByteArray) (w:World) (hs:s.toList=wSend) (h:Nw F0 w0 w X N) (ho:Ok N) (hL:Lib3 w) (ha:a≤9999) (hb:b≤9999) (ht:tb.size≤100000):
  Calls Tryz.prog 33 #[ptr X,cmdV s a b tb] w (DoPost F0 w0 X N (.send a b)):=by
 have b0:(s.toList==[116,121,112,101])=false:=by rw[hs];rfl
 have b1:(s.toList==[101,114,97,115,101])=false:=by rw[hs];rfl
 have b2:(s.toList==[99,117,116])=false:=by rw[hs];rfl
 have b3:(s.toList==[102,117,115,101])=false:=by rw[hs];rfl
 have b4:(s.toList==[115,101,110,100])=true:=by rw[hs];rfl
 have HB0:Hid (Below w.heap.size w (w.alloc (.cells #[.string s,.int .i64 a,.int .i64 b,.string tb] 85))):=(Below.refl _ w).alloc (Nat.le_refl _) _
 have HC0:Hid (CmdM (w.alloc (.cells #[.string s,.int .i64 a,.int .i64 b,.string tb] 85)) w.heap.size s a b tb):=CmdM.new w _ _ _ _
 have HW:=Hid.mk' h
 have HO:=Hid.mk' ho
 have HL:=Hid.mk' hL
 have HM:=Hid.mk' (And.intro ha (And.intro hb ht))
 clear h ho hL ha hb ht hs
 go_enter Tryz.func33,Tryz.ntmps33
 go_upto_region 1 with fail
 obtain⟨c0,c1,c2,c3,_⟩:=HC0.out.cells
 go_wp2_with fail
 go_quiet (fail)
 generalize hwq:World.drewN _ _=wq
 have HBQ:Hid (Below w.heap.size w wq):=by unfold Hid;rw[←hwq];exact bel_drew HB0.out _
 have HCQ:Hid (CmdM wq w.heap.size s a b tb):=by unfold Hid;rw[←hwq];exact HC0.out.below (bel_drew (Below.refl _ _) _)
 clear hwq c0 c1 c2 c3 HC0 HB0
 obtain⟨c0,c1,c2,c3,_⟩:=HCQ.out.cells
 have HWQ:=Hid.mk' (HW.out.below HBQ.out)
 have C:=send_any F0 w0 X N a b wq HWQ.out HO.out
 obtain⟨V,hV⟩:∃V,V=errV (sent N a b).1:=⟨_,rfl⟩
 rw[←hV] at C
 have HV:=Hid.mk' hV
 clear hV HW
 go_wp2_with fail
 refine C.mono ?_
 rintro e w2 ⟨rfl,HW2⟩
 clear C c0 c1 c2 c3 HCQ
 go_wp2_with fail
 go_ret2
 rw[HV.out]
 exact DoPost.err (eb_sent _ _ _) ok_list rfl HW2.out
theorem do_show (F0:Nat→Prop) (w0:World) (X:Nat) (N:Nt) (s:ByteArray) (a b:Nat) (tb:ByteArray) (w:World) (hs:s.toList=wShow) (h:Nw F0 w0 w X N) (ho:Ok N) (hL:Lib3 w) (ha:a≤9999) (hb:b≤9999) (ht:tb.size≤100000):
  Calls Tryz.prog 33 #[ptr X,cmdV s a b tb] w (DoPost F0 w0 X N (.shw a)):=by
 have b0:(s.toList==[116,121,112,101])=false:=by rw[hs];rfl
 have b1:(s.toList==[101,114,97,115,101])=false:=by rw[hs];rfl
 have b2:(s.toList==[99,117,116])=false:=by rw[hs];rfl
 have b3:(s.toList==[102,117,115,101])=false:=by rw[hs];rfl
 have b4:(s.toList==[115,101,110,100])=false:=by rw[hs];rfl
 have b5:(s.toList==[115,104,111,119])=true:=by rw[hs];rfl
 have HB0:Hid (Below w.heap.size w (w.alloc (.cells #[.string s,.int .i64 a,.int .i64 b,.string tb] 85))):=(Below.refl _ w).alloc (Nat.le_refl _) _
 have HC0:Hid (CmdM (w.alloc (.cells #[.string s,.int .i64 a,.int .i64 b,.string tb] 85)) w.heap.size s a b tb):=CmdM.new w _ _ _ _
 have HW:=Hid.mk' h
 have HO:=Hid.mk' ho
 have HL:=Hid.mk' hL
 have HM:=Hid.mk' (And.intro ha (And.intro hb ht))
 clear h ho hL ha hb ht hs
 go_enter Tryz.func33,Tryz.ntmps33
 go_upto_region 1 with fail
 obtain⟨c0,c1,c2,c3,_⟩:=HC0.out.cells
 go_wp2_with fail
 go_quiet (fail)
 generalize hwq:World.drewN _ _=wq
 have HBQ:Hid (Below w.heap.size w wq):=by unfold Hid;rw[←hwq];exact bel_drew HB0.out _
 have HCQ:Hid (CmdM wq w.heap.size s a b tb):=by unfold Hid;rw[←hwq];exact HC0.out.below (bel_drew (Below.refl _ _) _)
 clear hwq c0 c1 c2 c3 HC0 HB0
 obtain⟨c0,c1,c2,c3,_⟩:=HCQ.out.cells
 have HWQ:=Hid.mk' (HW.out.below HBQ.out)
 obtain⟨F,q1,_⟩:=HWQ.out.at'
 by_cases hi:a<N.ds.length
 ·have C:=show_yes F X N a wq q1 HO.out.gl hi
  obtain⟨T,hT⟩:∃T:ByteArray,T=shwT (dq N a):=⟨_,rfl⟩
  rw[←hT] at C
  have HT:Hid ((doC N (.shw a)).1=T.toList∧(doC N (.shw a)).2=N):=⟨by rw[doC_shw];dsimp only;rw[if_pos hi,hT];first | rfl | exact(Om.toList_mk _).symm,rfl⟩
  clear hT HW q1 hi
  go_wp2_with fail
  refine C.mono ?_
  rintro e w2 ⟨rfl,hb2⟩
  have HW2:=Hid.mk' (HWQ.out.below hb2)
  clear C c0 c1 c2 c3 HCQ hb2
  go_wp2_with fail
  go_ret2
  exact DoPost.txt HT.out.1 (by rw[HT.out.2];exact HW2.out)
 ·have C:=show_no F X N a wq q1 HO.out.gl hi
  have HT:Hid ((doC N (.shw a)).1=nRange∧(doC N (.shw a)).2=N):=⟨by rw[doC_shw];dsimp only;rw[if_neg hi],rfl⟩
  clear HW q1 hi
  go_wp2_with fail
  refine C.mono ?_
  rintro e w2 ⟨rfl,hb2⟩
  have HW2:=Hid.mk' (HWQ.out.below hb2)
  clear C c0 c1 c2 c3 HCQ hb2
  go_wp2_with fail
  go_ret2
  exact DoPost.one HT.out.1 (by rw[HT.out.2];exact HW2.out)
theorem do_parts (F0:Nat→Prop) (w0:World) (X:Nat) (N:Nt) (s:ByteArray) (a b:Nat) (tb:ByteArray) (w:World) (hs:s.toList=wParts) (h:Nw F0 w0 w X N) (ho:Ok N) (hL:Lib3 w) (ha:a≤9999) (hb:b≤9999) (ht:tb.size≤100000):
  Calls Tryz.prog 33 #[ptr X,cmdV s a b tb] w (DoPost F0 w0 X N (.parts a)):=by
 have b0:(s.toList==[116,121,112,101])=false:=by rw[hs];rfl
 have b1:(s.toList==[101,114,97,115,101])=false:=by rw[hs];rfl
 have b2:(s.toList==[99,117,116])=false:=by rw[hs];rfl
 have b3:(s.toList==[102,117,115,101])=false:=by rw[hs];rfl
 have b4:(s.toList==[115,101,110,100])=false:=by rw[hs];rfl
 have b5:(s.toList==[115,104,111,119])=false:=by rw[hs];rfl
 have b6:(s.toList==[112,97,114,116,115])=true:=by rw[hs];rfl
 have HB0:Hid (Below w.heap.size w (w.alloc (.cells #[.string s,.int .i64 a,.int .i64 b,.string tb] 85))):=(Below.refl _ w).alloc (Nat.le_refl _) _
 have HC0:Hid (CmdM (w.alloc (.cells #[.string s,.int .i64 a,.int .i64 b,.string tb] 85)) w.heap.size s a b tb):=CmdM.new w _ _ _ _
 have HW:=Hid.mk' h
 have HO:=Hid.mk' ho
 have HL:=Hid.mk' hL
 have HM:=Hid.mk' (And.intro ha (And.intro hb ht))
 clear h ho hL ha hb ht hs
 go_enter Tryz.func33,Tryz.ntmps33
 go_upto_region 1 with fail
 obtain⟨c0,c1,c2,c3,_⟩:=HC0.out.cells
 go_wp2_with fail
 go_quiet (fail)
 generalize hwq:World.drewN _ _=wq
 have HBQ:Hid (Below w.heap.size w wq):=by unfold Hid;rw[←hwq];exact bel_drew HB0.out _
 have HCQ:Hid (CmdM wq w.heap.size s a b tb):=by unfold Hid;rw[←hwq];exact HC0.out.below (bel_drew (Below.refl _ _) _)
 clear hwq c0 c1 c2 c3 HC0 HB0
 obtain⟨c0,c1,c2,c3,_⟩:=HCQ.out.cells
 have HWQ:=Hid.mk' (HW.out.below HBQ.out)
 obtain⟨F,q1,_⟩:=HWQ.out.at'
 by_cases hi:a<N.ds.length
 ·have C:=parts_yes F X N a wq q1 HO.out.gl hi
  obtain⟨T,hT⟩:∃T:ByteArray,T=mk (partsT (dq N a)):=⟨_,rfl⟩
  rw[←hT] at C
  have HT:Hid ((doC N (.parts a)).1=T.toList∧(doC N (.parts a)).2=N):=⟨by rw[doC_parts];dsimp only;rw[if_pos hi,hT];first | rfl | exact(Om.toList_mk _).symm,rfl⟩
  clear hT HW q1 hi
  go_wp2_with fail
  refine C.mono ?_
  rintro e w2 ⟨rfl,hb2⟩
  have HW2:=Hid.mk' (HWQ.out.below hb2)
  clear C c0 c1 c2 c3 HCQ hb2
  go_wp2_with fail
  go_ret2
  exact DoPost.txt HT.out.1 (by rw[HT.out.2];exact HW2.out)
 ·have C:=parts_no F X N a wq q1 hi
  have HT:Hid ((doC N (.parts a)).1=nRange∧(doC N (.parts a)).2=N):=⟨by rw[doC_parts];dsimp only;rw[if_neg hi],rfl⟩
  clear HW q1 hi
  go_wp2_with fail
  refine C.mono ?_
  rintro e w2 ⟨rfl,hw⟩
  have hb2:Below wq.heap.size wq w2:=by rw[hw];exact Below.refl _ _
  clear hw
  have HW2:=Hid.mk' (HWQ.out.below hb2)
  clear C c0 c1 c2 c3 HCQ hb2
  go_wp2_with fail
  go_ret2
  exact DoPost.one HT.out.1 (by rw[HT.out.2];exact HW2.out)
theorem do_who (F0:Nat→Prop) (w0:World) (X:Nat) (N:Nt) (s:ByteArray) (a b:Nat) (tb:ByteArray) (w:World) (hs:s.toList=wWho) (h:Nw F0 w0 w X N) (ho:Ok N) (hL:Lib3 w) (ha:a≤9999) (hb:b≤9999) (ht:tb.size≤100000):
  Calls Tryz.prog 33 #[ptr X,cmdV s a b tb] w (DoPost F0 w0 X N (.who a)):=by
 have b0:(s.toList==[116,121,112,101])=false:=by rw[hs];rfl
 have b1:(s.toList==[101,114,97,115,101])=false:=by rw[hs];rfl
 have b2:(s.toList==[99,117,116])=false:=by rw[hs];rfl
 have b3:(s.toList==[102,117,115,101])=false:=by rw[hs];rfl
 have b4:(s.toList==[115,101,110,100])=false:=by rw[hs];rfl
 have b5:(s.toList==[115,104,111,119])=false:=by rw[hs];rfl
 have b6:(s.toList==[112,97,114,116,115])=false:=by rw[hs];rfl
 have b7:(s.toList==[119,104,111])=true:=by rw[hs];rfl
 have HB0:Hid (Below w.heap.size w (w.alloc (.cells #[.string s,.int .i64 a,.int .i64 b,.string tb] 85))):=(Below.refl _ w).alloc (Nat.le_refl _) _
 have HC0:Hid (CmdM (w.alloc (.cells #[.string s,.int .i64 a,.int .i64 b,.string tb] 85)) w.heap.size s a b tb):=CmdM.new w _ _ _ _
 have HW:=Hid.mk' h
 have HO:=Hid.mk' ho
 have HL:=Hid.mk' hL
 have HM:=Hid.mk' (And.intro ha (And.intro hb ht))
 clear h ho hL ha hb ht hs
 go_enter Tryz.func33,Tryz.ntmps33
 go_upto_region 1 with fail
 obtain⟨c0,c1,c2,c3,_⟩:=HC0.out.cells
 go_wp2_with fail
 go_quiet (fail)
 generalize hwq:World.drewN _ _=wq
 have HBQ:Hid (Below w.heap.size w wq):=by unfold Hid;rw[←hwq];exact bel_drew HB0.out _
 have HCQ:Hid (CmdM wq w.heap.size s a b tb):=by unfold Hid;rw[←hwq];exact HC0.out.below (bel_drew (Below.refl _ _) _)
 clear hwq c0 c1 c2 c3 HC0 HB0
 obtain⟨c0,c1,c2,c3,_⟩:=HCQ.out.cells
 have HWQ:=Hid.mk' (HW.out.below HBQ.out)
 obtain⟨F,q1,_⟩:=HWQ.out.at'
 by_cases hi:a<N.ds.length
 ·have C:=who_yes F X N a wq q1 HO.out.gl hi (HL.out.below HBQ.out)
  obtain⟨T,hT⟩:∃T:ByteArray,T=mk (whoT (dq N a)):=⟨_,rfl⟩
  rw[←hT] at C
  have HT:Hid ((doC N (.who a)).1=T.toList∧(doC N (.who a)).2=N):=⟨by rw[doC_who];dsimp only;rw[if_pos hi,hT];first | rfl | exact(Om.toList_mk _).symm,rfl⟩
  clear hT HW q1 hi
  go_wp2_with fail
  refine C.mono ?_
  rintro e w2 ⟨rfl,hb2⟩
  have HW2:=Hid.mk' (HWQ.out.below hb2)
  clear C c0 c1 c2 c3 HCQ hb2
  go_wp2_with fail
  go_ret2
  exact DoPost.txt HT.out.1 (by rw[HT.out.2];exact HW2.out)
 ·have C:=who_no F X N a wq q1 hi
  have HT:Hid ((doC N (.who a)).1=nRange∧(doC N (.who a)).2=N):=⟨by rw[doC_who];dsimp only;rw[if_neg hi],rfl⟩
  clear HW q1 hi
  go_wp2_with fail
  refine C.mono ?_
  rintro e w2 ⟨rfl,hw⟩
  have hb2:Below wq.heap.size wq w2:=by rw[hw];exact Below.refl _ _
  clear hw
  have HW2:=Hid.mk' (HWQ.out.below hb2)
  clear C c0 c1 c2 c3 HCQ hb2
  go_wp2_with fail
  go_ret2
  exact DoPost.one HT.out.1 (by rw[HT.out.2];exact HW2.out)
theorem do_same (F0:Nat→Prop) (w0:World) (X:Nat) (N:Nt) (s:ByteArray) (a b:Nat) (tb:ByteArray) (w:World) (hs:s.toList=wSame) (h:Nw F0 w0 w X N) (ho:Ok N) (hL:Lib3 w) (ha:a≤9999) (hb:b≤9999) (ht:tb.size≤100000):
  Calls Tryz.prog 33 #[ptr X,cmdV s a b tb] w (DoPost F0 w0 X N (.same)):=by
 have b0:(s.toList==[116,121,112,101])=false:=by rw[hs];rfl
 have b1:(s.toList==[101,114,97,115,101])=false:=by rw[hs];rfl
 have b2:(s.toList==[99,117,116])=false:=by rw[hs];rfl
 have b3:(s.toList==[102,117,115,101])=false:=by rw[hs];rfl
 have b4:(s.toList==[115,101,110,100])=false:=by rw[hs];rfl
 have b5:(s.toList==[115,104,111,119])=false:=by rw[hs];rfl
 have b6:(s.toList==[112,97,114,116,115])=false:=by rw[hs];rfl
 have b7:(s.toList==[119,104,111])=false:=by rw[hs];rfl
 have b8:(s.toList==[115,97,109,101])=true:=by rw[hs];rfl
 have HB0:Hid (Below w.heap.size w (w.alloc (.cells #[.string s,.int .i64 a,.int .i64 b,.string tb] 85))):=(Below.refl _ w).alloc (Nat.le_refl _) _
 have HC0:Hid (CmdM (w.alloc (.cells #[.string s,.int .i64 a,.int .i64 b,.string tb] 85)) w.heap.size s a b tb):=CmdM.new w _ _ _ _
 have HW:=Hid.mk' h
 have HO:=Hid.mk' ho
 have HL:=Hid.mk' hL
 have HM:=Hid.mk' (And.intro ha (And.intro hb ht))
 clear h ho hL ha hb ht hs
 go_enter Tryz.func33,Tryz.ntmps33
 go_upto_region 1 with fail
 obtain⟨c0,c1,c2,c3,_⟩:=HC0.out.cells
 go_wp2_with fail
 go_quiet (fail)
 generalize hwq:World.drewN _ _=wq
 have HBQ:Hid (Below w.heap.size w wq):=by unfold Hid;rw[←hwq];exact bel_drew HB0.out _
 have HCQ:Hid (CmdM wq w.heap.size s a b tb):=by unfold Hid;rw[←hwq];exact HC0.out.below (bel_drew (Below.refl _ _) _)
 clear hwq c0 c1 c2 c3 HC0 HB0
 obtain⟨c0,c1,c2,c3,_⟩:=HCQ.out.cells
 have HWQ:=Hid.mk' (HW.out.below HBQ.out)
 obtain⟨F,q1,_⟩:=HWQ.out.at'
 have C:=same_any F X N wq q1 HO.out.gl (by rw[HO.out.three];omega)
 obtain⟨T,hT⟩:∃T:ByteArray,T=mk (if sameN N then tYes else tNo):=⟨_,rfl⟩
 rw[←hT] at C
 have HT:Hid ((doC N .same).1=T.toList):=by unfold Hid;rw[doC_same,hT];exact(Om.toList_mk _).symm
 clear hT HW q1
 go_wp2_with fail
 refine C.mono ?_
 rintro e w2 ⟨rfl,hb2⟩
 have HW2:=Hid.mk' (HWQ.out.below hb2)
 clear C c0 c1 c2 c3 HCQ hb2
 go_wp2_with fail
 go_ret2
 exact DoPost.txt HT.out HW2.out
theorem dec_lt:∀(l:Tx) (v n:Nat),Lib.decFrom v l=some n→n<(v+1)*10^l.length
 | [],v,n,h=>by
  rw[Lib.decFrom] at h
  injection h with h;subst h
  simp
 | c::r,v,n,h=>by
  rw[Lib.decFrom] at h
  cases hd:Lib.digitVal c with
  | none=>rw[hd] at h;cases h
  | some d=>
   rw[hd] at h
   have h1:=dec_lt r _ _ h
   have h2:=(Dm.digitVal_some hd).1
   rw[List.length_cons,Nat.pow_succ]
   have h3:(v*10+d+1)*10^r.length≤((v+1)*10)*10^r.length:=Nat.mul_le_mul_right _ (by omega)
   rw[Nat.mul_comm (10^r.length) 10,←Nat.mul_assoc]
   exact Nat.lt_of_lt_of_le h1 h3
theorem num_le {s:Tx} {n:Nat} (h:num s=some n):n≤9999:=by
 unfold num at h
 split at h
 ·cases h
 ·next hl=>
  unfold Dm.refO at h
  split at h
  ·cases h
  ·have h1:=dec_lt s 0 n h
   have h2:10^s.length≤10^4:=Nat.pow_le_pow_right (by omega) (by omega)
   omega
theorem pcs_len:∀(k:Nat) (s x:Tx),x ∈ pcs k s→x.length≤s.length
 | 0,s,x,h=>by rw[pcs] at h;rw[List.mem_singleton.1 h];exact Nat.le_refl _
 | k+1,s,x,h=>by
  rcases word_cases s with h2 | ⟨a,r,h2,e⟩
  ·rw[pcs_miss h2] at h;rw[List.mem_singleton.1 h];exact Nat.le_refl _
  ·rw[pcs_hit h2] at h
   have hl:s.length=a.length+r.length+1:=by rw[e];simp;omega
   rcases List.mem_cons.1 h with h3 | h3
   ·rw[h3];omega
   ·have:=pcs_len k r x h3;omega
theorem getD_len (k:Nat) (s:Tx) (j:Nat):((pcs k s).getD j []).length≤s.length:=by
 by_cases h:j<(pcs k s).length
 ·rw[List.getD_eq_getElem?_getD,List.getElem?_eq_getElem h];exact pcs_len k s _ (List.getElem_mem _)
 ·rw[List.getD_eq_getElem?_getD,List.getElem?_eq_none (by omega)];exact Nat.zero_le _
structure Small (s x t:Tx) (a b:Nat):Prop where
 word:form x≠none
 a:a≤9999
 b:b≤9999
 t:t.length≤s.length
theorem rd_small {s x t:Tx} {a b:Nat} (h:rd s=some (x,a,b,t)):Small s x t a b:=by
 unfold rd at h
 cases hf:form (head s) with
 | none=>rw[hf] at h;cases h
 | some f=>
  rw[hf] at h
  have hw:form (head s)≠none:=by rw[hf];simp
  rcases f with⟨_ | _,_ | _⟩
  ·have h:read0 (head s) (alls s)=some (x,a,b,t):=h
   unfold read0 at h
   split at h
   ·injection h with h;injection h with h1 h;injection h with h2 h;injection h with h3 h4
    subst h1 h2 h3 h4
    exact⟨hw,by omega,by omega,by simp⟩
   ·cases h
  ·have h:read1 (head s) (alls s)=some (x,a,b,t):=h
   unfold read1 at h
   split at h
   ·obtain⟨i,hi,h⟩:=Option.map_eq_some_iff.1 h
    injection h with h1 h;injection h with h2 h;injection h with h3 h4
    subst h1 h2 h3 h4
    exact⟨hw,num_le hi,by omega,by simp⟩
   ·cases h
  ·have h:read2 (head s) (alls s)=some (x,a,b,t):=h
   unfold read2 at h
   split at h
   ·obtain⟨i,hi,h⟩:=Option.bind_eq_some_iff.1 h
    obtain⟨k,hk,h⟩:=Option.map_eq_some_iff.1 h
    injection h with h1 h;injection h with h2 h;injection h with h3 h4
    subst h1 h2 h3 h4
    exact⟨hw,num_le hi,num_le hk,by simp⟩
   ·cases h
  ·have h:read3 (head s) (pcs 3 s)=some (x,a,b,t):=h
   unfold read3 at h
   split at h
   ·obtain⟨i,hi,h⟩:=Option.bind_eq_some_iff.1 h
    obtain⟨k,hk,h⟩:=Option.map_eq_some_iff.1 h
    injection h with h1 h;injection h with h2 h;injection h with h3 h4
    subst h1 h2 h3 h4
    exact⟨hw,num_le hi,num_le hk,getD_len 3 s 3⟩
   ·cases h
theorem do_any (F0:Nat→Prop) (w0:World) (X:Nat) (N:Nt) (s x t:Tx) (a b:Nat) (w:World) (hr:rd s=some (x,a,b,t)) (hs:s.length≤100000) (h:Nw F0 w0 w X N) (ho:Ok N) (hL:Lib3 w):
  Calls Tryz.prog 33 #[ptr X,cmdV (mk x) a b (mk t)] w (DoPost F0 w0 X N (cmd s)):=by
 obtain⟨hw,ha,hb,ht⟩:=rd_small hr
 have hx:(mk x).toList=x:=Om.toList_mk _
 have htl:(mk t).toList=t:=Om.toList_mk _
 have hts:(mk t).size≤100000:=by rw[←Kb.len_eq,htl];omega
 rw[←rd_cmd,hr]
 by_cases h1:x=wType
 ·have:=do_type F0 w0 X N (mk x) a b (mk t) w (by rw[hx,h1]) h ho hL ha hb hts
  rw[htl] at this;subst h1;exact this
 by_cases h2:x=wErase
 ·have:=do_erase F0 w0 X N (mk x) a b (mk t) w (by rw[hx,h2]) h ho hL ha hb hts
  subst h2;exact this
 by_cases h3:x=wCut
 ·have:=do_cut F0 w0 X N (mk x) a b (mk t) w (by rw[hx,h3]) h ho hL ha hb hts
  subst h3;exact this
 by_cases h4:x=wFuse
 ·have:=do_fuse F0 w0 X N (mk x) a b (mk t) w (by rw[hx,h4]) h ho hL ha hb hts
  subst h4;exact this
 by_cases h5:x=wSend
 ·have:=do_send F0 w0 X N (mk x) a b (mk t) w (by rw[hx,h5]) h ho hL ha hb hts
  subst h5;exact this
 by_cases h6:x=wShow
 ·have:=do_show F0 w0 X N (mk x) a b (mk t) w (by rw[hx,h6]) h ho hL ha hb hts
  subst h6;exact this
 by_cases h7:x=wParts
 ·have:=do_parts F0 w0 X N (mk x) a b (mk t) w (by rw[hx,h7]) h ho hL ha hb hts
  subst h7;exact this
 by_cases h8:x=wWho
 ·have:=do_who F0 w0 X N (mk x) a b (mk t) w (by rw[hx,h8]) h ho hL ha hb hts
  subst h8;exact this
 by_cases h9:x=wSame
 ·have:=do_same F0 w0 X N (mk x) a b (mk t) w (by rw[hx,h9]) h ho hL ha hb hts
  subst h9;exact this
 ·exfalso
  apply hw
  unfold form
  rw[if_neg h1,if_neg (by rintro(e | e | e | e)<;>contradiction),if_neg (by rintro(e | e | e)<;>contradiction),if_neg h9]
structure Base (wb w0:World) (F0:Nat→Prop):Prop where
 et:Kt.ET wb
 lib:Lib3 wb
 bel:Below wb.heap.size wb w0
 ge:∀g,F0 g→wb.heap.size≤g
theorem Base.below {wb w0:World} {F0:Nat→Prop} (B:Base wb w0 F0) {w:World} {X:Nat} {N:Nt} (h:Nw F0 w0 w X N):Below wb.heap.size wb w:=h.chg.below B.ge B.bel B.bel.size
theorem Base.q {wb w0:World} {F0:Nat→Prop} (B:Base wb w0 F0) {w:World} {X:Nat} {N:Nt} (h:Nw F0 w0 w X N):Kt.ET w∧Lib3 w:=⟨Rx4.et_below B.et (B.below h),B.lib.below (B.below h)⟩
structure AnPost (F0:Nat→Prop) (w0:World) (X:Nat) (N:Nt) (s:Tx) (r:Ending) (w':World):Prop where
 out:∃T:ByteArray,r=.returned (.string T)∧T.toList=(doC N (cmd s)).1
 net:Nw F0 w0 w' X (doC N (cmd s)).2
theorem answer_any (F0:Nat→Prop) (wb w0:World) (X:Nat) (N:Nt) (s:ByteArray) (w:World) (hs:s.size≤100000) (B:Base wb w0 F0) (h:Nw F0 w0 w X N) (ho:Ok N):
  Calls Tryz.prog 14 #[ptr X,.string s] w (AnPost F0 w0 X N s.toList):=by
 obtain⟨hg,hL⟩:=B.q h
 have HBS:=Hid.mk' B
 have C:=read_any s w (by omega) hL
 have HW:=Hid.mk' h
 have HO:=Hid.mk' ho
 have HL:=Hid.mk' hL
 have HG:=Hid.mk' hg
 have HS:Hid (s.toList.length≤100000):=by unfold Hid;rw[Kb.len_eq];exact hs
 clear h ho hL hg hs B
 cases hr:rd s.toList with
 | none=>
  have HC:Hid (cmd s.toList=.bad):=by unfold Hid;rw[←rd_cmd,hr];rfl
  rw[hr] at C
  clear hr
  go_enter Tryz.func14,Tryz.ntmps14
  go_wp2_with fail
  refine C.mono ?_
  rintro e w1 ⟨hb1,hq,_⟩
  obtain⟨k,rfl⟩:=hq rfl
  have HB1:Hid (Below w.heap.size w (w1.alloc (.cells #[.string e0,.int .i64 0,.int .i64 0,.string e0] 85))):=hb1.alloc hb1.size _
  have CT:=Rx4.told_bad k (w1.alloc (.cells #[.string e0,.int .i64 0,.int .i64 0,.string e0] 85)) (Rx4.et_below HG.out HB1.out)
  clear C hb1 hq
  go_wp2_with fail
  refine CT.mono ?_
  rintro e w2 ⟨rfl,hb2⟩
  have HW2:=Hid.mk' (HW.out.below (bel HB1.out hb2))
  clear CT hb2
  go_wp2_with fail
  go_ret
  exact⟨⟨_,rfl,by rw[HC.out];exact Om.toList_mk _⟩,by rw[HC.out];exact HW2.out⟩
 | some r=>
  obtain⟨x,a,b,t⟩:=r
  have HR:=Hid.mk' hr
  rw[hr] at C
  clear hr
  obtain⟨xb,hxb⟩:∃xb:ByteArray,xb=mk x:=⟨_,rfl⟩
  obtain⟨tb,htb⟩:∃tb:ByteArray,tb=mk t:=⟨_,rfl⟩
  have HXB:=Hid.mk' (And.intro hxb htb)
  clear hxb htb
  go_enter Tryz.func14,Tryz.ntmps14
  go_wp2_with fail
  refine C.mono ?_
  rintro e w1 ⟨hb1,_,hq⟩
  have he:=hq x a b t rfl
  rw[show mk x=xb from HXB.out.1.symm,show mk t=tb from HXB.out.2.symm] at he
  subst he
  have HB1:Hid (Below w.heap.size w (w1.alloc (.cells #[.string xb,.int .i64 a,.int .i64 b,.string tb] 85))):=hb1.alloc hb1.size _
  have HC1:Hid (CmdM (w1.alloc (.cells #[.string xb,.int .i64 a,.int .i64 b,.string tb] 85)) w1.heap.size xb a b tb):=CmdM.new w1 _ _ _ _
  have CD:=do_any F0 w0 X N s.toList x t a b (w1.alloc (.cells #[.string xb,.int .i64 a,.int .i64 b,.string tb] 85)) HR.out HS.out (HW.out.below HB1.out) HO.out (HL.out.below HB1.out)
  rw[show mk x=xb from HXB.out.1.symm,show mk t=tb from HXB.out.2.symm] at CD
  obtain⟨c0,c1,c2,c3,_⟩:=HC1.out.cells
  clear C hb1 hq
  go_wp2_with fail
  refine CD.mono ?_
  rintro e w2 ⟨⟨T,E,rfl,hE,hT⟩,hn⟩
  have HN:=Hid.mk' hn
  clear CD c0 c1 c2 c3
  by_cases h0:E=0
  ·subst h0
   have HT:Hid ((doC N (cmd s.toList)).1=T.toList):=by unfold Hid;rw[hT,if_pos rfl]
   rw[errV_zero]
   clear hT hE hn
   go_wp2_with fail
   go_ret
   exact⟨⟨_,rfl,HT.out.symm⟩,HN.out⟩
  ·have HT:Hid ((doC N (cmd s.toList)).1=nameE E):=by unfold Hid;rw[hT,if_neg h0]
   have hg2:Kt.ET w2:=(HBS.out.q hn).1
   have CT:=Rx4.told_num E (by have:=hE.1;omega) hE.2 w2 hg2
   rw[errV_ne h0]
   obtain⟨Q,hQ⟩:∃Q:ByteArray,Q=mk (nameE E):=⟨_,rfl⟩
   rw[←hQ] at CT
   have HQ:=Hid.mk' hQ
   clear hT hE hn h0 hg2 hQ
   go_wp2_with fail
   refine CT.mono ?_
   rintro e w3 ⟨rfl,hb3⟩
   have HN3:=Hid.mk' (HN.out.below hb3)
   clear CT hb3
   go_wp2_with fail
   go_ret
   exact⟨⟨_,rfl,by rw[HT.out,HQ.out];exact Om.toList_mk _⟩,HN3.out⟩
end Rx7
end Go.Proofs.YtiamefgoeibhhaaGreatDoor
