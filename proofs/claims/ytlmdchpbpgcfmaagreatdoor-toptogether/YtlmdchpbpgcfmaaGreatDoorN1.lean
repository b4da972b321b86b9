import Derived.Test.YtlmdchpbpgcfmaaGreatDoorH2
import Derived.Test.YtlmdchpbpgcfmaaGreatDoorA2
import Derived.Test.YtlmdchpbpgcfmaaGreatDoorU2
import Derived.Deep.DeepCutAuto
set_option linter.unusedSimpArgs false
set_option linter.unusedVariables false
set_option maxRecDepth 100000
set_option maxHeartbeats 8000000
/- Package net, an edit at a node: which ops, and how long their places are; what is erased. -/
namespace Go.Proofs.YtlmdchpbpgcfmaaGreatDoor
namespace Ho
open Go.ChangeShapes Go.WideShapes Go.ChangeAt Go.RowKit Cm Ka Kb Na Om Oa Oz Oc Og Oi Hm Ia Ic Ie Um Aa Ov Hc Hd Hi Hl
open La (bel bel_drew errV_zero errV_ne own_ge own_grow own_below Lies)
/- how long a parcel is -/
theorem each_len:∀(l:List Ox),(∀o ∈ l,opE o=0)→(eachB l).length≤142*l.length
 | [],_=>by simp[eachB]
 | o::l,h=>by
  have h1:=each_len l (fun x hx=>h x (List.mem_cons_of_mem _ hx))
  have h2:=(bytes_le (h o (List.mem_cons_self ..))).2
  rw[eachB_cons,List.length_append,List.length_append,b2_len,List.length_cons]
  omega
theorem pack_size {l:List Ox} (h:packE l=0):(packT l).size≤maxLen:=by
 obtain⟨h1,h2⟩:=packE_zero.1 h
 have h3:=each_len l h2
 have h4:(packB l).length≤60000:=by unfold packB;rw[List.length_append,b2_len];omega
 show(packB l).toArray.size≤_
 rw[List.size_toArray];unfold maxLen;omega
theorem pack_same {l:List Ox} (h:packE l=0):packS l=packT l:=by unfold packS packT;rw[if_pos h]
theorem parc_same {A B:Dq} (IA:Inv A) (IB:Inv B):Ag.parcS A B.known=packT (lackL A.ops B.known):=by
 unfold Ag.parcS
 rw[if_neg (by rw[Ii.vec_ok IB];simp)]
 exact pack_same (Ag.pack_zero IA _)
/- how long the places are -/
theorem seen_small {S:Dq} (I:Inv S) {p:ByteArray} (h:p ∈ seenP S.book):p.size≤maxLen:=by
 obtain⟨x,hx,_,rfl⟩:=seenP_mem h
 exact small_book I.book x hx
theorem getD_small {l:List ByteArray} (h:∀p ∈ l,p.size≤maxLen) (k:Nat):(l.getD k ⟨#[]⟩).size≤maxLen:=by
 rw[List.getD_eq_getElem?_getD]
 cases hk:l[k]? with
 | none=>show(0:Nat)≤_;omega
 | some p=>exact h p (List.mem_of_getElem? hk)
theorem ed_max {S:Dq} (I:Inv S) {w:Int} {e:Ev} (he:edE S w e=0):∀x ∈ edL S w e,x.2.2.1.size≤maxLen:=by
 unfold edE at he
 unfold edL
 intro x hx
 by_cases h1:e.1=1
 ·rw[if_pos h1] at he hx
  split at he
  ·cases he
  ·have:=small_ops I.book (insE_zero.1 he) x hx
   unfold maxLen;omega
 ·rw[if_neg h1] at he hx
  by_cases h2:e.1=2
  ·rw[if_pos h2] at hx
   unfold delL at hx
   obtain⟨k,_,rfl⟩:=List.mem_map.1 hx
   refine getD_small (fun p hp=>seen_small I ?_) k
   unfold delP at hp
   exact List.mem_of_mem_take (List.mem_of_mem_drop hp)
  ·rw[if_neg h2] at hx
   have ha:(atP S e.2.2.1).size≤maxLen:=getD_small (fun p hp=>seen_small I hp) _
   by_cases h7:e.1=7
   ·rw[if_pos h7] at hx
    unfold splL at hx
    rw[List.mem_singleton] at hx
    subst hx;exact ha
   ·rw[if_neg h7] at hx
    unfold fusL at hx
    rw[List.mem_singleton] at hx
    subst hx;exact ha
/- behind the greatest number comes the least one -/
theorem era_E {S:Dq} (I:Inv S) {w:Int} (hw:Pm.isWho w=true) (b:Int):delE S w b (IntKind.i64.wrap (b+1))=if b<0∨((seenP S.book).length:Int)≤b then 1 else 0:=by
 have hs:(seenP S.book).length≤300:=Nat.le_trans (seenP_le _) (Il.few_book I)
 unfold delE
 rw[hw,if_neg (by simp),IntKind.wrap_i64]
 by_cases h:b<0∨((seenP S.book).length:Int)≤b
 ·rw[if_pos h,if_pos]
  rcases h with h | h
  ·exact Or.inl h
  ·omega
 ·rw[if_neg h,if_neg];omega
theorem era_L {S:Dq} (I:Inv S) {w b:Int} (h:¬(b<0∨((seenP S.book).length:Int)≤b)):IntKind.i64.wrap (b+1)=b+1:=by
 have hs:(seenP S.book).length≤300:=Nat.le_trans (seenP_le _) (Il.few_book I)
 rw[IntKind.wrap_i64];omega
end Ho
end Go.Proofs.YtlmdchpbpgcfmaaGreatDoor
/- Package net: opsOf, edit. -/
namespace Go.Proofs.YtlmdchpbpgcfmaaGreatDoor
namespace Ht
open Go.ChangeShapes Go.WideShapes Go.ChangeAt Go.RowKit Cm Ka Kb Na Om Oa Oz Oc Og Oi Hm Ia Ic Ie Im Um Ua Ue Aa Ov Hc Hd Hi Hl Ho Hs
open La (bel bel_drew errV_zero errV_ne own_ge own_grow own_below Lies)
/- the letter, as a text -/
theorem one_conv (w:World) (c:Int) (h1:32≤c) (h2:c≤126):
  (convert 178 9 (.slice (some ⟨w.heap.size,0,none⟩) 1 1)).run Tryz.prog (w.alloc (.cells #[.int .u8 c] 5))=.ok (.string (oneT c)) (w.alloc (.cells #[.int .u8 c] 5)):=by
 have h3:(w.alloc (.cells #[.int .u8 c] 5)).heap[w.heap.size]? =some (.cells #[.int .u8 c] 5):=heap_alloc_new w _
 refine run_convert_bytes_back (P:=Tryz.prog) _ 178 9 5 ⟨w.heap.size,0,none⟩ 1 [u8 c] Tryz.underlying178 Tryz.underlying5 Tryz.underlying9 ?_
 intro j hj
 rw[Addr.add_lit,Nat.zero_add]
 simp only[World.cell?,h3]
 match j,hj with
 | 0,_=>show some (Value.int .u8 c)=some (Value.int .u8 ((u8 c).toNat:Int));rw[u8_let h1 h2]
theorem own_base {w:World} {B B' z n:Nat} {t:TypeId} {v:Value} {xs:List Value} (h:w.ownsRow B t z v n xs) (hB:B'≤B):w.ownsRow B' t z v n xs:=by
 refine⟨h.1, ?_⟩
 rcases h.2 with h0 | ⟨g,cap,cur,h1,h2,h3⟩
 ·exact Or.inl h0
 ·exact Or.inr ⟨g,cap,cur,h1,Nat.le_trans hB h2,h3⟩
theorem OpsNew.base {w:World} {B B':Nat} {v:Value} {l:List Ox} (h:OpsNew B w v l) (hB:B'≤B):OpsNew B' w v l:=by
 obtain⟨g,L,h1,h2,h3,h4,h6,h5⟩:=h
 exact⟨g,L,h1,Nat.le_trans hB h2,h3,h4,h6,fun y hy=>own_base (h5 y hy) hB⟩
theorem EdPost.slice {w w':World} {k:Int} {L:List Ox} {v:Value} (h1:k=0→OpsNew w.heap.size w' v L) (h2:k≠0→v=.slice none 0 0):∃p n c,v=.slice p n c:=by
 by_cases hk:k=0
 ·obtain⟨g,L,e,_⟩:=h1 hk;exact⟨_,_,_,e⟩
 ·exact⟨_,_,_,h2 hk⟩
theorem ops_split (D:Nat) (who a b c k:Int) (L:List Ox) (w:World) (C:∀W,Below w.heap.size w W→Calls Tryz.prog 123 #[ptr D,.int .i64 who,.int .i64 b] W (EdPost W k L)):
  Calls Tryz.prog 79 #[evV (7,a,b,c),ptr D,.int .i64 who] w (EdPost w k L):=by
 have hB0:Below w.heap.size w (w.alloc (.cells #[.int .i64 7,.int .i64 a,.int .i64 b,.int .i64 c] 30)):=(Below.refl _ _).alloc (Nat.le_refl _) _
 have hA0:=heap_alloc_new w (.cells #[.int .i64 7,.int .i64 a,.int .i64 b,.int .i64 c] 30)
 go_enter Tryz.func79,Tryz.ntmps79
 go_upto_region 1 with fail
 generalize w.alloc (.cells #[.int .i64 7,.int .i64 a,.int .i64 b,.int .i64 c] 30)=w0 at hB0 hA0 ⊢
 have HB0:=Hid.mk' hB0
 have y0:=blk_cell hA0 (i:=0) (u:=.int .i64 7) rfl
 have y1:=blk_cell hA0 (i:=1) (u:=.int .i64 a) rfl
 have y2:=blk_cell hA0 (i:=2) (u:=.int .i64 b) rfl
 have y3:=blk_cell hA0 (i:=3) (u:=.int .i64 c) rfl
 have C0:=C _ hB0
 go_wp2_with fail
 refine C0.mono ?_
 rintro e w3 ⟨v,rfl,h1,h2,hb3⟩
 obtain⟨p3,n3,c3,rfl⟩:=EdPost.slice h1 h2
 have HP:Hid (EdPost w k L (.returned (.tuple #[.slice p3 n3 c3,errV k])) w3):=⟨_,rfl,fun e=>OpsNew.base (h1 e) HB0.out.size,h2,bel HB0.out hb3⟩
 generalize errV k=ek at HP ⊢
 clear h1 h2 hb3 C0 C hB0 hA0 y0 y1 y2 y3
 go_wp2_with fail
 go_ret2
 exact HP.out
theorem ops_fuse (D:Nat) (who a b c k:Int) (L:List Ox) (w:World) (C:∀W,Below w.heap.size w W→Calls Tryz.prog 124 #[ptr D,.int .i64 who,.int .i64 b] W (EdPost W k L)):
  Calls Tryz.prog 79 #[evV (8,a,b,c),ptr D,.int .i64 who] w (EdPost w k L):=by
 have hB0:Below w.heap.size w (w.alloc (.cells #[.int .i64 8,.int .i64 a,.int .i64 b,.int .i64 c] 30)):=(Below.refl _ _).alloc (Nat.le_refl _) _
 have hA0:=heap_alloc_new w (.cells #[.int .i64 8,.int .i64 a,.int .i64 b,.int .i64 c] 30)
 go_enter Tryz.func79,Tryz.ntmps79
 go_upto_region 1 with fail
 generalize w.alloc (.cells #[.int .i64 8,.int .i64 a,.int .i64 b,.int .i64 c] 30)=w0 at hB0 hA0 ⊢
 have HB0:=Hid.mk' hB0
 have y0:=blk_cell hA0 (i:=0) (u:=.int .i64 8) rfl
 have y1:=blk_cell hA0 (i:=1) (u:=.int .i64 a) rfl
 have y2:=blk_cell hA0 (i:=2) (u:=.int .i64 b) rfl
 have y3:=blk_cell hA0 (i:=3) (u:=.int .i64 c) rfl
 have C0:=C _ hB0
 go_wp2_with fail
 refine C0.mono ?_
 rintro e w3 ⟨v,rfl,h1,h2,hb3⟩
 obtain⟨p3,n3,c3,rfl⟩:=EdPost.slice h1 h2
 have HP:Hid (EdPost w k L (.returned (.tuple #[.slice p3 n3 c3,errV k])) w3):=⟨_,rfl,fun e=>OpsNew.base (h1 e) HB0.out.size,h2,bel HB0.out hb3⟩
 generalize errV k=ek at HP ⊢
 clear h1 h2 hb3 C0 C hB0 hA0 y0 y1 y2 y3
 go_wp2_with fail
 go_ret2
 exact HP.out
theorem ops_erase (D:Nat) (who a b c k b1:Int) (hwr:IntKind.i64.wrap (b+1)=b1) (L:List Ox) (w:World) (C:∀W,Below w.heap.size w W→Calls Tryz.prog 77 #[ptr D,.int .i64 who,.int .i64 b,.int .i64 b1] W (EdPost W k L)):
  Calls Tryz.prog 79 #[evV (2,a,b,c),ptr D,.int .i64 who] w (EdPost w k L):=by
 have hB0:Below w.heap.size w (w.alloc (.cells #[.int .i64 2,.int .i64 a,.int .i64 b,.int .i64 c] 30)):=(Below.refl _ _).alloc (Nat.le_refl _) _
 have hA0:=heap_alloc_new w (.cells #[.int .i64 2,.int .i64 a,.int .i64 b,.int .i64 c] 30)
 go_enter Tryz.func79,Tryz.ntmps79
 go_upto_region 1 with fail
 generalize w.alloc (.cells #[.int .i64 2,.int .i64 a,.int .i64 b,.int .i64 c] 30)=w0 at hB0 hA0 ⊢
 have HB0:=Hid.mk' hB0
 have y0:=blk_cell hA0 (i:=0) (u:=.int .i64 2) rfl
 have y1:=blk_cell hA0 (i:=1) (u:=.int .i64 a) rfl
 have y2:=blk_cell hA0 (i:=2) (u:=.int .i64 b) rfl
 have y3:=blk_cell hA0 (i:=3) (u:=.int .i64 c) rfl
 have C0:=C _ hB0
 go_wp2_with fail
 refine C0.mono ?_
 rintro e w3 ⟨v,rfl,h1,h2,hb3⟩
 obtain⟨p3,n3,c3,rfl⟩:=EdPost.slice h1 h2
 have HP:Hid (EdPost w k L (.returned (.tuple #[.slice p3 n3 c3,errV k])) w3):=⟨_,rfl,fun e=>OpsNew.base (h1 e) HB0.out.size,h2,bel HB0.out hb3⟩
 generalize errV k=ek at HP ⊢
 clear h1 h2 hb3 C0 C hB0 hA0 y0 y1 y2 y3
 go_wp2_with fail
 go_ret2
 exact HP.out
theorem ops_type (D:Nat) (who a b c k:Int) (L:List Ox) (w:World) (h32:32≤c) (h126:c≤126) (C:∀W,Below w.heap.size w W→Calls Tryz.prog 45 #[ptr D,.int .i64 who,.int .i64 b,.string (oneT c)] W (EdPost W k L)):
  Calls Tryz.prog 79 #[evV (1,a,b,c),ptr D,.int .i64 who] w (EdPost w k L):=by
 have hlb:Bm.isL c=true:=by unfold Bm.isL;simp;omega
 have hB0:Below w.heap.size w (w.alloc (.cells #[.int .i64 1,.int .i64 a,.int .i64 b,.int .i64 c] 30)):=(Below.refl _ _).alloc (Nat.le_refl _) _
 have hA0:=heap_alloc_new w (.cells #[.int .i64 1,.int .i64 a,.int .i64 b,.int .i64 c] 30)
 go_enter Tryz.func79,Tryz.ntmps79
 go_upto_region 1 with fail
 generalize w.alloc (.cells #[.int .i64 1,.int .i64 a,.int .i64 b,.int .i64 c] 30)=w0 at hB0 hA0 ⊢
 have HB0:=Hid.mk' hB0
 have y0:=blk_cell hA0 (i:=0) (u:=.int .i64 1) rfl
 have y1:=blk_cell hA0 (i:=1) (u:=.int .i64 a) rfl
 have y2:=blk_cell hA0 (i:=2) (u:=.int .i64 b) rfl
 have y3:=blk_cell hA0 (i:=3) (u:=.int .i64 c) rfl
 have CL:=Lb.isLetter_any c w0
 rw[hlb] at CL
 go_wp2_with fail
 refine CL.mono ?_
 rintro e w3 ⟨rfl,hw3⟩
 subst hw3
 clear CL
 have hcv:=one_conv w3 c h32 h126
 have HB3:Hid (Below w.heap.size w (w3.alloc (.cells #[.int .u8 c] 5))):=HB0.out.alloc HB0.out.size _
 have C0:=C _ HB3.out
 go_wp2_with fail
 refine C0.mono ?_
 rintro e w4 ⟨v,rfl,h1,h2,hb3⟩
 obtain⟨p3,n3,c3,rfl⟩:=EdPost.slice h1 h2
 have HP:Hid (EdPost w k L (.returned (.tuple #[.slice p3 n3 c3,errV k])) w4):=⟨_,rfl,fun e=>OpsNew.base (h1 e) HB3.out.size,h2,bel HB3.out hb3⟩
 generalize errV k=ek at HP ⊢
 clear h1 h2 hb3 C0 C hB0 hA0 y0 y1 y2 y3 hcv
 go_wp2_with fail
 go_ret2
 exact HP.out
theorem ops_none (D:Nat) (who a b c:Int) (L:List Ox) (w:World) (hl:c<32∨126<c):
  Calls Tryz.prog 79 #[evV (1,a,b,c),ptr D,.int .i64 who] w (EdPost w 1 L):=by
 have hlb:Bm.isL c=false:=by unfold Bm.isL;simp;omega
 have hB0:Below w.heap.size w (w.alloc (.cells #[.int .i64 1,.int .i64 a,.int .i64 b,.int .i64 c] 30)):=(Below.refl _ _).alloc (Nat.le_refl _) _
 have hA0:=heap_alloc_new w (.cells #[.int .i64 1,.int .i64 a,.int .i64 b,.int .i64 c] 30)
 go_enter Tryz.func79,Tryz.ntmps79
 go_upto_region 1 with fail
 generalize w.alloc (.cells #[.int .i64 1,.int .i64 a,.int .i64 b,.int .i64 c] 30)=w0 at hB0 hA0 ⊢
 have HB0:=Hid.mk' hB0
 have y0:=blk_cell hA0 (i:=0) (u:=.int .i64 1) rfl
 have y1:=blk_cell hA0 (i:=1) (u:=.int .i64 a) rfl
 have y2:=blk_cell hA0 (i:=2) (u:=.int .i64 b) rfl
 have y3:=blk_cell hA0 (i:=3) (u:=.int .i64 c) rfl
 have CL:=Lb.isLetter_any c w0
 rw[hlb] at CL
 clear hB0 hA0 hl
 go_wp2_with fail
 refine CL.mono ?_
 rintro e w3 ⟨rfl,hw3⟩
 subst hw3
 clear CL
 go_wp2_with fail
 go_ret2
 exact⟨_,by rw[errV_ne (by decide)];rfl,fun e=>absurd e (by decide),fun _=>rfl,HB0.out⟩
/- all of them -/
theorem is_ed {t:Int} (h:isEd t=true):t=1∨t=2∨t=7∨t=8:=by
 unfold isEd at h
 simpa using h
theorem opsOf_any (D:Nat) (S:Dq) (F:Nat→Prop) (who t a b c:Int) (w:World) (h:DocAt w D S F) (hw:Pm.isWho who=true) (ht:isEd t=true):
  Calls Tryz.prog 79 #[evV (t,a,b,c),ptr D,.int .i64 who] w (EdPost w (edE S who (t,a,b,c)) (edL S who (t,a,b,c))):=by
 rcases is_ed ht with rfl | rfl | rfl | rfl
 ·by_cases hl:c<32∨126<c
  ·rw[show edE S who (1,a,b,c)=1 by unfold edE;dsimp only;rw[if_pos rfl,if_pos hl]]
   exact ops_none D who a b c _ w hl
  ·rw[show edE S who (1,a,b,c)=insE S who b (oneT c) by unfold edE;dsimp only;rw[if_pos rfl,if_neg hl],show edL S who (1,a,b,c)=insL S who b (oneT c) by unfold edL;dsimp only;rw[if_pos rfl]]
   exact ops_type D who a b c _ _ w (by omega) (by omega) fun W hb=>insert_any D S F who b (oneT c) W (h.below hb) (by rw[one_size];unfold maxLen;omega)
 ·have e1:edE S who (2,a,b,c)=delE S who b (IntKind.i64.wrap (b+1)):=by
   rw[era_E h.inv hw b];unfold edE;dsimp only;rw[if_neg (by decide),if_pos rfl]
  have C:=ops_erase D who a b c (delE S who b (IntKind.i64.wrap (b+1))) _ rfl (delL S who b (IntKind.i64.wrap (b+1))) w fun W hb=>Uq.delete_any D S F who b _ W (h.below hb)
  rw[e1]
  by_cases hz:b<0∨((seenP S.book).length:Int)≤b
  ·have e2:delE S who b (IntKind.i64.wrap (b+1))=1:=by rw[era_E h.inv hw b,if_pos hz]
   rw[e2] at C ⊢
   refine C.mono ?_
   rintro e w' ⟨v,h1,h2,h3,h4⟩
   exact⟨v,h1,fun e=>absurd e (by decide),h3,h4⟩
  ·have e3:=era_L (w:=who) h.inv hz
   rw[e3] at C ⊢
   rw[show edL S who (2,a,b,c)=delL S who b (b+1) by unfold edL;dsimp only;rw[if_neg (by decide),if_pos rfl]]
   exact C
 ·rw[show edE S who (7,a,b,c)=atE S who b by unfold edE;dsimp only;rw[if_neg (by decide),if_neg (by decide),if_pos rfl],show edL S who (7,a,b,c)=splL S who b by unfold edL;dsimp only;rw[if_neg (by decide),if_neg (by decide),if_pos rfl]]
  exact ops_split D who a b c _ _ w fun W hb=>Uf.split_any D S F who b W (h.below hb)
 ·rw[show edE S who (8,a,b,c)=fusE S who b by unfold edE;dsimp only;rw[if_neg (by decide),if_neg (by decide),if_neg (by decide)],show edL S who (8,a,b,c)=fusL S who b by unfold edL;dsimp only;rw[if_neg (by decide),if_neg (by decide),if_neg (by decide)]]
  exact ops_fuse D who a b c _ _ w fun W hb=>Ur.fuse_any D S F who b W (h.below hb)
end Ht
end Go.Proofs.YtlmdchpbpgcfmaaGreatDoor
/- Package net: an edit at a node. -/
namespace Go.Proofs.YtlmdchpbpgcfmaaGreatDoor
namespace Gg
open Go.ChangeShapes Go.WideShapes Go.ChangeAt Go.RowKit Cm Ka Kb Na Om Oa Oz Oc Og Oi Hm Ia Ic Ie Im Um Ua Ue Aa Ov Hc Hd Hi Hl Ho Hs Ht
open La (bel bel_drew errV_zero errV_ne own_ge own_grow own_below Lies)
/- an edit at a node that is none -/
theorem edit_no (X n cn:Nat) (t a b c:Int) (p:Option Addr) (w:World) (c0:∀W,Below w.heap.size w W→W.cell? ⟨X,0,none⟩=some (.slice p n cn)) (hn:n≤4) (ha:out n a):Calls Tryz.prog 36 #[ptr X,evV (t,a,b,c)] w fun r w'=>r=.returned (.iface 84 (.int .i64 1))∧Below w.heap.size w w':=by
 have hB0:Below w.heap.size w (w.alloc (.cells #[.int .i64 t,.int .i64 a,.int .i64 b,.int .i64 c] 30)):=(Below.refl _ _).alloc (Nat.le_refl _) _
 have hA0:=heap_alloc_new w (.cells #[.int .i64 t,.int .i64 a,.int .i64 b,.int .i64 c] 30)
 go_enter Tryz.func36,Tryz.ntmps36
 go_upto_region 1 with fail
 generalize w.alloc (.cells #[.int .i64 t,.int .i64 a,.int .i64 b,.int .i64 c] 30)=w0 at hB0 hA0 ⊢
 have HB0:=Hid.mk' hB0
 have y0:=blk_cell hA0 (i:=0) (u:=.int .i64 t) rfl
 have y1:=blk_cell hA0 (i:=1) (u:=.int .i64 a) rfl
 have y2:=blk_cell hA0 (i:=2) (u:=.int .i64 b) rfl
 have y3:=blk_cell hA0 (i:=3) (u:=.int .i64 c) rfl
 have C:=doc_no X n cn a p w0 (c0 _ hB0) hn ha
 clear hB0 hA0 c0 ha
 go_wp2_with fail
 refine C.mono ?_
 rintro e w3 ⟨rfl,rfl⟩
 clear C
 go_wp2_with fail
 go_ret
 exact⟨rfl,HB0.out⟩
theorem edit_yes (X n cn g i D:Nat) (t b c:Int) (S:Dq) (F:Nat→Prop) (w:World) (c0:∀W,Below w.heap.size w W→W.cell? ⟨X,0,none⟩=some (.slice (some ⟨g,0,none⟩) n cn)) (c1:∀W,Below w.heap.size w W→W.cell? ⟨g,i,none⟩=some (ptr D)) (hn:n≤4) (hi:i<n) (h:DocAt w D S F) (ht:isEd t=true):
  Calls Tryz.prog 36 #[ptr X,evV (t,i,b,c)] w fun r w'=>
   r=.returned (errV (if edE S ((i:Int)+1) (t,i,b,c)≠0 then edE S ((i:Int)+1) (t,i,b,c) else runE S (edL S ((i:Int)+1) (t,i,b,c))))∧
   ∃F',DocAt w' D (if edE S ((i:Int)+1) (t,i,b,c)≠0 then S else runS S (edL S ((i:Int)+1) (t,i,b,c))) F'∧Chg F w w'∧∀g,F' g→F g∨w.heap.size≤g:=by
 have hw1:Pm.isWho ((i:Int)+1)=true:=Ub.isWho_iff.2 (by omega)
 have hwr:IntKind.i64.wrap ((i:Int)+1)=(i:Int)+1:=wrap_in (by omega) (by omega)
 have HC:Hid (∀W,Below w.heap.size w W→Calls Tryz.prog 79 #[evV (t,i,b,c),ptr D,.int .i64 ((i:Int)+1)] W (EdPost W (edE S ((i:Int)+1) (t,i,b,c)) (edL S ((i:Int)+1) (t,i,b,c)))):=fun W hb=>opsOf_any D S F _ t i b c W (h.below hb) hw1 ht
 have HM:Hid (edE S ((i:Int)+1) (t,i,b,c)=0→∀x ∈ edL S ((i:Int)+1) (t,i,b,c),x.2.2.1.size≤maxLen):=fun e=>ed_max h.inv e
 have HD:=Hid.mk' h
 have HX:=Hid.mk' c0
 have HE:=Hid.mk' c1
 generalize edE S ((i:Int)+1) (t,i,b,c)=k at HC HM ⊢
 generalize edL S ((i:Int)+1) (t,i,b,c)=L at HC HM ⊢
 have i4:(i:Int)≤4:=by omega
 clear c0 c1 h hw1 ht
 have hB0:Below w.heap.size w (w.alloc (.cells #[.int .i64 t,.int .i64 i,.int .i64 b,.int .i64 c] 30)):=(Below.refl _ _).alloc (Nat.le_refl _) _
 have hA0:=heap_alloc_new w (.cells #[.int .i64 t,.int .i64 i,.int .i64 b,.int .i64 c] 30)
 go_enter Tryz.func36,Tryz.ntmps36
 go_upto_region 1 with fail
 generalize w.alloc (.cells #[.int .i64 t,.int .i64 i,.int .i64 b,.int .i64 c] 30)=w0 at hB0 hA0 ⊢
 have HB0:=Hid.mk' hB0
 have y0:=blk_cell hA0 (i:=0) (u:=.int .i64 t) rfl
 have y1:=blk_cell hA0 (i:=1) (u:=.int .i64 i) rfl
 have y2:=blk_cell hA0 (i:=2) (u:=.int .i64 b) rfl
 have y3:=blk_cell hA0 (i:=3) (u:=.int .i64 c) rfl
 have C:=doc_yes X n cn g i D w0 (HX.out _ hB0) hn hi (HE.out _ hB0)
 clear hi
 go_wp2_with fail
 refine C.mono ?_
 rintro e w3 ⟨rfl,hw3⟩
 subst hw3
 have C1:=HC.out w3 HB0.out
 clear C hB0 hA0
 go_wp2_with fail
 refine C1.mono ?_
 rintro e w4 ⟨v,rfl,h1,h2,hb4⟩
 have HB4:=z9 (bel HB0.out hb4)
 by_cases hk:k=0
 ·subst hk
  have C2:=do_any D S F _ v L w4 (HD.out.below HB4.out) (OpsG.new (h1 rfl)) (fun g hg=>⟨hg.2,fun e=>by have:=HD.out.lt g e;have:=HB0.out.size;have:=hg.1;omega⟩) (HM.out rfl)
  obtain⟨pv,nv,cv,rfl⟩:=EdPost.slice h1 h2
  rw[errV_zero]
  clear C1 h1 h2 hb4 y0 y1 y2 y3
  go_wp2_with fail
  refine C2.mono ?_
  rintro e w5 ⟨he,F',h5,h6,h7⟩
  subst he
  have HP:Hid (∃F',DocAt w5 D (runS S L) F'∧Chg F w w5∧∀g,F' g→F g∨w.heap.size≤g):=⟨F',h5,(Chg.ofBelow HB4.out F).trans h6,fun g hg=>(h7 g hg).imp id fun e=>Nat.le_trans HB4.out.size e⟩
  obtain⟨z,hz⟩:∃z,z=errV (runE S L):=⟨_,rfl⟩
  have HZ:=Hid.mk' hz
  rw[←hz]
  clear h5 h6 h7 C2 hz
  go_wp2_with fail
  go_ret
  exact⟨by rw[HZ.out];rfl,HP.out⟩
 ·have hv:=h2 hk
  subst hv
  rw[errV_ne hk]
  have HK:=Hid.mk' hk
  clear C1 h1 h2 hb4 hk y0 y1 y2 y3
  go_wp2_with fail
  go_ret
  exact⟨by rw[errV_ne HK.out];rfl,F,HD.out.below HB4.out,Chg.ofBelow HB4.out F,fun g hg=>Or.inl hg⟩
theorem edit_any (X:Nat) (N:Nt) (F:Nat→Prop) (e:Ev) (w:World) (h:At w X N F) (he:isEd e.1=true):Calls Tryz.prog 36 #[ptr X,evV e] w fun r w'=>r=.returned (errV (evE N e))∧Left' w X F (evS N e) w':=by
 obtain⟨t,a,b,c⟩:=e
 have h0:=h
 obtain⟨vd,vu,E,Fd,m,hF⟩:=h
 obtain⟨p,cn,rfl,_,_,hc⟩:=m.cellD
 have he':isEd t=true:=he
 by_cases ho:out N.ds.length a
 ·have e1:evE N (t,a,b,c)=1:=by unfold evE;dsimp only;rw[if_pos he',if_pos ho]
  have e2:evS N (t,a,b,c)=N:=by unfold evS;dsimp only;rw[if_pos he',if_pos ho]
  rw[e1,e2,errV_ne (by decide)]
  refine(edit_no X _ cn t a b c p w (fun W hb=>keep_cell hb (blk_cell m.blk (i:=0) rfl)) m.few ho).mono ?_
  rintro r w' ⟨rfl,hb⟩
  exact⟨rfl,left_same h0 hb⟩
 ·obtain⟨i,rfl⟩:∃i:Nat,a=i:=⟨a.toNat,by unfold out at ho;omega⟩
  have hi:i<N.ds.length:=by unfold out at ho;omega
  obtain⟨g,rfl,hg⟩:=hc (by omega)
  have e1:evE N (t,i,b,c)=if edE (dq N i) ((i:Int)+1) (t,i,b,c)≠0 then edE (dq N i) ((i:Int)+1) (t,i,b,c) else runE (dq N i) (edL (dq N i) ((i:Int)+1) (t,i,b,c)):=by
   unfold evE;dsimp only;rw[if_pos he',if_neg ho];rfl
  have e2:evS N (t,i,b,c)=if edE (dq N i) ((i:Int)+1) (t,i,b,c)≠0 then N else{ N with ds:=N.ds.set i (runS (dq N i) (edL (dq N i) ((i:Int)+1) (t,i,b,c))) }:=by
   unfold evS;dsimp only;rw[if_pos he',if_neg ho];rfl
  rw[e1,e2]
  refine(edit_yes X _ cn g i (E i) t b c (dq N i) (Fd i) w (fun W hb=>keep_cell hb (blk_cell m.blk (i:=0) rfl)) (fun W hb=>keep_cell hb (hg i hi)) m.few hi (m.docs.at' i hi) he').mono ?_
  rintro r w' ⟨rfl,G,h1,h2,h3⟩
  refine⟨rfl, ?_⟩
  obtain⟨q1,q2,q3⟩:=m.turn hi h1 h2 h3
  by_cases hk:edE (dq N i) ((i:Int)+1) (t,i,b,c)≠0
  ·rw[if_pos hk] at q1 q3 ⊢
   have eN:({ N with ds:=N.ds.set i (dq N i) }:Nt)=N:=by
    have:N.ds.set i (dq N i)=N.ds:=by
     apply List.ext_getElem?
     intro j
     rw[List.getElem?_set]
     by_cases hj:i=j
     ·subst hj;rw[if_pos rfl,if_pos hi];unfold dq;rw[List.getD_eq_getElem?_getD,List.getElem?_eq_getElem hi];rfl
     ·rw[if_neg hj]
    rw[this]
   rw[eN] at q1
   have e9:(N.ds.set i (dq N i)).length=N.ds.length:=List.length_set
   rw[e9] at q3
   exact left_mk hF q1 q2 q3
  ·rw[if_neg hk] at q1 q3 ⊢
   exact left_mk hF q1 q2 q3
end Gg
end Go.Proofs.YtlmdchpbpgcfmaaGreatDoor
