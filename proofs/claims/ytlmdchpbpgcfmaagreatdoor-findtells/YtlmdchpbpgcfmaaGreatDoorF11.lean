/- What FindTells compares: rows of numbers, of texts, of ops. -/
import Derived.Test.YtlmdchpbpgcfmaaGreatDoorF9
import Derived.Test.YtlmdchpbpgcfmaaGreatDoorF10
import Derived.Test.YtlmdchpbpgcfmaaGreatDoorK3
import Derived.Test.YtlmdchpbpgcfmaaGreatDoorJ14
set_option linter.unusedSimpArgs false
set_option linter.unusedVariables false
set_option maxRecDepth 100000
set_option maxHeartbeats 8000000
namespace Go.Proofs.YtlmdchpbpgcfmaaGreatDoor
namespace F11
open Go.ChangeShapes Go.WideShapes Go.ChangeAt Go.RowKit Cm Ka Kb Na Om Oa Oz Oc Og Oi Hm Ia Ic Ie Ik Im Il Um Ua Fj Ac Xp Utp Uvp Uwp Uxp F6 F7 F10
open La (bel bel_drew errV_zero errV_ne own_below)
open F2 (allE allR)
open Fnn (intsV)
/- a row of texts, a row of numbers, as they lie -/
def Tx (w:World) (q:Option Addr) (A:List ByteArray):Prop:=∀j,j<A.length→∃g,q=some ⟨g,0,none⟩∧w.cell? ⟨g,j,none⟩=some (.string (A.getD j ByteArray.empty))
theorem Tx.below {w w':World} {q:Option Addr} {A:List ByteArray} (h:Tx w q A) (hb:Below w.heap.size w w'):Tx w' q A:=fun j hj=>by
 obtain⟨g,e,h1⟩:=h j hj
 exact⟨g,e,keep_cell hb h1⟩
theorem Tx.own {w:World} {B n c:Nat} {q:Option Addr} {A:List ByteArray} (h:w.ownsRow B 9 1 (.slice q n c) A.length (F3.strV A)):Tx w q A:=fun j hj=>by
 obtain⟨g,cap,e,hc⟩:=Fr.own_cells h (by omega)
 injection e with e1 _ _
 refine⟨g,e1, ?_⟩
 have:=hc j _ (F3.strV_at hj)
 rwa [Nat.zero_add] at this
theorem list_inj:∀{a b:List ByteArray},a.map (fun x=>x.toList)=b.map (fun x=>x.toList)→a=b
 | [],[],_=>rfl
 | [],y::b,h=>by cases h
 | x::a,[],h=>by cases h
 | x::a,y::b,h=>by
  injection h with h1 h2
  rw[F3.bytes_inj h1,list_inj h2]
theorem texts_same (q u:Option Addr) (n c d:Nat) (A:List ByteArray) (w:World) (h1:Tx w q A) (h2:Tx w u A) (hl:A.length=n) (hn:n≤1048576):
  Calls Tryz.prog 26 #[.slice q n c,.slice u n d] w fun e w'=>e=.returned (.bool true)∧Below w.heap.size w w':=by
 have HA:=z9 hl
 have HF:=z9 h1
 have HG:=z9 h2
 clear hl h1 h2
 go_enter Tryz.func26,Tryz.ntmps26
 go_wp2
 go_loopw [5] (fun i wr=>∃k:Nat,k≤n∧i=.int .i64 k∧Hid (Below w.heap.size w wr)) (fun i _=>n-(intOf i).toNat)
 case atStart=>exact⟨0,by omega,rfl,Below.refl _ _⟩
 case round=>
  obtain⟨k,hk,rfl,HBE⟩:=hrel
  by_cases hlt:k<n
  ·have hltz:(k:Int)<n:=by omega
   obtain⟨b1,rfl,c1⟩:=HF.out k (by rw[HA.out];exact hlt)
   obtain⟨b2,rfl,c2⟩:=HG.out k (by rw[HA.out];exact hlt)
   have e1:=keep_cell HBE.out c1
   have e2:=keep_cell HBE.out c2
   obtain⟨x,hx⟩:∃x,A.getD k ByteArray.empty=x:=⟨_,rfl⟩
   rw[hx] at e1 e2
   clear hx c1 c2
   go_wp2
   go_quiet (fail)
   go_wp2
   go_roundw
   case rel=>exact⟨k+1,by omega,by go_num,bel_drew HBE.out _⟩
   case measure=>simp[intOf];omega
  ·have hltz:¬(k:Int)<n:=by omega
   go_wp2
   go_ret
   exact⟨rfl,HBE.out⟩
theorem ints_in {w:World} {B n c:Nat} {q:Option Addr} {A:List Nat} (h:w.ownsRow B 3 1 (.slice q n c) A.length (intsV A)):Za.IntsIn w q (A.map fun (x:Nat)=>(x:Int)):=by
 by_cases h0:A=[]
 ·exact Or.inl (by rw[h0];rfl)
 ·obtain⟨g,cap,e,hc⟩:=Fr.own_cells h (List.length_pos_iff.2 h0)
  injection e with e1 _ _
  refine Or.inr ⟨g,0,e1,fun j hj=> ?_⟩
  rw[List.length_map] at hj
  refine hc j _ ?_
  unfold intsV
  rw[List.getElem?_map,List.getElem?_eq_getElem hj,List.getD_eq_getElem?_getD,List.getElem?_map,List.getElem?_eq_getElem hj];rfl
theorem ints_same (q u:Option Addr) (n c d:Nat) (A:List Nat) (w:World) (h1:Za.IntsIn w q (A.map fun (x:Nat)=>(x:Int))) (h2:Za.IntsIn w u (A.map fun (x:Nat)=>(x:Int))) (hl:A.length=n) (hn:n≤1048576):
  Calls Tryz.prog 23 #[.slice q n c,.slice u n d] w fun e w'=>e=.returned (.bool true)∧Below w.heap.size w w':=
 (Dg.ints_any q u n n c d _ _ w (by rw[List.length_map];exact hl) (by rw[List.length_map];exact hl) hn h1 h2).mono fun e w' ⟨h1,h2⟩=>⟨by rw[h1];simp,h2⟩
theorem err_same (k:Int) (w:World) (hg:Kt.ET w):Calls Tryz.prog 11 #[errV k,.int .i64 k] w fun e w'=>e=.returned (.bool true)∧Below w.heap.size w w':=
 (Kl.same_any k k w hg).mono fun e w' ⟨h1,h2⟩=>⟨by rw[h1];simp,h2⟩
/- how many ops replace -/
theorem rp_len {who:Int} {n:Nat} {b:ByteArray}:∀(l:List Nat) (C:Dq),rpE who n b l C=0→(rpL who n b l C).length≤l.length*(n+200)∧∀o ∈ rpL who n b l C,o.2.2.2.2=[]
 | [],C,_=>⟨Nat.zero_le _,fun o ho=>by cases ho⟩
 | a::r,C,he=>by
  rw[rpE_cons] at he
  by_cases e1:dE C who a n=0
  ·rw[if_neg (by simpa using e1)] at he
   by_cases e2:iE (dS C who a n) who a b=0
   ·rw[if_neg (by simpa using e2)] at he
    obtain⟨i1,i2⟩:=rp_len r _ he
    have hf:=(insE_zero.1 (cE_zero.1 e2).1).few
    rw[rpL_cons]
    refine⟨?_,fun o ho=> ?_⟩
    ·rw[List.length_append,List.length_append,delL_len,insL_len,List.length_cons,Nat.add_mul];omega
    ·rcases List.mem_append.1 ho with ho | ho
     ·rcases List.mem_append.1 ho with ho | ho
      ·exact del_nil _ _ _ _ o ho
      ·exact F6.ins_nil _ _ _ _ o ho
     ·exact i2 o ho
   ·rw[if_pos e2] at he;exact absurd he e2
  ·rw[if_pos e1] at he;exact absurd he e1
def outL (k:Int) (L:List Ox):List Ox:=if k=0 then L else[]
theorem rf_at {w w':World} {k:Int} {L:List Ox} {e:Ending} (h:RfPost w k L e w'):∃p n c,e=.returned (.tuple #[.slice p n c,.int .i64 k])∧OpsAt w' (.slice p n c) (outL k L)∧Below w.heap.size w w':=by
 obtain⟨v,he,h0,h1,hb⟩:=h
 by_cases hk:k=0
 ·have h2:=(h0 hk).at
  obtain⟨q,c,rfl,r⟩:=(h0 hk).at
  exact⟨_,_,_,he,by unfold outL;rw[if_pos hk];exact h2,hb⟩
 ·have:=h1 hk;subst this
  exact⟨_,_,_,he,by unfold outL;rw[if_neg hk];exact OpsAt.nil _,hb⟩
theorem re_at {w w':World} {k:Int} {L:List Ox} {e:Ending} (h:RePost w k L e w'):∃p n c,e=.returned (.tuple #[.slice p n c,errV k])∧OpsAt w' (.slice p n c) (outL k L)∧Below w.heap.size w w':=by
 obtain⟨v,he,h0,h1,hb⟩:=h
 by_cases hk:k=0
 ·have h2:=(h0 hk).at
  obtain⟨q,c,rfl,r⟩:=(h0 hk).at
  exact⟨_,_,_,he,by unfold outL;rw[if_pos hk];exact h2,hb⟩
 ·have:=h1 hk;subst this
  exact⟨_,_,_,he,by unfold outL;rw[if_neg hk];exact OpsAt.nil _,hb⟩
theorem rep_small {S:Dq} {who:Int} {p b:ByteArray} (I:Inv S):(outL (repE S who p b) (repL S who p b)).length≤1048576∧∀x ∈ outL (repE S who p b) (repL S who p b),x.2.2.2.2.length≤1048576:=by
 unfold outL
 by_cases hk:repE S who p b=0
 ·rw[if_pos hk]
  unfold repE at hk
  cases hw:Pm.isWho who with
  | false=>rw[if_pos hw] at hk;exact absurd hk (by decide)
  | true=>
   rw[if_neg (by rw[hw];simp)] at hk
   by_cases h2:allE (Lf.textR S.book) p=0
   ·rw[if_neg (by simpa using h2)] at hk
    obtain⟨r1,r2⟩:=rp_len _ _ hk
    have h300:=textR_le I
    have hz:p.size≤200∧p.size≠0:=by
     unfold allE at h2
     by_cases c1:300<(Lf.textR S.book).size∨200<p.size
     ·rw[if_pos c1] at h2;exact absurd h2 (by decide)
     ·by_cases c2:p.size=0
      ·rw[if_neg c1,if_pos c2] at h2;exact absurd h2 (by decide)
      ·exact⟨by omega,c2⟩
    have hpn:p.toList≠[]:=fun e=>hz.2 (by rw[←Kb.len_eq,e];rfl)
    have h3:=Fi.room (t:=(Lf.textR S.book).toList) hpn ((Lf.textR S.book).toList.length+1) 0 (Nat.zero_le _)
    have h4:=Nat.le_mul_of_pos_right (Fi.allF (Lf.textR S.book).toList p.toList ((Lf.textR S.book).toList.length+1) 0).length (List.length_pos_iff.2 hpn)
    have h5:(Fi.all (Lf.textR S.book).toList p.toList).reverse.length≤300:=by
     rw[List.length_reverse]
     unfold Fi.all
     rw[Kb.len_eq (Lf.textR S.book)] at h3 h4 ⊢
     omega
    refine⟨?_,fun x hx=>by rw[r2 x hx];exact Nat.zero_le _⟩
    unfold repL
    have h6:=Nat.mul_le_mul h5 (show p.size+200≤400 by omega)
    omega
   ·rw[if_pos h2] at hk;exact absurd hk h2
 ·rw[if_neg hk];exact⟨Nat.zero_le _,fun x hx=>by cases hx⟩
end F11
end Go.Proofs.YtlmdchpbpgcfmaaGreatDoor
