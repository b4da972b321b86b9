/- The reference's Replace. -/
import Derived.Test.YtlmdchpbpgcfmaaGreatDoorF7
import Derived.Test.YtlmdchpbpgcfmaaGreatDoorF5
import Derived.Test.YtlmdchpbpgcfmaaGreatDoorTj
import Derived.Test.YtlmdchpbpgcfmaaGreatDoorU4
import Derived.Test.YtlmdchpbpgcfmaaGreatDoorK1
import Derived.Lib.AppendZeros
import Derived.Deep.RegionHeld3
set_option linter.unusedSimpArgs false
set_option linter.unusedVariables false
set_option maxRecDepth 100000
set_option maxHeartbeats 8000000
namespace Go.Proofs.YtlmdchpbpgcfmaaGreatDoor
namespace F10
open Go.ChangeShapes Go.WideShapes Go.ChangeAt Go.RowKit Cm Ka Kb Na Om Oa Oz Oc Og Oi Hm Ia Ic Ie Ik Im Il Um Ua Fj Ac Xp Utp Uvp Uwp Uxp F6 F7
open La (bel bel_drew errV_zero errV_ne own_below)
open Iq (RowL)
open F2 (allE allR)
open Fnn (intsV)
/- dots that are none lie in blocks of any kind -/
theorem ops_anyQ {R Q P:Nat→Prop} {w:World} {v:Value} {x:List Ox} (h:OpsJ R Q w v x) (hn:∀o ∈ x,o.2.2.2.2=[]):OpsJ R P w v x:=by
 obtain⟨p,c,h1,h2,h3⟩:=h
 refine⟨p,c,h1, ?_,h3⟩
 rcases h2 with e | ⟨b,o,hp,hG,hc⟩
 ·exact Or.inl e
 ·refine Or.inr ⟨b,o,hp,hG,fun j hj=> ?_⟩
  obtain⟨u,h6,hd,_⟩:=hc j hj
  refine⟨u,h6,hd,fun a n c9 e hn9=> ?_⟩
  obtain⟨p9,c8,h9,_⟩:=hd
  rw[hn _ (getO_mem hj),e] at h9
  injection h9 with _ h9 _
  simp at h9;omega
/- a row of ops, as what is behind another one -/
theorem ops_list {Q:Nat→Prop} {w:World} {b o:Nat} {x:List Ox} (h:∀j,j<x.length→OJt Q w b o j (x.getD j oz)) (hn:∀y ∈ x,y.2.2.2.2=[]):∀n,n≤x.length→∃K:List (Ox × Value),K.map (·.1)=x.take n∧(∀i u,(flatO K)[i]? =some u→w.cell? ⟨b,o+i,none⟩=some u)∧∀y ∈ K,y.1.2.2.2.2=[]∧DtsAt w y.2 []
 | 0,_=>⟨[],rfl,fun i u hu=>by simp[flatO] at hu,fun y hy=>by cases hy⟩
 | n+1,hl=>by
  obtain⟨K,k1,k2,k3⟩:=ops_list h hn n (by omega)
  obtain⟨u,⟨h0,h1,h2,h3,h4,h5⟩,hd,_⟩:=h n (by omega)
  have hxn:=hn _ (getO_mem (show n<x.length by omega))
  have hKl:K.length=n:=by rw[←List.length_map (f:=fun y:Ox × Value=>y.1),k1,List.length_take];omega
  refine⟨K++[(x.getD n oz,u)], ?_,fun i u9 hu=> ?_,fun y hy=> ?_⟩
  ·rw[List.map_append,k1,List.take_succ_eq_append_getElem (by omega),List.getD_eq_getElem?_getD,List.getElem?_eq_getElem (by omega)];rfl
  ·rw[flatO_append] at hu
   by_cases hi:i<(flatO K).length
   ·rw[List.getElem?_append_left hi] at hu;exact k2 i u9 hu
   ·rw[List.getElem?_append_right (by omega),flatO_length,hKl] at hu
    obtain⟨r,hr⟩:∃r,i=n*6+r:=⟨i-n*6,by rw[flatO_length,hKl] at hi;omega⟩
    subst hr
    rw[Nat.add_sub_cancel_left,show flatO [(x.getD n oz,u)]=six (x.getD n oz) u from by simp[flatO]] at hu
    rw[←Nat.add_assoc]
    rcases r with _ | _ | _ | _ | _ | _ | r
    ·injection hu with hu;rw[←hu];exact h0
    ·injection hu with hu;rw[←hu];exact h1
    ·injection hu with hu;rw[←hu];exact h2
    ·injection hu with hu;rw[←hu];exact h3
    ·injection hu with hu;rw[←hu];exact h4
    ·injection hu with hu;rw[←hu];exact h5
    ·simp[six] at hu
  ·rcases List.mem_append.1 hy with hy | hy
   ·exact k3 y hy
   ·rw[List.mem_singleton.1 hy]
    rw[hxn] at hd
    exact⟨hxn,hd⟩
theorem app_ops {w:World} {B0:Nat} {vo:Value} {L:List (Ox × Value)} {R Q:Nat→Prop} {v:Value} {x:List Ox} (hr:RowL B0 w vo L) (ho:OpsJ R Q w v x) (hn:∀o ∈ x,o.2.2.2.2=[]) (hL:L.length≤1000000) (hx:x.length≤1000000) (hB:B0≤w.heap.size) (ty:TypeId):
  ∃v' w' K,(Builtin.append_ #[55,55] ty #[vo,v]).run Tryz.prog w=.ok v' w'∧K.map (·.1)=x∧RowL B0 w' v' (L++K)∧w.grownBy w' vo.ownBlock∧(v'.ownBlock=vo.ownBlock∨v'.ownBlock=some w.heap.size)∧(∀y ∈ K,y.1.2.2.2.2=[]∧DtsAt w' y.2 [])∧∃p n c,v'=.slice p n c:=by
 obtain⟨i0,hi,hz0,hz1,hz2⟩:=info_parts Ii.infoO
 obtain⟨p,c,rfl,h2,h3,h4,h5⟩:=ho
 obtain⟨po,no,co,hvo,_⟩:=own_shape hr
 cases p with
 | none=>
  have hc0:=h5 rfl
  subst hc0
  have hx0:x=[]:=List.eq_nil_of_length_eq_zero (by omega)
  subst hx0
  exact⟨vo,w,[],run_append_owned_none (P:=Tryz.prog) (w:=w) B0 55 ty 75 i0 6 Tryz.underlying55 hi vo L.length (flatO L) hr,rfl,by rw[List.append_nil];exact hr,⟨rfl,rfl,rfl,Nat.le_refl _,fun _ _ _=>rfl⟩,Or.inl rfl,(fun y hy=>by cases hy),po,no,co,hvo⟩
 | some ad=>
  have hK:∃K:List (Ox × Value),K.map (·.1)=x∧(∀i u,(flatO K)[i]? =some u→w.cell? (ad.add i)=some u)∧∀y ∈ K,y.1.2.2.2.2=[]∧DtsAt w y.2 []:=by
   rcases h2 with e | ⟨b,o,hp,_,hc⟩
   ·exact⟨[],by rw[e];rfl,(fun i u hu=>by simp[flatO] at hu),(fun y hy=>by cases hy)⟩
   ·injection hp with hp
    subst hp
    obtain⟨K,k1,k2,k3⟩:=ops_list hc hn x.length (Nat.le_refl _)
    rw[List.take_length] at k1
    exact⟨K,k1,fun i u hu=>by rw[Addr.add_lit];exact k2 i u hu,k3⟩
  obtain⟨K,k1,k2,k3⟩:=hK
  have hKl:K.length=x.length:=by rw[←k1,List.length_map]
  obtain⟨v',w',r1,r2,r3,_,r5⟩:=run_append_own_at (P:=Tryz.prog) w B0 55 ty 75 i0 (.agg #[.int .i64 0,.int .i64 0,.int .i64 0,.string ⟨#[]⟩,.int .i64 0,.slice none 0 0]) 6 72 Tryz.underlying55 hi hz0 hz1 hz2 rfl (by decide) vo L.length (flatO L) hr ad x.length c (flatO K) (by rw[flatO_length,hKl]) k2 (Iq.flatO_one K fun y hy=>by
   obtain⟨p9,c9,e,_⟩:=(k3 y hy).2
   exact⟨p9,_,c9,e⟩) (by unfold maxLen;omega) (by omega) hB
  obtain⟨p9,n9,c9,hv9,_⟩:=own_shape r2
  refine⟨v',w',K,r1,k1, ?_,r3,r5,fun y hy=>⟨(k3 y hy).1,dts_nil (k3 y hy).2⟩,p9,n9,c9,hv9⟩
  unfold RowL
  rw[List.length_append,flatO_append,hKl];exact r2
/- between two edits of Replace -/
structure Rr (B:Nat→Prop) (K0:Nat→Obj→Prop) (w wr:World) (E:Nat) (C:Dq) (F:Nat→Prop) (vo:Value) (L:List (Ox × Value)):Prop where
 doc:RefAt B wr E C F
 low:∀g,F g→w.heap.size≤g
 old:∀g,B g→g<w.heap.size
 row:RowL w.heap.size wr vo L
 nil:∀y ∈ L,y.1.2.2.2.2=[]∧DtsAt wr y.2 []
 offr:∀g,vo.ownBlock=some g→¬F g
 kp:∀g o,K0 g o→wr.heap[g]? =some o∧¬F g∧vo.ownBlock≠some g
 bel:Below w.heap.size w wr
section
variable {B : Nat → Prop} {K0 : Nat → Obj → Prop} {w wr w1 w2 : World} {E : Nat} {C : Dq} {F : Nat → Prop} {vo : Value} {L : List (Ox × Value)}
theorem Rr.below (h:Rr B K0 w wr E C F vo L) (hb:Below wr.heap.size wr w1):Rr B K0 w w1 E C F vo L:=
 ⟨h.doc.below hb,h.low,h.old,own_below h.row hb,fun y hy=>⟨(h.nil y hy).1,dts_nil (h.nil y hy).2⟩,h.offr,fun g o k=>⟨by rw[hb.block g (Array.getElem?_eq_some_iff.1 (h.kp g o k).1).1];exact(h.kp g o k).1,(h.kp g o k).2⟩,La.bel h.bel hb⟩
theorem Rr.go {C':Dq} {F':Nat→Prop} (h:Rr B K0 w wr E C F vo L) (hd:RefAt B w1 E C' F') (hc:Chg F wr w1) (hf:∀g,F' g→F g∨wr.heap.size≤g):Rr B K0 w w1 E C' F' vo L:=by
 have l3:∀g,vo.ownBlock=some g→g<wr.heap.size:=fun g hg=>(own_lt h.row g hg).1
 refine⟨hd,fun g hg=> ?_,h.old,own_stay h.row fun g hg=>hc.block g (l3 g hg) (h.offr g hg),fun y hy=>⟨(h.nil y hy).1,dts_nil (h.nil y hy).2⟩,fun g hg h9=> ?_,fun g o k=> ?_,hc.below h.low h.bel h.bel.size⟩
 ·rcases hf g hg with e | e
  ·exact h.low g e
  ·exact Nat.le_trans h.bel.size e
 ·rcases hf g h9 with e | e
  ·exact h.offr g hg e
  ·have:=l3 g hg;omega
 ·obtain⟨k1,k2,k3⟩:=h.kp g o k
  have hlt:=(Array.getElem?_eq_some_iff.1 k1).1
  refine⟨by rw[hc.block g hlt k2];exact k1,fun e=> ?_,k3⟩
  rcases hf g e with e | e
  ·exact k2 e
  ·omega
theorem Rr.push {v':Value} {K:List (Ox × Value)} (h:Rr B K0 w wr E C F vo L) (hr:RowL w.heap.size w2 v' (L++K)) (hg:wr.grownBy w2 vo.ownBlock) (hat:v'.ownBlock=vo.ownBlock∨v'.ownBlock=some wr.heap.size) (hK:∀y ∈ K,y.1.2.2.2.2=[]∧DtsAt w2 y.2 []):Rr B K0 w w2 E C F v' (L++K):=by
 have hlo:∀g,vo.ownBlock=some g→w.heap.size≤g:=fun g e=>La.own_ge h.row g e
 refine⟨h.doc.chg (H:=fun g=>vo.ownBlock=some g) (Chg.grown hg fun g e=>e) (fun g e hb=>by have:=hlo g e;have:=h.old g hb;omega) (fun g hF e=>h.offr g e hF),h.low,h.old,hr,fun y hy=> ?_,fun g e hF=> ?_,fun g o k=> ?_,h.bel.grown hg h.bel.size hlo⟩
 ·rcases List.mem_append.1 hy with hy | hy
  ·exact⟨(h.nil y hy).1,dts_nil (h.nil y hy).2⟩
  ·exact hK y hy
 ·rcases hat with q | q
  ·rw[q] at e;exact h.offr g e hF
  ·rw[q] at e;injection e with e;have:=(h.doc.lt g hF).2;omega
 ·obtain⟨k1,k2,k3⟩:=h.kp g o k
  have hlt:=(Array.getElem?_eq_some_iff.1 k1).1
  refine⟨by rw[hg.block g hlt (fun e=>k3 e.symm)];exact k1,k2,fun e=> ?_⟩
  rcases hat with q | q
  ·rw[q] at e;exact k3 e
  ·rw[q] at e;injection e with e;omega
theorem Rr.ops (h:Rr B K0 w wr E C F vo L):OpsJ (New w.heap.size wr) (New w.heap.size wr) wr vo (L.map (·.1)):=
 OpsJ.own h.row fun y hy=>by
  obtain⟨h1,h2⟩:=h.nil y hy
  refine⟨by rw[h1];exact h2,fun a n c e hn=> ?_⟩
  obtain⟨p,c2,h3,_⟩:=h2
  rw[e] at h3
  injection h3 with _ h3 _
  simp at h3;omega
end
/- what is seen in a doc of the reference's -/
theorem text_of (B:Nat→Prop) (E:Nat) (S:Dq) (F:Nat→Prop) (w:World) (h:RefAt B w E S F):∃pb nb cb,w.cell? ⟨E,0,none⟩=some (.slice pb nb cb)∧Calls Tryz.prog 70 #[.slice pb nb cb] w fun e w'=>e=.returned (.string (Lf.textR S.book))∧Below w.heap.size w w':=by
 obtain⟨I,gk,vb,vm,vo,m⟩:=h
 obtain⟨pb,cb,hvb,hlf,_⟩:=m.book
 have hc:=blk_cell m.blk (i:=0) (u:=vb) rfl
 rw[hvb] at hc
 refine⟨pb,_,cb,hc, ?_⟩
 have:=Mb.text_ref pb _ cb S.book w rfl hlf (Lf.book_ok I.book).2.2 (by have:=few_book I;omega)
 have e:Lf.textR S.book=⟨(Bm.text S.book).toArray⟩:=by unfold Lf.textR;rw[if_pos I.book]
 rw[e];exact this
theorem rrep_who (E:Nat) (S:Dq) (who:Int) (p b:ByteArray) (w:World) (h:Pm.isWho who=false):
  Calls Tryz.prog 33 #[.pointer (some ⟨E,0,none⟩),.int .i64 who,.string p,.string b] w (RfPost w (repE S who p b) (repL S who p b)):=by
 have HE:Hid (repE S who p b=1):=by unfold Hid repE;rw[if_pos h]
 have tst:who<1∨(¬who<1∧8<who):=by
  simp[Pm.isWho] at h;omega
 clear h
 rcases tst with q1 | ⟨q1,q2⟩
 all_goals
  go_enter Tryz.func33,Tryz.ntmps33
  go_wp2_with fail
  go_ret2
  rw[HE.out]
  exact RfPost.no (by decide) (Below.refl _ _)
theorem rrep_all (B:Nat→Prop) (E:Nat) (S:Dq) (F:Nat→Prop) (who:Int) (p b:ByteArray) (w:World) (h:RefAt B w E S F) (hp:p.size≤maxLen) (h1:1≤who) (h8:who≤8) (he:allE (Lf.textR S.book) p≠0):
  Calls Tryz.prog 33 #[.pointer (some ⟨E,0,none⟩),.int .i64 who,.string p,.string b] w (RfPost w (repE S who p b) (repL S who p b)):=by
 have hw:Pm.isWho who=true:=by simp[Pm.isWho,h1,h8]
 have HE:Hid (repE S who p b=allE (Lf.textR S.book) p):=by unfold Hid repE;rw[if_neg (by rw[hw];simp),if_pos he]
 obtain⟨pb,nb,cb,hc0,CT⟩:=text_of B E S F w h
 have h300:=textR_le h.inv
 obtain⟨t,ht⟩:∃t,t=Lf.textR S.book:=⟨_,rfl⟩
 rw[←ht] at CT HE h300 he
 have q1:¬who<1:=by omega
 have q2:¬8<who:=by omega
 have t3:¬(300:Int)<t.size:=by omega
 have hpz:(p.size:Int)≤9223372036854775807:=by unfold maxLen at hp;omega
 clear ht h h1 h8 hw
 by_cases c1:200<p.size
 ·have p2:(200:Int)<p.size:=by omega
  have HE2:Hid (allE t p=4):=by unfold Hid allE;rw[if_pos (Or.inr c1)]
  clear he hp
  go_enter Tryz.func33,Tryz.ntmps33
  go_wp2_with fail
  refine CT.mono ?_
  rintro e w1 ⟨rfl,hb1⟩
  have HB1:=z9 hb1
  clear hb1 CT
  go_wp2_with fail
  go_ret2
  rw[HE.out,HE2.out]
  exact RfPost.no (by decide) HB1.out
 ·have p2:¬(200:Int)<p.size:=by omega
  have c2:p.size=0:=by
   unfold allE at he
   rw[if_neg (by omega)] at he
   by_cases c2:p.size=0
   ·exact c2
   ·rw[if_neg c2] at he;exact absurd rfl he
  obtain rfl:=F2.nil_of c2
  have HE2:Hid (allE t ⟨#[]⟩=3):=by unfold Hid allE;rw[if_neg (by omega),if_pos c2]
  clear he hp
  go_enter Tryz.func33,Tryz.ntmps33
  go_wp2_with fail
  refine CT.mono ?_
  rintro e w1 ⟨rfl,hb1⟩
  have HB1:=z9 hb1
  clear hb1 CT
  go_wp2_with fail
  go_ret2
  rw[HE.out,HE2.out]
  exact RfPost.no (by decide) HB1.out
theorem Hid.mk9 {p:Prop} (h:p):Hid p:=h
theorem cell_of9 {w:World} {g i:Nat} {cur:Array Value} {t:TypeId} {f:Nat × Nat} (hg:w.heap[g]? =some (.cells cur t f)) {v:Value} (hv:cur[i]? =some v):w.cell? ⟨g,i,none⟩=some v:=by
 simp only[World.cell?,hg];exact hv
theorem rf_shape {w:World} {E:Int} {L:List Ox} {v:Value} {R:Nat→Prop} (h1:E=0→OpsJ R R w v L) (h2:E≠0→v=.slice none 0 0):∃p n c,v=.slice p n c:=by
 by_cases h:E=0
 ·obtain⟨p,c,e,_⟩:=h1 h;exact⟨_,_,_,e⟩
 ·exact⟨_,_,_,h2 h⟩
theorem d_first {C:Dq} {who:Int} {a n:Nat} (h:delE C who a ((a+n:Nat):Int)≠0):dE C who a n=delE C who a ((a+n:Nat):Int):=by unfold dE cE;rw[if_pos h]
theorem d_then {C:Dq} {who:Int} {a n:Nat} (h:delE C who a ((a+n:Nat):Int)=0):dE C who a n=runE C (delL C who a ((a+n:Nat):Int)):=by unfold dE cE;rw[if_neg (by simpa using h)]
theorem i_first {C:Dq} {who:Int} {a:Nat} {b:ByteArray} (h:insE C who a b≠0):iE C who a b=insE C who a b:=by unfold iE cE;rw[if_pos h]
theorem i_then {C:Dq} {who:Int} {a:Nat} {b:ByteArray} (h:insE C who a b=0):iE C who a b=runE C (insL C who a b):=by unfold iE cE;rw[if_neg (by simpa using h)]
theorem rrep_go (B:Nat→Prop) (E:Nat) (S:Dq) (F:Nat→Prop) (who:Int) (p b:ByteArray) (w:World) (h:RefAt B w E S F) (hb:b.size≤maxLen) (h1:1≤who) (h8:who≤8) (hp2:p.size≤200) (hp0:p.size≠0):
  Calls Tryz.prog 33 #[.pointer (some ⟨E,0,none⟩),.int .i64 who,.string p,.string b] w (RfPost w (repE S who p b) (repL S who p b)):=by
 have hw:Pm.isWho who=true:=by simp[Pm.isWho,h1,h8]
 obtain⟨pb,nb,cb,hc0,CT⟩:=text_of B E S F w h
 have h300:=textR_le h.inv
 obtain⟨t,ht⟩:∃t,t=Lf.textR S.book:=⟨_,rfl⟩
 obtain⟨A,hA⟩:∃A,A=Fi.all t.toList p.toList:=⟨_,rfl⟩
 have he0:allE (Lf.textR S.book) p=0:=by rw[←ht] at h300 ⊢;unfold allE;rw[if_neg (by omega),if_neg hp0]
 have HE:Hid (repE S who p b=rpE who p.size b A.reverse S):=by unfold Hid repE;rw[if_neg (by rw[hw];simp),if_neg (by simpa using he0),hA,ht]
 have HL:Hid (repL S who p b=rpL who p.size b A.reverse S):=by unfold Hid repL;rw[hA,ht]
 rw[←ht] at CT h300
 have hpn:p.toList≠[]:=fun e=>hp0 (by rw[←Kb.len_eq,e];rfl)
 have hAs:A.length≤300∧∀x ∈ A,x+p.size≤300:=by
  have h3:=Fi.room (t:=t.toList) hpn (t.toList.length+1) 0 (Nat.zero_le _)
  refine⟨?_,fun x hx=> ?_⟩
  ·rw[hA]
   unfold Fi.all
   rw[Kb.len_eq,Kb.len_eq] at h3
   rw[Kb.len_eq]
   have h4:=Nat.le_mul_of_pos_right (Fi.allF t.toList p.toList (t.size+1) 0).length (show 0<p.size by omega)
   omega
  ·rw[hA] at hx
   have h5:=Fi.isAt_le hpn (Fi.found hpn _ _ x hx).2
   rw[Kb.len_eq,Kb.len_eq] at h5
   omega
 have HAS:Hid (∀x ∈ A,x+p.size≤300):=hAs.2
 have hn3:=hAs.1
 have q1:¬who<1:=by omega
 have q2:¬8<who:=by omega
 have t3:¬(300:Int)<t.size:=by omega
 have p3:¬(200:Int)<p.size:=by omega
 have pe:(p.toList==[])=false:=by rw[beq_eq_false_iff_ne];exact hpn
 have HD:Hid (∀W,Below w.heap.size w W→RefAt B W E S F):=fun W hb9=>h.below hb9
 have HOB:Hid (∀g,B g→g<w.heap.size):=h.old
 have HBM:Hid (b.size≤maxLen):=hb
 have CA:Hid (∀W,Calls Tryz.prog 21 #[.string t,.string p] W fun e w'=>∃v,e=.returned v∧w'.ownsRow W.heap.size 3 1 v A.length (intsV A)∧Below W.heap.size W w'):=fun W=>by rw[hA];exact Fnn.all_ref t p W hpn (Kb.len_eq t) (Kb.len_eq p) h300 hp2
 obtain⟨n,hn⟩:∃n,A.length=n:=⟨_,rfl⟩
 rw[hn] at hn3
 have HN:Hid (A.length=n):=hn
 clear ht h hw he0 hA hb hAs hn hpn
 go_enter Tryz.func33,Tryz.ntmps33
 go_wp2_with fail
 refine CT.mono ?_
 rintro e w1 ⟨rfl,hb1⟩
 have HB1:Hid (Below w.heap.size w w1):=hb1
 clear hb1 CT hc0
 go_wp2_with fail
 refine(Tj.copy_ref B E S F w1 (HD.out w1 HB1.out)).mono ?_
 rintro e w2 ⟨T,F2',rfl,hd2,hf2,hb2⟩
 have HB2:Hid (Below w.heap.size w w2):=bel HB1.out hb2
 have HD2:Hid (RefAt B w2 T S F2'):=hd2
 have HF2:Hid (∀g,F2' g→w.heap.size≤g):=fun g hg=>Nat.le_trans HB1.out.size (hf2 g hg)
 clear hd2 hf2 hb2 HB1
 go_wp2_with fail
 refine(CA.out w2).mono ?_
 rintro e w3 ⟨v3,rfl,ho3,hb3⟩
 rw[HN.out] at ho3
 obtain⟨qa,ca,hv3⟩:=F5.own_shape ho3
 subst hv3
 have HB3:Hid (Below w.heap.size w w3):=bel HB2.out hb3
 have HCA:Hid (∀j,j<n→∃g cur,qa=some ⟨g,0,none⟩∧w3.heap[g]? =some (.cells cur 3 (0,0))∧cur[j]? =some (.int .i64 ((A.getD j 0:Nat):Int))):=by
  intro j hj
  have hj2:j<A.length:=by rw[HN.out];exact hj
  rcases ho3.2 with⟨_,e0⟩ | ⟨g,cap,cur,e,_,hg,_,_,_,ht⟩
  ·omega
  ·injection e with e1 _ _
   refine⟨g,cur,e1,hg, ?_⟩
   have h9:(intsV A)[j]? =some (.int .i64 ((A.getD j 0:Nat):Int)):=by
    unfold intsV;rw[List.getElem?_map,List.getElem?_eq_getElem hj2,List.getD_eq_getElem?_getD,List.getElem?_eq_getElem hj2];rfl
   rw[←ht,List.getElem?_take] at h9
   split at h9
   ·simpa using h9
   ·cases h9
 have HRR:Hid (Rr B (fun g o=>qa=some ⟨g,0,none⟩∧w3.heap[g]? =some o) w w3 T S F2' (.slice none 0 0) []):=by
  refine⟨HD2.out.below hb3,HF2.out,HOB.out,World.ownsRow_nil _ _ _ _,(fun y hy=>by cases hy),(fun g e=>by cases e),fun g o k=>⟨k.2,fun e9=> ?_,fun e=>by cases e⟩,HB3.out⟩
  have h9:=(HD2.out.lt g e9).2
  have h8:=Fr.own_ge ho3 g (by rw[k.1];rfl)
  omega
 clear ho3 hb3 CA HB2 HD2 HF2
 go_wp2_with fail
 go_loopw [12,14] (fun vo vi wr=>∃(j:Nat) (i:Int) (C:Dq) (Fk:Nat→Prop) (L:List (Ox × Value)),vi=.int .i64 i∧Hid (i=(j:Int)-1)∧Hid (j≤n)∧Hid (Rr B (fun g o=>qa=some ⟨g,0,none⟩∧w3.heap[g]? =some o) w wr T C Fk vo L)∧Hid (rpE who p.size b (A.take j).reverse C=rpE who p.size b A.reverse S)∧Hid (L.map (·.1)++rpL who p.size b (A.take j).reverse C=rpL who p.size b A.reverse S)∧Hid (L.length≤400*(n-j))) (fun _ vi _=>(intOf vi+1).toNat)
 case atStart=>exact⟨n,(n:Int)-1,S,F2',[],by go_num,rfl,Nat.le_refl _,HRR,by rw[Hid,←HN.out,List.take_length],by rw[Hid,←HN.out,List.take_length];rfl,Nat.zero_le _⟩
 case round=>
  clear HRR
  obtain⟨j,i,C,Fk,L,rfl,HI,HJ,HRP,HRE2,HRL,HLL⟩:=hrel
  obtain⟨po,no,co,hvo,_⟩:=own_shape HRP.out.row
  subst hvo
  cases j with
  | zero=>
   obtain rfl:i= -1:=by have:=HI.out;omega
   have HE0:Hid (repE S who p b=0):=by rw[Hid,HE.out,←HRE2.out];rfl
   have HLX:Hid (L.map (·.1)=repL S who p b):=by
    have h9:=HRL.out
    rw[show rpL who p.size b (A.take 0).reverse C=[] from rfl,List.append_nil] at h9
    rw[Hid,h9,HL.out]
   go_wp2_with fail
   go_ret2
   rw[HE0.out]
   refine⟨_,rfl,fun _=> ?_,fun e=>absurd rfl e,HRP.out.bel⟩
   rw[←HLX.out]
   exact HRP.out.ops
  | succ j=>
   obtain rfl:i=(j:Int):=by have:=HI.out;omega
   have hjn:j<n:=HJ.out
   have hjA:j<A.length:=by rw[HN.out];exact hjn
   obtain⟨ga,cur,rfl,hga,hcur⟩:=HCA.out j hjn
   have HGA:Hid (∀(w9:World) (C9:Dq) (F9:Nat→Prop) (v9:Value) (L9:List (Ox × Value)),Rr B (fun g o=>some (⟨ga,0,none⟩:Addr)=some ⟨g,0,none⟩∧w3.heap[g]? =some o) w w9 T C9 F9 v9 L9→w9.cell? ⟨ga,j,none⟩=some (.int .i64 ((A.getD j 0:Nat):Int))):=fun w9 C9 F9 v9 L9 h9=>cell_of9 (h9.kp ga _ ⟨rfl,hga⟩).1 hcur
   have a0:=HGA.out _ _ _ _ _ HRP.out
   have hmem:A.getD j 0 ∈ A:=by rw[List.getD_eq_getElem?_getD,List.getElem?_eq_getElem hjA];exact List.getElem_mem _
   have ha3:=HAS.out _ hmem
   have htr:=take_rev hjA
   obtain⟨a,ha⟩:∃a,a=A.getD j 0:=⟨_,rfl⟩
   rw[←ha] at a0 ha3 htr HGA
   have HX1:Hid (rpE who p.size b A.reverse S=if dE C who a p.size≠0 then dE C who a p.size else if iE (dS C who a p.size) who a b≠0 then iE (dS C who a p.size) who a b else rpE who p.size b (A.take j).reverse (iS (dS C who a p.size) who a b)):=by
    rw[Hid,←HRE2.out,htr,rpE_cons]
   have HX2:Hid (rpL who p.size b A.reverse S=L.map (·.1)++(delL C who a ((a+p.size:Nat):Int)++insL (dS C who a p.size) who a b++rpL who p.size b (A.take j).reverse (iS (dS C who a p.size) who a b))):=by
    rw[Hid,←HRL.out,htr,rpL_cons]
   have hL9:L.length≤1000000:=by have:=HLL.out;omega
   have HDR:Hid (Below wr.heap.size wr wr.drew):=(Below.refl _ wr).drew
   have CD:=delete_ref B T C Fk who (a:Int) ((a+p.size:Nat):Int) wr.drew (HRP.out.doc.below HDR.out)
   rw[show((a+p.size:Nat):Int)=(a:Int)+(p.size:Int) by omega] at CD
   have HLF:Hid (∀g,Fk g→g<wr.heap.size):=fun g hg=>(HRP.out.doc.lt g hg).2
   have hIC:Hid (Inv C):=HRP.out.doc.inv
   have hwr:IntKind.i64.wrap ((a:Int)+(p.size:Int))=(a:Int)+(p.size:Int):=wrap_in (by omega) (by omega)
   clear hcur hga hmem htr ha HRE2 HRL HCA
   go_wp2_with fail
   go_region_held3 (fun W=>W.cell? ⟨ga,j,none⟩=some (.int .i64 (a:Int))) (first | (go_keep;done) | (refine keep_cell hb6 ?_;(first | assumption | (go_split_ands;assumption)))) (first
    | (go_at_call 72;refine CD.mono ?_;rintro e w6 ⟨v6,he6,hv6,hn6,hb6⟩;have HV6:=Hid.mk9 hv6;have HN6:=Hid.mk9 hn6;obtain⟨p6,n6,c6,rfl⟩:=rf_shape hv6 hn6;obtain⟨k6,hk6⟩:∃k6,k6=delE C who (a:Int) ((a:Int)+(p.size:Int)):=⟨_,rfl⟩;rw[←hk6] at he6;have HK6:=Hid.mk9 hk6;subst he6;clear hv6 hn6 hk6))
   have HR6:Hid (Rr B (fun g o=>some (⟨ga,0,none⟩:Addr)=some ⟨g,0,none⟩∧w3.heap[g]? =some o) w w6 T C Fk (.slice po no co) L):=(HRP.out.below HDR.out).below hb6
   have HV6':Hid (k6=0→OpsJ (New wr.heap.size w6) B w6 (.slice p6 n6 c6) (delL C who a ((a+p.size:Nat):Int))):=fun e=>by
    have h9:=HV6.out (by rw[←HK6.out];exact e)
    rw[show(a:Int)+(p.size:Int)=((a+p.size:Nat):Int) by omega] at h9
    exact ops_anyQ h9 (del_nil _ _ _ _)
   have HK6':Hid (k6=delE C who a ((a+p.size:Nat):Int)):=by rw[Hid,HK6.out,show(a:Int)+(p.size:Int)=((a+p.size:Nat):Int) by omega]
   clear HV6 HN6 HK6 hb6 CD a0 HRP hwr
   by_cases hk:k6=0
   case neg=>
    have HEX:Hid (repE S who p b=k6):=by
     have h9:delE C who a ((a+p.size:Nat):Int)≠0:=by rw[←HK6'.out];exact hk
     rw[Hid,HE.out,HX1.out,d_first h9,if_pos h9,HK6'.out]
    have HZ:Hid (k6≠0):=hk
    have kb:(k6==0)=false:=by simpa using hk
    have kn':(k6 !=0)=true:=by simpa using hk
    clear hk HX1 HX2
    go_wp2_with fail
    go_ret2
    rw[HEX.out]
    exact RfPost.no HZ.out HR6.out.bel
   case pos=>
    subst hk
    have HX6:=HV6'.out rfl
    have CDO:=do_ref B T C Fk (New wr.heap.size w6) _ (delL C who a ((a+p.size:Nat):Int)) w6 HR6.out.doc HX6 (fun g hg=>⟨hg.2,fun e=>by have:=HLF.out g e;have:=hg.1;omega⟩) (del_max hIC.out _ _ _)
    have HXJ:Hid (OpsJ (New wr.heap.size w6) B w6 (.slice p6 n6 c6) (delL C who a ((a+p.size:Nat):Int))):=HX6
    have HXF:Hid (∀g,New wr.heap.size w6 g→g<w6.heap.size∧¬Fk g):=fun g hg=>⟨hg.2,fun e=>by have:=HLF.out g e;have:=hg.1;omega⟩
    have HDE:Hid (dE C who a p.size=runE C (delL C who a ((a+p.size:Nat):Int))):=d_then HK6'.out.symm
    clear HX6 HV6'
    go_wp2_with fail
    refine CDO.mono ?_
    rintro e w7 ⟨he7,F7,hd7,hc7,hf7⟩
    rw[←HDE.out] at he7
    have HR7:Hid (Rr B (fun g o=>some (⟨ga,0,none⟩:Addr)=some ⟨g,0,none⟩∧w3.heap[g]? =some o) w w7 T (dS C who a p.size) F7 (.slice po no co) L):=HR6.out.go hd7 hc7 hf7
    have HXJ7:Hid (OpsJ (New wr.heap.size w6) B w7 (.slice p6 n6 c6) (delL C who a ((a+p.size:Nat):Int))):=HXJ.out.stay (hc7.stay HXF.out) (hc7.stay fun g hg=>⟨HR6.out.doc.old g hg,fun e=>(HR6.out.doc.lt g e).1 hg⟩)
    clear CDO hd7 hc7 hf7
    by_cases hz:dE C who a p.size=0
    case neg=>
     have HEX:Hid (repE S who p b=dE C who a p.size):=by rw[Hid,HE.out,HX1.out,if_pos hz]
     have HB7:Hid (Below w.heap.size w w7):=HR7.out.bel
     generalize dE C who a p.size=ez at he7 HEX hz
     subst he7
     have HZ:Hid (ez≠0):=hz
     have kb:(ez==0)=false:=by simpa using hz
     have kn':(ez !=0)=true:=by simpa using hz
     clear hz HX1 HX2 HR7 HXJ7 HXJ HR6
     go_wp2_with fail
     go_ret2
     rw[HEX.out]
     exact RfPost.no HZ.out HB7.out
    case pos=>
     rw[hz] at he7
     subst he7
     obtain⟨C1,hC1⟩:∃C1,C1=dS C who a p.size:=⟨_,rfl⟩
     rw[←hC1] at HR7 HX1 HX2
     have HX3:Hid (rpE who p.size b A.reverse S=if iE C1 who a b≠0 then iE C1 who a b else rpE who p.size b (A.take j).reverse (iS C1 who a b)):=by
      rw[Hid,HX1.out,if_neg (by simpa using hz)]
     obtain⟨v8,w8,K8,hrun8,hk8,hr8,hg8,hat8,hK8,p8,n8,c8,rfl⟩:=app_ops HR7.out.row HXJ7.out (del_nil _ _ _ _) hL9 (by rw[delL_len];omega) HR7.out.bel.size 55
     have HR8:Hid (Rr B (fun g o=>some (⟨ga,0,none⟩:Addr)=some ⟨g,0,none⟩∧w3.heap[g]? =some o) w w8 T C1 F7 (.slice p8 n8 c8) (L++K8)):=HR7.out.push hr8 hg8 hat8 hK8
     have HK8:Hid (K8.map (·.1)=delL C who a ((a+p.size:Nat):Int)):=hk8
     have HKL8:Hid (K8.length≤200):=by rw[Hid,len_map hk8,delL_len];exact hp2
     have hL8:(L++K8).length≤1000000:=by rw[List.length_append];have:=HKL8.out;have:=HLL.out;omega
     have a8:=HGA.out _ _ _ _ _ HR8.out
     have hIC8:Hid (Inv C1):=HR8.out.doc.inv
     have HRUN:Hid ((Builtin.append_ #[55,55] 55 #[.slice po no co,.slice p6 n6 c6]).run Tryz.prog w7=.ok (.slice p8 n8 c8) w8):=hrun8
     have CI:=insert_ref B T C1 F7 who (a:Int) b w8 HR8.out.doc HBM.out
     have HLF8:Hid (∀g,F7 g→g<w8.heap.size):=fun g hg=>(HR8.out.doc.lt g hg).2
     clear hz hC1 hk8 hr8 hg8 hat8 hK8 hrun8 HX1 HR7 HXJ7 HXJ HR6 HXF
     go_wp2_with (at_builtin;refine Lib.wpList_append_run _ rfl (.tmp 75) (.tmp 76) 55 55 rfl (.slice po no co) (.slice p6 n6 c6) rfl rfl (.slice p8 n8 c8) w8 HRUN.out ?_)
     refine CI.mono ?_
     rintro e w9 ⟨v9,he9,hv9,hn9,hb9⟩
     have HR9:Hid (Rr B (fun g o=>some (⟨ga,0,none⟩:Addr)=some ⟨g,0,none⟩∧w3.heap[g]? =some o) w w9 T C1 F7 (.slice p8 n8 c8) (L++K8)):=HR8.out.below hb9
     obtain⟨p9,n9,c9,rfl⟩:=rf_shape hv9 hn9
     obtain⟨k9,hk9⟩:∃k9,k9=insE C1 who a b:=⟨_,rfl⟩
     rw[←hk9] at he9 hv9
     have HK9:Hid (k9=insE C1 who a b):=hk9
     have HV9:Hid (k9=0→OpsJ (New w8.heap.size w9) B w9 (.slice p9 n9 c9) (insL C1 who a b)):=fun e=>ops_anyQ (hv9 e) (F6.ins_nil _ _ _ _)
     subst he9
     clear hv9 hn9 hk9 hb9 CI HR8 a8 HRUN
     by_cases hk:k9=0
     case neg=>
      have HEX:Hid (repE S who p b=k9):=by
       have h9:insE C1 who a b≠0:=by rw[←HK9.out];exact hk
       rw[Hid,HE.out,HX3.out,i_first h9,if_pos h9,HK9.out]
      have HZ:Hid (k9≠0):=hk
      have kb:(k9==0)=false:=by simpa using hk
      have kn':(k9 !=0)=true:=by simpa using hk
      clear hk HX3 HX2
      go_wp2_with fail
      go_ret2
      rw[HEX.out]
      exact RfPost.no HZ.out HR9.out.bel
     case pos=>
      subst hk
      have HX9:=HV9.out rfl
      have CDO:=do_ref B T C1 F7 (New w8.heap.size w9) _ (insL C1 who a b) w9 HR9.out.doc HX9 (fun g hg=>⟨hg.2,fun e=>by have:=HLF8.out g e;have:=hg.1;omega⟩) (ins_max hIC8.out HK9.out.symm)
      have HXJ:Hid (OpsJ (New w8.heap.size w9) B w9 (.slice p9 n9 c9) (insL C1 who a b)):=HX9
      have HXF:Hid (∀g,New w8.heap.size w9 g→g<w9.heap.size∧¬F7 g):=fun g hg=>⟨hg.2,fun e=>by have:=HLF8.out g e;have:=hg.1;omega⟩
      have HDE:Hid (iE C1 who a b=runE C1 (insL C1 who a b)):=i_then HK9.out.symm
      have HBF:Hid (b.size≤200):=(insE_zero.1 HK9.out.symm).few
      clear HX9 HV9
      go_wp2_with fail
      refine CDO.mono ?_
      rintro e w10 ⟨he10,F10',hd10,hc10,hf10⟩
      rw[←HDE.out] at he10
      have HR10:Hid (Rr B (fun g o=>some (⟨ga,0,none⟩:Addr)=some ⟨g,0,none⟩∧w3.heap[g]? =some o) w w10 T (iS C1 who a b) F10' (.slice p8 n8 c8) (L++K8)):=HR9.out.go hd10 hc10 hf10
      have HXJ10:Hid (OpsJ (New w8.heap.size w9) B w10 (.slice p9 n9 c9) (insL C1 who a b)):=HXJ.out.stay (hc10.stay HXF.out) (hc10.stay fun g hg=>⟨HR9.out.doc.old g hg,fun e=>(HR9.out.doc.lt g e).1 hg⟩)
      clear CDO hd10 hc10 hf10
      by_cases hz:iE C1 who a b=0
      case neg=>
       have HEX:Hid (repE S who p b=iE C1 who a b):=by rw[Hid,HE.out,HX3.out,if_pos hz]
       have HB10:Hid (Below w.heap.size w w10):=HR10.out.bel
       generalize iE C1 who a b=ez at he10 HEX hz
       subst he10
       have HZ:Hid (ez≠0):=hz
       have kb:(ez==0)=false:=by simpa using hz
       have kn':(ez !=0)=true:=by simpa using hz
       clear hz HX3 HX2 HR10 HXJ10 HXJ HR9
       go_wp2_with fail
       go_ret2
       rw[HEX.out]
       exact RfPost.no HZ.out HB10.out
      case pos=>
       rw[hz] at he10
       subst he10
       obtain⟨v11,w11,K11,hrun11,hk11,hr11,hg11,hat11,hK11,p11,n11,c11,rfl⟩:=app_ops HR10.out.row HXJ10.out (F6.ins_nil _ _ _ _) hL8 (by rw[insL_len];have:=HBF.out;omega) HR10.out.bel.size 55
       have HR11:Hid (Rr B (fun g o=>some (⟨ga,0,none⟩:Addr)=some ⟨g,0,none⟩∧w3.heap[g]? =some o) w w11 T (iS C1 who a b) F10' (.slice p11 n11 c11) (L++K8++K11)):=HR10.out.push hr11 hg11 hat11 hK11
       have HKL11:Hid (K11.length≤200):=by rw[Hid,len_map hk11,insL_len];exact HBF.out
       have HRUN:Hid ((Builtin.append_ #[55,55] 55 #[.slice p8 n8 c8,.slice p9 n9 c9]).run Tryz.prog w10=.ok (.slice p11 n11 c11) w11):=hrun11
       have HEE:Hid (rpE who p.size b (A.take j).reverse (iS C1 who a b)=rpE who p.size b A.reverse S):=by
        rw[Hid,HX3.out,if_neg (by simpa using hz)]
       have HLE:Hid ((L++K8++K11).map (·.1)++rpL who p.size b (A.take j).reverse (iS C1 who a b)=rpL who p.size b A.reverse S):=by
        rw[Hid,HX2.out,List.map_append,List.map_append,HK8.out,hk11];simp only[List.append_assoc]
       have HLN:Hid ((L++K8++K11).length≤400*(n-j)):=by
        rw[Hid,List.length_append,List.length_append]
        have g1:=HKL8.out;have g2:=HKL11.out;have g3:=HLL.out
        omega
       have HJ2:Hid (j≤n):=Nat.le_of_lt hjn
       clear hz hk11 hr11 hg11 hat11 hK11 hrun11 HX3 HX2 HR10 HXJ10 HXJ HR9 HXF
       go_wp2_with (at_builtin;refine Lib.wpList_append_run _ rfl (.tmp 97) (.tmp 98) 55 55 rfl (.slice p8 n8 c8) (.slice p9 n9 c9) rfl rfl (.slice p11 n11 c11) w11 HRUN.out ?_)
       go_roundw
       case rel=>exact⟨j,(j:Int)-1,_,F10',_,by go_num,rfl,HJ2,HR11,HEE,HLE,HLN⟩
       case measure=>first | (simp[intOf];done) | (simp[intOf];omega)
theorem rreplace_any (B:Nat→Prop) (E:Nat) (S:Dq) (F:Nat→Prop) (who:Int) (p b:ByteArray) (w:World) (h:RefAt B w E S F) (hp:p.size≤maxLen) (hb:b.size≤maxLen):
  Calls Tryz.prog 33 #[.pointer (some ⟨E,0,none⟩),.int .i64 who,.string p,.string b] w (RfPost w (repE S who p b) (repL S who p b)):=by
 cases hw:Pm.isWho who with
 | false=>exact rrep_who E S who p b w hw
 | true=>
  have h18:1≤who∧who≤8:=by simpa[Pm.isWho] using hw
  obtain⟨h1,h8⟩:=h18
  by_cases he:allE (Lf.textR S.book) p=0
  ·have h300:=textR_le h.inv
   unfold allE at he
   by_cases c1:300<(Lf.textR S.book).size∨200<p.size
   ·rw[if_pos c1] at he;exact absurd he (by decide)
   ·by_cases c2:p.size=0
    ·rw[if_neg c1,if_pos c2] at he;exact absurd he (by decide)
    ·exact rrep_go B E S F who p b w h hb h1 h8 (by omega) c2
  ·exact rrep_all B E S F who p b w h hp h1 h8 he
end F10
end Go.Proofs.YtlmdchpbpgcfmaaGreatDoor
