/- Package find: a copy of a doc; what Replace's closure does. -/
import Derived.Test.YtlmdchpbpgcfmaaGreatDoorF2
import Derived.Test.YtlmdchpbpgcfmaaGreatDoorF0
import Derived.Test.YtlmdchpbpgcfmaaGreatDoorAc
import Derived.Test.YtlmdchpbpgcfmaaGreatDoorU2
set_option linter.unusedSimpArgs false
set_option linter.unusedVariables false
set_option maxRecDepth 100000
set_option maxHeartbeats 8000000
namespace Go.Proofs.YtlmdchpbpgcfmaaGreatDoor
namespace F6
open Go.ChangeShapes Go.WideShapes Go.ChangeAt Go.RowKit Cm Ka Kb Na Om Oa Oz Oc Og Oi Hm Ia Ic Ie Ik Im Il Um Ua Ue Uq Fj Ac
open Bp (chk_size)
open La (bel errV_zero errV_ne own_below)
open Iq (run run_next RowL)
open F2 (ML)
/- ops that come to the doc whose ops they are -/
def Rep (S:Dq):Prop:=runE d0 S.ops=0∧runS d0 S.ops=S
theorem rep_zero:Rep d0:=⟨rfl,rfl⟩
theorem new_ap {S:Dq} {o:Ox} (h:isNew S o=true):apE S o=0:=by
 obtain⟨h1,h2,h3,h4⟩:=isNew_iff.1 h
 unfold apE
 rw[if_neg (by simpa using h1),if_neg (by omega),if_neg (by omega),if_neg (by omega)];exact h4
theorem rep_ap {S:Dq} (h:Rep S) (o:Ox):Rep (apS S o):=by
 cases hn:isNew S o with
 | false=>unfold apS;rw[hn,if_neg (by simp)];exact h
 | true=>
  have ho:=Iq.ops_new hn
  obtain⟨q1,q2⟩:=run_append S.ops [o] d0
  unfold Rep
  rw[ho,q1,q2,if_neg (by simpa using h.1),if_neg (by simpa using h.1),h.2]
  have e0:=new_ap hn
  exact⟨by simp[runE,e0],by simp[runS,e0]⟩
theorem rep_run (l:List Ox):∀k,k≤l.length→Rep (run l k)
 | 0,_=>rep_zero
 | k+1,h=>by rw[run_next (by omega)];exact rep_ap (rep_run l k (by omega)) _
/- a delete and an insert, done -/
def cE (E:Int) (C:Dq) (x:List Ox):Int:=if E≠0 then E else runE C x
theorem cE_zero {E:Int} {C:Dq} {x:List Ox}:cE E C x=0↔E=0∧runE C x=0:=by
 unfold cE
 by_cases h:E=0
 ·rw[if_neg (by simpa using h)];exact⟨fun e=>⟨h,e⟩,fun e=>e.2⟩
 ·rw[if_pos h];exact⟨fun e=>absurd e h,fun e=>absurd e.1 h⟩
def dE (C:Dq) (who:Int) (a n:Nat):Int:=cE (delE C who a ((a+n:Nat):Int)) C (delL C who a ((a+n:Nat):Int))
def dS (C:Dq) (who:Int) (a n:Nat):Dq:=runS C (delL C who a ((a+n:Nat):Int))
def iE (C:Dq) (who:Int) (a:Nat) (b:ByteArray):Int:=cE (insE C who a b) C (insL C who a b)
def iS (C:Dq) (who:Int) (a:Nat) (b:ByteArray):Dq:=runS C (insL C who a b)
theorem ifs (a b c d r:Int):(if a≠0 then a else if b≠0 then b else if c≠0 then c else if d≠0 then d else r)=if(if a≠0 then a else b)≠0 then(if a≠0 then a else b) else if(if c≠0 then c else d)≠0 then(if c≠0 then c else d) else r:=by
 by_cases ha:a=0<;>by_cases hb:b=0<;>by_cases hc:c=0<;>by_cases hd:d=0<;>simp[ha,hb,hc,hd]
theorem rpE_cons (who:Int) (n:Nat) (b:ByteArray) (a:Nat) (r:List Nat) (C:Dq):rpE who n b (a::r) C=if dE C who a n≠0 then dE C who a n else if iE (dS C who a n) who a b≠0 then iE (dS C who a n) who a b else rpE who n b r (iS (dS C who a n) who a b):=by
 rw[rpE];exact ifs _ _ _ _ _
theorem rpL_cons (who:Int) (n:Nat) (b:ByteArray) (a:Nat) (r:List Nat) (C:Dq):rpL who n b (a::r) C=delL C who a ((a+n:Nat):Int)++insL (dS C who a n) who a b++rpL who n b r (iS (dS C who a n) who a b):=rfl
theorem del_nil (S:Dq) (who a b:Int):∀x ∈ delL S who a b,x.2.2.2.2=[]:=by
 intro x hx
 unfold delL at hx
 obtain⟨k,_,rfl⟩:=List.mem_map.1 hx
 rfl
theorem ins_nil (S:Dq) (who off:Int) (t:ByteArray):∀x ∈ insL S who off t,x.2.2.2.2=[]:=by
 intro x hx
 unfold insL at hx
 obtain⟨k,_,rfl⟩:=List.mem_map.1 hx
 rfl
theorem del_max {S:Dq} (I:Inv S) (who a b:Int):∀x ∈ delL S who a b,x.2.2.1.size≤maxLen:=by
 intro x hx
 unfold delL at hx
 obtain⟨k,_,rfl⟩:=List.mem_map.1 hx
 show((delP S a b).getD k ⟨#[]⟩).size≤maxLen
 rw[List.getD_eq_getElem?_getD]
 cases hk:(delP S a b)[k]? with
 | none=>exact Nat.zero_le _
 | some p=>
  have hp:p ∈ seenP S.book:=by
   have h1:=List.mem_of_getElem? hk
   unfold delP at h1
   exact List.mem_of_mem_take (List.mem_of_mem_drop h1)
  obtain⟨y,hy,_,e⟩:=seenP_mem hp
  have:=chk_size (Bm.leafE_zero.1 ((Bm.bookE_zero.1 I.book).2.1 y hy)).1
  show p.size≤maxLen
  rw[←e];unfold maxLen;omega
theorem ins_max {S:Dq} {who off:Int} {t:ByteArray} (I:Inv S) (h:insE S who off t=0):∀x ∈ insL S who off t,x.2.2.1.size≤maxLen:=fun x hx=>by
 have:=small_ops I.book (insE_zero.1 h) x hx
 unfold maxLen;omega
theorem right_len {l:List Ox} (h:∀o ∈ l,opE o=0):∀x ∈ l,x.2.2.1.size≤maxLen:=fun x hx=>by
 have h3:=(opE_zero.1 (h x hx)).2.2.1
 by_cases h12:12<x.2.2.1.toList.length
 ·unfold Pm.chk at h3;rw[if_pos h12] at h3;cases h3
 ·rw[Om.len_eq] at h12
  unfold maxLen;omega
/- copyOf -/
def CpPost (w:World) (S:Dq) (e:Ending) (w':World):Prop:=∃T F,e=.returned (.tuple #[.pointer (some ⟨T,0,none⟩),.nilIface])∧DocAt w' T S F∧(∀g,F g→w.heap.size≤g)∧Below w.heap.size w w'
theorem copy_of (D:Nat) (S:Dq) (F:Nat→Prop) (w:World) (h:DocAt w D S F) (hR:Rep S):
  Calls Tryz.prog 75 #[.pointer (some ⟨D,0,none⟩)] w (CpPost w S):=by
 have HD:=z9 h
 have HR:=z9 hR
 have HSZ:=z9 (right_len h.inv.right)
 clear h hR
 go_enter Tryz.func75,Tryz.ntmps75
 go_wp2_with fail
 refine(new_any w).mono ?_
 rintro e w1 ⟨T,F1,rfl,hd1,hf1,hb1⟩
 have HD1:=z9 hd1
 have HB1:=z9 hb1
 have HF1:Hid (∀g,F1 g→w.heap.size≤g∧g<w1.heap.size):=fun g hg=>⟨hf1 g hg,hd1.lt g hg⟩
 clear hd1 hf1 hb1
 go_wp2_with fail
 refine(ops_get D S F w1 (HD.out.below HB1.out)).mono ?_
 rintro e w2 ⟨v2,rfl,hn2,hb2⟩
 have HB2:=z9 (bel HB1.out hb2)
 have CD:=do_any T d0 F1 _ v2 S.ops w2 (HD1.out.below hb2) (OpsG.new hn2) (fun g hg=>⟨hg.2,fun e=>by have:=(HF1.out g e).2;have:=hg.1;omega⟩) HSZ.out
 obtain⟨g2,L2,rfl,_⟩:=hn2
 clear hb2 HD1
 go_wp2_with fail
 refine CD.mono ?_
 rintro e w3 ⟨he,F3,hd3,hc3,hf3⟩
 rw[HR.out.1,errV_zero] at he
 rw[HR.out.2] at hd3
 subst he
 have HB3:=z9 (hc3.below (fun g hg=>(HF1.out g hg).1) HB2.out HB2.out.size)
 have HD3:=z9 hd3
 have HF3:Hid (∀g,F3 g→w.heap.size≤g):=fun g hg=>by
  rcases hf3 g hg with e | e
  ·exact(HF1.out g e).1
  ·exact Nat.le_trans HB2.out.size e
 clear CD hd3 hc3 hf3
 go_wp2_with fail
 go_ret2
 exact⟨T,F3,rfl,HD3.out,HF3.out,HB3.out⟩
/- between two edits of Replace: the doc on which they are tried, in its box; the ops, in theirs -/
structure Rp (w wr:World) (T bt bo:Nat) (C:Dq) (F:Nat→Prop) (vo:Value) (L:List (Ox × Value)):Prop where
 doc:DocAt wr T C F
 low:∀g,F g→w.heap.size≤g
 tb:wr.heap[bt]? =some (.cells #[.pointer (some ⟨T,0,none⟩)] 40)
 ob:wr.heap[bo]? =some (.cells #[vo] 55)
 tl:w.heap.size≤bt
 ol:w.heap.size≤bo
 row:RowL w.heap.size wr vo L
 nil:∀y ∈ L,y.1.2.2.2.2=[]∧DtsAt wr y.2 []
 offt:¬F bt
 offo:¬F bo
 offr:∀g,vo.ownBlock=some g→¬F g
 bel:Below w.heap.size w wr
theorem dts_nil {w w':World} {v:Value} (h:DtsAt w v []):DtsAt w' v []:=by
 obtain⟨p,c,h1,_,h3⟩:=h
 exact⟨p,c,h1,Or.inl rfl,h3⟩
theorem cells_ne {w:World} {a b:Nat} {c1 c2:Array Value} {t1 t2:TypeId} {f1 f2:Nat × Nat} (h1:w.heap[a]? =some (.cells c1 t1 f1)) (h2:w.heap[b]? =some (.cells c2 t2 f2)) (ht:t1≠t2):a≠b:=fun e=>by
 rw[e,h2] at h1
 injection h1 with h1
 injection h1 with _ h1 _
 exact ht h1.symm
section
variable {w wr w1 w2 w3 : World} {T bt bo : Nat} {C : Dq} {F : Nat → Prop} {vo : Value} {L : List (Ox × Value)}
theorem Rp.below (h:Rp w wr T bt bo C F vo L) (hb:Below wr.heap.size wr w1):Rp w w1 T bt bo C F vo L:=
 ⟨h.doc.below hb,h.low,by rw[hb.block bt (Array.getElem?_eq_some_iff.1 h.tb).1];exact h.tb,by rw[hb.block bo (Array.getElem?_eq_some_iff.1 h.ob).1];exact h.ob,h.tl,h.ol,own_below h.row hb,fun y hy=>⟨(h.nil y hy).1,dts_nil (h.nil y hy).2⟩,h.offt,h.offo,h.offr,La.bel h.bel hb⟩
theorem Rp.ne_r (h:Rp w wr T bt bo C F vo L):vo.ownBlock≠some bt∧vo.ownBlock≠some bo∧bt≠bo:=by
 refine⟨fun e=> ?_,fun e=> ?_,cells_ne h.tb h.ob (by decide)⟩
 ·obtain⟨_,cur,hc⟩:=own_lt h.row bt e
  exact cells_ne hc h.tb (by decide) rfl
 ·obtain⟨_,cur,hc⟩:=own_lt h.row bo e
  exact cells_ne hc h.ob (by decide) rfl
theorem Rp.lt (h:Rp w wr T bt bo C F vo L):bt<wr.heap.size∧bo<wr.heap.size∧(∀g,vo.ownBlock=some g→g<wr.heap.size)∧∀g,F g→g<wr.heap.size:=
 ⟨(Array.getElem?_eq_some_iff.1 h.tb).1,(Array.getElem?_eq_some_iff.1 h.ob).1,fun g hg=>(own_lt h.row g hg).1,h.doc.lt⟩
/- ops behind them, in the box -/
theorem Rp.push {v':Value} {K:List (Ox × Value)} (h:Rp w wr T bt bo C F vo L) (hown:w2.ownsRow w.heap.size 75 6 v' (L.length+K.length) (flatO L++flatO K)) (hg:wr.grownBy w2 vo.ownBlock) (hat:v'.ownBlock=vo.ownBlock∨v'.ownBlock=some wr.heap.size) (hK:∀y ∈ K,y.1.2.2.2.2=[]∧DtsAt wr y.2 []):
  Rp w (w2.setCell ⟨bo,0,none⟩ v') T bt bo C F v' (L++K):=by
 obtain⟨n1,n2,n3⟩:=h.ne_r
 obtain⟨l1,l2,l3,l4⟩:=h.lt
 have hb2:w2.heap[bo]? =some (.cells #[vo] 55):=by rw[hg.block bo l2 (fun e=>n2 e.symm)];exact h.ob
 have hst:∀g,g<wr.heap.size→some g≠vo.ownBlock→g≠bo→(w2.setCell ⟨bo,0,none⟩ v').heap[g]? =wr.heap[g]? :=fun g h1 h2 h3=>by
  rw[Oi.set_block _ _ _ _ (by exact h3)];exact hg.block g h1 h2
 have hvb:∀g,v'.ownBlock=some g→g≠bo:=fun g e=>by
  rcases hat with q | q
  ·intro e2;rw[q] at e;exact n2 (e2▸e)
  ·rw[q] at e;injection e with e;omega
 refine⟨h.doc.stay (fun g hg9=>hst g (l4 g hg9) (fun e=>h.offr g e.symm hg9) (fun e=>h.offo (e▸hg9))) (by rw[Ie.set_size];exact hg.size),h.low,by rw[hst bt l1 (fun e=>n1 e.symm) n3];exact h.tb,by rw[Ie.set_heap hb2];rfl,h.tl,h.ol, ?_, ?_,h.offt,h.offo, ?_, ?_⟩
 ·unfold RowL
  rw[List.length_append,flatO_append]
  exact own_stay hown fun g e=>Oi.set_block _ _ _ _ (by exact hvb g e)
 ·intro y hy
  rcases List.mem_append.1 hy with hy | hy
  ·exact⟨(h.nil y hy).1,dts_nil (h.nil y hy).2⟩
  ·exact⟨(hK y hy).1,dts_nil (hK y hy).2⟩
 ·intro g e hF
  rcases hat with q | q
  ·rw[q] at e;exact h.offr g e hF
  ·rw[q] at e;injection e with e;have:=l4 g hF;omega
 ·exact Chg.below (F:=fun g=>g=bo) ((Chg.refl (fun g=>g=bo) w2).setCell (p:=⟨bo,0,none⟩) rfl v') (fun g e=>by rw[e];exact h.ol) (h.bel.grown hg h.bel.size (fun g e=>La.own_ge h.row g e)) (Nat.le_trans h.bel.size hg.size)
/- the doc goes on -/
theorem Rp.go {C':Dq} {F':Nat→Prop} (h:Rp w wr T bt bo C F vo L) (hd:DocAt w1 T C' F') (hc:Chg F wr w1) (hf:∀g,F' g→F g∨wr.heap.size≤g):Rp w w1 T bt bo C' F' vo L:=by
 obtain⟨l1,l2,l3,l4⟩:=h.lt
 have off:∀g,g<wr.heap.size→¬F g→¬F' g:=fun g h1 h2 h3=>by
  rcases hf g h3 with e | e
  ·exact h2 e
  ·omega
 refine⟨hd,fun g hg=> ?_,by rw[hc.block bt l1 h.offt];exact h.tb,by rw[hc.block bo l2 h.offo];exact h.ob,h.tl,h.ol,own_stay h.row fun g hg=>hc.block g (l3 g hg) (h.offr g hg),fun y hy=>⟨(h.nil y hy).1,dts_nil (h.nil y hy).2⟩,off bt l1 h.offt,off bo l2 h.offo,fun g hg=>off g (l3 g hg) (h.offr g hg),hc.below h.low h.bel h.bel.size⟩
 rcases hf g hg with e | e
 ·exact h.low g e
 ·exact Nat.le_trans h.bel.size e
/- the ops as they lie at last -/
theorem Rp.ops (h:Rp w wr T bt bo C F vo L):OpsJ (New w.heap.size wr) (New w.heap.size wr) wr vo (L.map (·.1)):=
 OpsJ.own h.row fun y hy=>by
  obtain⟨h1,h2⟩:=h.nil y hy
  refine⟨by rw[h1];exact h2,fun a n c e hn=> ?_⟩
  obtain⟨p,c2,h3,_⟩:=h2
  rw[e] at h3
  injection h3 with _ h3 _
  simp at h3;omega
end
def DrPost (w wr:World) (T bt bo:Nat) (C:Dq) (L:List (Ox × Value)) (E:Int) (x:List Ox) (e:Ending) (w':World):Prop:=
 e=.returned (errV (cE E C x))∧(cE E C x=0→∃F' vo' K,K.map (·.1)=x∧Rp w w' T bt bo (runS C x) F' vo' (L++K))∧Below w.heap.size w w'
theorem try_err (w wr:World) (T bt bo:Nat) (C:Dq) (F:Nat→Prop) (vo:Value) (L:List (Ox × Value)) (E:Int) (x:List Ox) (v:Value) (h:Rp w wr T bt bo C F vo L) (hE:E≠0):
  Calls Tryz.prog 76 #[v,errV E,.pointer (some ⟨bo,0,none⟩),.pointer (some ⟨bt,0,none⟩)] wr (DrPost w wr T bt bo C L E x):=by
 have HE:Hid (cE E C x=E∧E≠0):=⟨by unfold cE;rw[if_pos hE],hE⟩
 have HB:=z9 h.bel
 rw[errV_ne hE]
 clear h hE
 go_enter Tryz.func76,Tryz.ntmps76
 go_wp2_with fail
 go_ret
 exact⟨by rw[HE.out.1,errV_ne HE.out.2];rfl,fun e=>absurd (HE.out.1.symm.trans e) HE.out.2,HB.out⟩
theorem try_ok (w wr:World) (T bt bo:Nat) (C:Dq) (F:Nat→Prop) (vo:Value) (L:List (Ox × Value)) (x:List Ox) (v:Value) (B1:Nat) (h:Rp w wr T bt bo C F vo L) (hL:L.length≤1000000) (ho:OpsNew B1 wr v x) (hB:bo<B1∧(∀g,vo.ownBlock=some g→g<B1)∧(∀g,F g→g<B1)) (hn:∀o ∈ x,o.2.2.2.2=[]) (hs:∀o ∈ x,o.2.2.1.size≤maxLen):
  Calls Tryz.prog 76 #[v,.nilIface,.pointer (some ⟨bo,0,none⟩),.pointer (some ⟨bt,0,none⟩)] wr (DrPost w wr T bt bo C L 0 x):=by
 obtain⟨i0,hi,hz0,hz1,hz2⟩:=info_parts Ii.infoO
 have HG:Hid (OpsG (fun g=>B1≤g∧g<wr.heap.size) wr v x):=OpsG.new ho
 obtain⟨g,K,rfl,hg,hK,hr,hl,hd⟩:=ho
 have HKX:Hid (K.map (·.1)=x):=hK
 have HKL:Hid (K.length=x.length):=by rw[Hid,←hK,List.length_map]
 have HKN:Hid (∀y ∈ K,y.1.2.2.2.2=[]∧DtsAt wr y.2 []):=fun y hy=>by
  have h9:y.1.2.2.2.2=[]:=hn y.1 (by rw[←hK];exact List.mem_map.2 ⟨y,hy,rfl⟩)
  have h8:=own_dts (hd y hy)
  rw[h9] at h8
  exact⟨h9,h8⟩
 have HKO:Hid (∀u ∈ flatO K,u.oneCell'=true):=Iq.flatO_one K fun y hy=>by
  obtain⟨p,c,e,_⟩:=(HKN.out y hy).2
  exact⟨p,_,c,e⟩
 have HCE:Hid (∀j u,(flatO K)[j]? =some u→wr.cell? ((⟨g,0,none⟩:Addr).add j)=some u):=fun j u hu=>by
  rw[Addr.add_lit,Nat.zero_add]
  obtain⟨cur,hc1,hc2,hc3⟩:=hr
  rw[←hc3] at hu
  have hu2:cur.toList[j]? =some u:=by
   rw[List.getElem?_take] at hu
   split at hu
   ·exact hu
   ·cases hu
  simp only[World.cell?,hc1]
  simpa using hu2
 have HFL:Hid ((flatO K).length=x.length*6):=by rw[Hid,flatO_length,HKL.out]
 have HH:Hid (Rp w wr T bt bo C F vo L):=h
 have HR:Hid (wr.ownsRow w.heap.size 75 6 vo L.length (flatO L)):=h.row
 have hbs:w.heap.size≤wr.heap.size:=h.bel.size
 have c0:=blk_cell h.ob (i:=0) (u:=vo) rfl
 have HB1:Hid (bo<B1∧(∀g,vo.ownBlock=some g→g<B1)∧(∀g,F g→g<B1)):=hB
 have HS:Hid (∀o ∈ x,o.2.2.1.size≤maxLen):=hs
 obtain⟨po,no,co,hvo,hno⟩:=own_shape h.row
 rw[hvo] at c0
 have HVO:Hid (vo=.slice po no co):=hvo
 obtain⟨n,hnn⟩:∃n,x.length=n:=⟨_,rfl⟩
 rw[hnn] at hl HFL ⊢
 have HNN:Hid (x.length=n):=hnn
 obtain⟨nL,hnL⟩:∃nL,L.length=nL:=⟨_,rfl⟩
 rw[hnL] at hL HR
 have HNL:Hid (L.length=nL):=hnL
 clear h hK hr hd hn hs hB hvo hno hnn hnL hg
 go_enter Tryz.func76,Tryz.ntmps76
 go_wp2_with (at_builtin;refine wpList_append_own_at _ rfl (.tmp 10) (.tmp 11) 55 rfl w.heap.size 75 i0 (.agg #[.int .i64 0,.int .i64 0,.int .i64 0,.string ⟨#[]⟩,.int .i64 0,.slice none 0 0]) 6 72 Tryz.underlying55 hi hz0 hz1 hz2 rfl (by decide) (.slice po no co) nL (flatO L) rfl (by rw[←HVO.out];exact HR.out) ⟨g,0,none⟩ n n (flatO K) rfl HFL.out HCE.out HKO.out (by unfold maxLen;omega) (by omega) hbs ?_;intro v9 w9 hown9 hg9 _ hat9;obtain⟨p9,n9,c9,rfl,_⟩:=own_shape hown9;have HP:Hid (Rp w (w9.setCell ⟨bo,0,none⟩ (.slice p9 n9 c9)) T bt bo C F (.slice p9 n9 c9) (L++K)):=HH.out.push (by rw[HNL.out,HKL.out,HNN.out];exact hown9) (by rw[HVO.out];exact hg9) (by rw[HVO.out];exact hat9) HKN.out;have HSG:Hid (OpsG (fun g=>B1≤g∧g<wr.heap.size) (w9.setCell ⟨bo,0,none⟩ (.slice p9 n9 c9)) (.slice (some ⟨g,0,none⟩) n n) x):=(by have h8:=HG.out;rw[HNN.out] at h8;exact h8.stay fun q hq=>by rw[Oi.set_block _ _ _ _ (by have:=HB1.out.1;have:=hq.1;show q≠bo;omega)];exact hg9.block q hq.2 (fun e=>by have:=HB1.out.2.1 q (by rw[HVO.out];exact e.symm);have:=hq.1;omega));have HSZ9:Hid (wr.heap.size≤(w9.setCell ⟨bo,0,none⟩ (.slice p9 n9 c9)).heap.size):=(by rw[Hid,Ie.set_size];exact hg9.size);have o9:w9.heap[bo]? =some (.cells #[.slice po no co] 55):=(by rw[hg9.block bo HH.out.lt.2.1 (fun e=>HH.out.ne_r.2.1 (by rw[HVO.out];exact e.symm))];rw[←HVO.out];exact HH.out.ob);have y0:=blk_cell o9 (i:=0) (u:=.slice po no co) rfl;have y1:=blk_free o9 (i:=0);have t9:=blk_cell HP.out.tb (i:=0) (u:=.pointer (some ⟨T,0,none⟩)) rfl;clear hown9 hg9 hat9 o9)
 refine(do_any T C F _ _ x _ HP.out.doc HSG.out (fun q hq=>⟨Nat.lt_of_lt_of_le hq.2 HSZ9.out,fun e=>by have:=HB1.out.2.2 q e;have:=hq.1;omega⟩) HS.out).mono ?_
 rintro e w5 ⟨he,F5,hd5,hc5,hf5⟩
 subst he
 have H5:Hid (Rp w w5 T bt bo (runS C x) F5 (.slice p9 n9 c9) (L++K)):=HP.out.go hd5 hc5 hf5
 obtain⟨ev,hev⟩:∃ev,ev=errV (runE C x):=⟨_,rfl⟩
 rw[←hev]
 have HEV:Hid (ev=errV (runE C x)):=hev
 clear hd5 hc5 hf5 hev
 go_wp2_with fail
 go_ret
 have e9:cE 0 C x=runE C x:=by unfold cE;rw[if_neg (by simp)]
 exact⟨by rw[e9,←HEV.out];rfl,fun _=>⟨F5,_,K,HKX.out,H5.out⟩,H5.out.bel⟩
end F6
end Go.Proofs.YtlmdchpbpgcfmaaGreatDoor
