import Derived.Test.YtiamefgoeibhhaaGreatDoorA0
import Derived.Test.YtiamefgoeibhhaaGreatDoorU0
import Derived.Test.YtiamefgoeibhhaaGreatDoorJ13
import Derived.Test.YtiamefgoeibhhaaGreatDoorJ10
set_option linter.unusedVariables false
set_option maxRecDepth 100000
set_option maxHeartbeats 8000000
namespace Go.Proofs.YtiamefgoeibhhaaGreatDoor
namespace Hc
open Cm Om Hm Um Aa Ab Ja
abbrev Ev:=Int × Int × Int × Int
structure Nt where
 ds:List Dq
 us:List (Nat × ByteArray)
def nw (n:Nat):Nt:=⟨List.replicate n d0,[]⟩
def dq (N:Nt) (i:Nat):Dq:=N.ds.getD i d0
def isEd (k:Int):Bool:=decide (k=1)||(decide (k=2)||(decide (k=7)||decide (k=8)))
def isCo (k:Int):Bool:=decide (k=4)||(decide (k=5)||decide (k=6))
def oneT (c:Int):ByteArray:=⟨#[u8 c]⟩
def edE (S:Dq) (w:Int) (e:Ev):Int:=
 if e.1=1 then(if e.2.2.2<32∨126<e.2.2.2 then 1 else insE S w e.2.2.1 (oneT e.2.2.2))
 else if e.1=2 then(if e.2.2.1<0∨((seenP S.book).length:Int)≤e.2.2.1 then 1 else 0)
 else if e.1=7 then atE S w e.2.2.1 else fusE S w e.2.2.1
def edL (S:Dq) (w:Int) (e:Ev):List Ox:=
 if e.1=1 then insL S w e.2.2.1 (oneT e.2.2.2) else if e.1=2 then delL S w e.2.2.1 (e.2.2.1+1) else if e.1=7 then splL S w e.2.2.1 else fusL S w e.2.2.1
def packT (l:List Ox):ByteArray:=⟨(packB l).toArray⟩
abbrev out (n:Nat) (i:Int):Prop:=i<0∨(n:Int)≤i
def par (N:Nt) (e:Ev):Nat × ByteArray:=N.us.getD e.2.1.toNat (0,⟨#[]⟩)
def evE (N:Nt) (e:Ev):Int:=
 if isEd e.1=true then
  (if out N.ds.length e.2.1 then 1 else if edE (dq N e.2.1.toNat) (e.2.1+1) e≠0 then edE (dq N e.2.1.toNat) (e.2.1+1) e else runE (dq N e.2.1.toNat) (edL (dq N e.2.1.toNat) (e.2.1+1) e))
 else if e.1=3 then
  (if out N.ds.length e.2.1∨out N.ds.length e.2.2.1 then 1 else if e.2.1=e.2.2.1 then 3 else if 100≤N.us.length then 4 else 0)
 else if isCo e.1=true then
  (if out N.us.length e.2.1 then 1 else if e.1=6 then(if 100≤N.us.length then 4 else 0) else if e.1=5 then 0 else opnE (dq N (par N e).1) (par N e).2)
 else 1
def evS (N:Nt) (e:Ev):Nt:=
 if isEd e.1=true then
  (if out N.ds.length e.2.1 then N else if edE (dq N e.2.1.toNat) (e.2.1+1) e≠0 then N else{ N with ds:=N.ds.set e.2.1.toNat (runS (dq N e.2.1.toNat) (edL (dq N e.2.1.toNat) (e.2.1+1) e)) })
 else if e.1=3 then
  (if out N.ds.length e.2.1∨out N.ds.length e.2.2.1 then N else if e.2.1=e.2.2.1 then N else if 100≤N.us.length then N else{ N with us:=N.us++[(e.2.2.1.toNat,packT (lackL (dq N e.2.1.toNat).ops (dq N e.2.2.1.toNat).known))] })
 else if isCo e.1=true then
  (if out N.us.length e.2.1 then N else if e.1=6 then(if 100≤N.us.length then N else{ N with us:=N.us++[par N e] }) else if e.1=5 then{ N with us:=N.us.eraseIdx e.2.1.toNat } else⟨N.ds.set (par N e).1 (runS (dq N (par N e).1) (opnL (par N e).2)),N.us.eraseIdx e.2.1.toNat⟩)
 else N
def Gop (N:Nt) (o:Ox):Prop:=∃i,i<N.ds.length∧o ∈ (dq N i).ops
structure Gl (N:Nt):Prop where
 few:N.ds.length≤4
 inv:∀i,i<N.ds.length→Inv (dq N i)∧Ord (dq N i)
 par:∀p ∈ N.us,p.1<N.ds.length∧∀o ∈ opnL p.2,Gop N o
 who:∀o,Gop N o→1≤o.1.1∧o.1.1≤N.ds.length
 own:∀o,Gop N o→o ∈ (dq N (o.1.1-1).toNat).ops
 plc:∀o,Gop N o→o.2.1=1→Pm.whoOf o.2.2.1.toList=o.1.1
 ok:∀p ∈ N.us,(unpB p.2.toList).isSome=true
theorem ord_run:∀(L:List Ox) {S:Dq},Inv S→Ord S→Ord (runS S L)
 | [],S,I,O=>O
 | o::L,S,I,O=>by
  unfold runS
  split
  ·exact O
  ·exact ord_run L (inv_ap I) (ord_ap I O)
theorem run_old:∀(L:List Ox) {S:Dq} {x:Ox},x ∈ S.ops→x ∈ (runS S L).ops
 | [],S,x,h=>h
 | o::L,S,x,h=>by
  unfold runS
  split
  ·exact h
  ·exact run_old L (ops_ap h)
theorem run_of:∀(L:List Ox) {S:Dq} {x:Ox},x ∈ (runS S L).ops→x ∈ S.ops∨x ∈ L
 | [],S,x,h=>Or.inl h
 | o::L,S,x,h=>by
  unfold runS at h
  split at h
  ·exact Or.inl h
  ·rcases run_of L h with e | e
   ·rcases ap_ops e with e | e
    ·exact Or.inl e
    ·rw[e];exact Or.inr (List.mem_cons_self ..)
   ·exact Or.inr (List.mem_cons_of_mem _ e)
theorem dq_set {N:Nt} {i j:Nat} {S:Dq} (hi:i<N.ds.length) (us:List (Nat × ByteArray)):dq ⟨N.ds.set i S,us⟩ j=if j=i then S else dq N j:=by
 unfold dq
 rw[List.getD_eq_getElem?_getD,List.getD_eq_getElem?_getD]
 by_cases e:j=i
 ·rw[if_pos e,e,List.getElem?_set_self hi];rfl
 ·rw[if_neg e,List.getElem?_set_ne (fun h=>e h.symm)]
theorem Gl.take {N:Nt} (h:Gl N) {i:Nat} (hi:i<N.ds.length) {L:List Ox} (hL:∀o ∈ L,Gop N o) {us:List (Nat × ByteArray)} (hu:∀p ∈ us,p ∈ N.us):
  Gl ⟨N.ds.set i (runS (dq N i) L),us⟩∧(∀o,Gop ⟨N.ds.set i (runS (dq N i) L),us⟩ o↔Gop N o)∧∀j o,o ∈ (dq N j).ops→o ∈ (dq ⟨N.ds.set i (runS (dq N i) L),us⟩ j).ops:=by
 obtain⟨I,O⟩:=h.inv i hi
 have hlen:(⟨N.ds.set i (runS (dq N i) L),us⟩:Nt).ds.length=N.ds.length:=List.length_set
 have hup:∀j o,o ∈ (dq N j).ops→o ∈ (dq ⟨N.ds.set i (runS (dq N i) L),us⟩ j).ops:=fun j o ho=>by
  rw[dq_set hi]
  split
  ·rename_i e;rw[e] at ho;exact run_old L ho
  ·exact ho
 have hgo:∀o,Gop ⟨N.ds.set i (runS (dq N i) L),us⟩ o↔Gop N o:=fun o=>by
  constructor
  ·rintro⟨j,hj,hm⟩
   rw[hlen] at hj
   rw[dq_set hi] at hm
   split at hm
   ·rcases run_of L hm with e | e
    ·exact⟨i,hi,e⟩
    ·exact hL o e
   ·exact⟨j,hj,hm⟩
  ·rintro⟨j,hj,hm⟩
   exact⟨j,by rw[hlen];exact hj,hup j o hm⟩
 refine⟨⟨by rw[hlen];exact h.few,fun j hj=> ?_,fun p hp=>⟨by rw[hlen];exact(h.par p (hu p hp)).1,fun o ho=>(hgo o).2 ((h.par p (hu p hp)).2 o ho)⟩,fun o ho=>by rw[hlen];exact h.who o ((hgo o).1 ho),fun o ho=>hup _ o (h.own o ((hgo o).1 ho)),fun o ho=>h.plc o ((hgo o).1 ho),fun p hp=>h.ok p (hu p hp)⟩,hgo,hup⟩
 rw[dq_set hi]
 split
 ·exact⟨run_inv L I,ord_run L I O⟩
 ·exact h.inv j (by rw[hlen] at hj;exact hj)
theorem Gl.add {N:Nt} (h:Gl N) {i:Nat} (hi:i<N.ds.length) {o:Ox} (hn:isNew (dq N i) o=true) (hw:o.1.1=(i:Int)+1) (hp:o.2.1=1→Pm.whoOf o.2.2.1.toList=o.1.1):Gl ⟨N.ds.set i (apS (dq N i) o),N.us⟩:=by
 obtain⟨I,O⟩:=h.inv i hi
 have hlen:(⟨N.ds.set i (apS (dq N i) o),N.us⟩:Nt).ds.length=N.ds.length:=List.length_set
 have hops:(apS (dq N i) o).ops=(dq N i).ops++[o]:=by unfold apS;rw[hn,if_pos rfl];rfl
 have hup:∀j x,x ∈ (dq N j).ops→x ∈ (dq ⟨N.ds.set i (apS (dq N i) o),N.us⟩ j).ops:=fun j x hx=>by
  rw[dq_set hi]
  split
  ·rename_i e;rw[e] at hx;exact ops_ap hx
  ·exact hx
 have hgo:∀x,Gop ⟨N.ds.set i (apS (dq N i) o),N.us⟩ x→Gop N x∨x=o:=fun x=>by
  rintro⟨j,hj,hm⟩
  rw[hlen] at hj
  rw[dq_set hi] at hm
  split at hm
  ·rw[hops] at hm
   rcases List.mem_append.1 hm with e | e
   ·exact Or.inl ⟨i,hi,e⟩
   ·exact Or.inr (List.mem_singleton.1 e)
  ·exact Or.inl ⟨j,hj,hm⟩
 have hold:∀x,Gop N x→Gop ⟨N.ds.set i (apS (dq N i) o),N.us⟩ x:=fun x hx=>by
  obtain⟨j,hj,hm⟩:=hx
  exact⟨j,by rw[hlen];exact hj,hup j x hm⟩
 refine⟨by rw[hlen];exact h.few,fun j hj=> ?_,fun p hp9=>⟨by rw[hlen];exact(h.par p hp9).1,fun x hx=>hold x ((h.par p hp9).2 x hx)⟩,fun x hx=> ?_,fun x hx=> ?_,fun x hx hx1=> ?_,h.ok⟩
 ·rw[dq_set hi]
  split
  ·exact⟨inv_ap I,ord_ap I O⟩
  ·exact h.inv j (by rw[hlen] at hj;exact hj)
 ·rw[hlen]
  rcases hgo x hx with e | e
  ·exact h.who x e
  ·rw[e,hw];omega
 ·rcases hgo x hx with e | e
  ·exact hup _ x (h.own x e)
  ·rw[e,hw,show((i:Int)+1-1).toNat=i by omega,dq_set hi,if_pos rfl,hops]
   exact List.mem_append_right _ (List.mem_singleton.2 rfl)
 ·rcases hgo x hx with e | e
  ·exact h.plc x e hx1
  ·rw[e] at hx1 ⊢;exact hp hx1
theorem gl_nw {n:Nat} (hn:n≤4):Gl (nw n):=by
 have hd:∀i,dq (nw n) i=d0:=fun i=>by
  unfold dq nw
  rw[List.getD_eq_getElem?_getD,List.getElem?_replicate]
  split<;>rfl
 have hg:∀o,¬Gop (nw n) o:=fun o=>by
  rintro⟨i,_,hm⟩
  rw[hd] at hm
  cases hm
 exact⟨by unfold nw;rw[List.length_replicate];exact hn,fun i _=>by rw[hd];exact⟨inv_zero,ord_zero⟩,(fun p hp=>by cases hp),fun o ho=>absurd ho (hg o),fun o ho=>absurd ho (hg o),fun o ho=>absurd ho (hg o),(fun p hp=>by cases hp)⟩
theorem one_op {S:Dq} {o:Ox} (hk:kn S o.1.1+1=o.1.2):runS S [o]=S∨(isNew S o=true∧runS S [o]=apS S o):=by
 unfold runS
 by_cases h:apE S o=0
 ·rw[if_neg (by simpa using h)]
  exact Or.inr ⟨new_of hk h,rfl⟩
 ·rw[if_pos h];exact Or.inl rfl
theorem u8_let {c:Int} (h1:32≤c) (h2:c≤126):((u8 c).toNat:Int)=c:=u8_val (by omega) (by omega)
theorem one_list (c:Int):(oneT c).toList=[u8 c]:=toList_mk [u8 c]
theorem one_size (c:Int):(oneT c).size=1:=rfl
theorem edL_one {S:Dq} {w:Int} {e:Ev} (he:edE S w e=0):∃o,edL S w e=[o]∧o.1=(w,kn S w+1)∧(o.2.1=1→Pm.whoOf o.2.2.1.toList=w):=by
 unfold edE at he
 unfold edL
 by_cases h1:e.1=1
 ·rw[if_pos h1] at he ⊢
  split at he
  ·cases he
  ·have ok:=insE_zero.1 he
   refine⟨insO (leftP S.book e.2.2.1.toNat) (rightP S.book e.2.2.1.toNat) w (kn S w) (oneT e.2.2.2) 0,rfl, ?_,fun _=> ?_⟩
   ·show(w,kn S w+1+((0:Nat):Int))=_
    simp
   ·show Pm.whoOf (nthP _ _ w 1).toList=w
    have hr:rowE (leftP S.book e.2.2.1.toNat) (rightP S.book e.2.2.1.toNat) w 1=0:=ok.row
    exact(nth_chk hr (k:=0) (by omega)).whose
 ·rw[if_neg h1] at he ⊢
  by_cases h2:e.1=2
  ·rw[if_pos h2]
   refine⟨delO (delP S e.2.2.1 (e.2.2.1+1)) w (kn S w) 0, ?_, ?_,fun h=>by cases h⟩
   ·unfold delL
    rw[show(e.2.2.1+1-e.2.2.1).toNat=1 by omega]
    rfl
   ·show(w,kn S w+1+((0:Nat):Int))=_
    simp
  ·rw[if_neg h2]
   by_cases h7:e.1=7
   ·rw[if_pos h7]
    exact⟨_,rfl,rfl,fun h=>by cases h⟩
   ·rw[if_neg h7]
    exact⟨_,rfl,rfl,fun h=>by cases h⟩
theorem opn_pack {l:List Ox} (h:packE l=0):opnL (packT l)=l∧∀S,opnE S (packT l)=runE S l:=by
 have e:unpB (packT l).toList=some l:=by
  unfold packT
  rw[toList_mk]
  exact unpB_iff.2 ⟨h,rfl⟩
 have e1:opnL (packT l)=l:=by unfold opnL;rw[e];rfl
 refine⟨e1,fun S=> ?_⟩
 unfold opnE
 rw[e1,e];rfl
theorem pack_some {l:List Ox} (h:packE l=0):(unpB (packT l).toList).isSome=true:=by
 unfold packT;rw[toList_mk,unpB_iff.2 ⟨h,rfl⟩];rfl
theorem lack_pack {S:Dq} (I:Inv S) (v:List Int):packE (lackL S.ops v)=0:=
 packE_zero.2 ⟨Nat.le_trans (lack_len _ _) I.few,fun o ho=>I.right o (lack_mem ho)⟩
theorem Gl.ev {N:Nt} (h:Gl N) (e:Ev):Gl (evS N e)∧(evS N e).ds.length=N.ds.length:=by
 unfold evS
 split
 ·split
  ·exact⟨h,rfl⟩
  ·rename_i ha
   split
   ·exact⟨h,rfl⟩
   ·rename_i he
    have ha2:0≤e.2.1∧e.2.1<N.ds.length:=by unfold out at ha;omega
    have hi:e.2.1.toNat<N.ds.length:=by omega
    obtain⟨o,h1,h2,h3⟩:=edL_one (S:=dq N e.2.1.toNat) (w:=e.2.1+1) (e:=e) (by simpa using he)
    rw[h1]
    refine⟨?_,List.length_set⟩
    have hk:kn (dq N e.2.1.toNat) o.1.1+1=o.1.2:=by rw[h2]
    rcases one_op (S:=dq N e.2.1.toNat) hk with e9 | ⟨e8,e9⟩
    ·rw[e9]
     have:=h.take hi (L:=[]) (fun o ho=>by cases ho) (us:=N.us) (fun p hp=>hp)
     exact this.1
    ·rw[e9]
     exact h.add hi e8 (by rw[h2];show e.2.1+1=_;omega) (fun h9=>by rw[h3 h9,h2])
 ·split
  ·split
   ·exact⟨h,rfl⟩
   ·rename_i ha
    split
    ·exact⟨h,rfl⟩
    ·split
     ·exact⟨h,rfl⟩
     ·have ha2:(0≤e.2.1∧e.2.1<N.ds.length)∧0≤e.2.2.1∧e.2.2.1<N.ds.length:=by unfold out at ha;omega
      have hi:e.2.1.toNat<N.ds.length:=by omega
      refine⟨⟨h.few,h.inv,fun p hp=> ?_,h.who,h.own,h.plc,fun p hp=>(List.mem_append.1 hp).elim (h.ok p) (fun e=>by rw[List.mem_singleton.1 e];exact pack_some (lack_pack (h.inv _ hi).1 _))⟩,rfl⟩
      rcases List.mem_append.1 hp with hp | hp
      ·exact h.par p hp
      ·rw[List.mem_singleton.1 hp]
       refine⟨by show e.2.2.1.toNat<N.ds.length;omega,fun o ho=> ?_⟩
       have ho2:o ∈ opnL (packT (lackL (dq N e.2.1.toNat).ops (dq N e.2.2.1.toNat).known)):=ho
       rw[(opn_pack (lack_pack (h.inv _ hi).1 _)).1] at ho2
       exact⟨_,hi,lack_mem ho2⟩
  ·split
   ·split
    ·exact⟨h,rfl⟩
    ·rename_i ha
     have ha2:e.2.1.toNat<N.us.length:=by unfold out at ha;omega
     have hpm:Hc.par N e ∈ N.us:=by
      unfold Hc.par
      rw[List.getD_eq_getElem?_getD,List.getElem?_eq_getElem ha2]
      exact List.getElem_mem ha2
     split
     ·split
      ·exact⟨h,rfl⟩
      ·refine⟨⟨h.few,h.inv,fun p hp=> ?_,h.who,h.own,h.plc,fun p hp=>(List.mem_append.1 hp).elim (h.ok p) (fun e=>by rw[List.mem_singleton.1 e];exact h.ok _ hpm)⟩,rfl⟩
       rcases List.mem_append.1 hp with hp | hp
       ·exact h.par p hp
       ·rw[List.mem_singleton.1 hp];exact h.par _ hpm
     ·split
      ·exact⟨⟨h.few,h.inv,fun p hp=>h.par p (List.mem_of_mem_eraseIdx hp),h.who,h.own,h.plc,fun p hp=>h.ok p (List.mem_of_mem_eraseIdx hp)⟩,rfl⟩
      ·obtain⟨p1,p2⟩:=h.par _ hpm
       exact⟨(h.take p1 p2 (fun p hp=>List.mem_of_mem_eraseIdx hp)).1,List.length_set⟩
   ·exact⟨h,rfl⟩
end Hc
namespace Hd
open Go.ChangeShapes Go.WideShapes Go.ChangeAt Go.RowKit Cm Ka Kb Na Om Oa Oz Oc Og Oi Hm Ia Aa Hc
open La (bel bel_drew errV_zero errV_ne own_ge own_grow own_below Lies)
theorem Hid.mk' {p:Prop} (h:p):Hid p:=h
abbrev ptr (X:Nat):Value:=.pointer (some ⟨X,0,none⟩)
def sameB (N:Nt):Bool:=decide (∀i,i<N.ds.length→(dq N i).book=(dq N 0).book∧(dq N i).marks=(dq N 0).marks)
abbrev evV (e:Ev):Value:=.agg #[.int .i64 e.1,.int .i64 e.2.1,.int .i64 e.2.2.1,.int .i64 e.2.2.2]
structure NetSays where
 At:World→Nat→Nt→(Nat→Prop)→Prop
 und:World→Nat→Nat
 und_eq:∀{w:World} {X:Nat} {N:Nt} {F:Nat→Prop},At w X N F→und w X=N.us.length
 lt:∀{w:World} {X:Nat} {N:Nt} {F:Nat→Prop},At w X N F→∀g,F g→g<w.heap.size
 stay:∀{w w':World} {X:Nat} {N:Nt} {F:Nat→Prop},At w X N F→Stay F w w'→w.heap.size≤w'.heap.size→At w' X N F
 new:∀(n:Nat) (w:World),1≤n→n≤4→Calls Tryz.prog 11 #[.int .i64 n] w fun e w'=>∃X F,e=.returned (.tuple #[ptr X,.nilIface])∧At w' X (nw n) F∧(∀g,F g→w.heap.size≤g)∧Below w.heap.size w w'
 none:∀(n:Int) (w:World),(n<1∨4<n)→Calls Tryz.prog 11 #[.int .i64 n] w fun e w'=>e=.returned (.tuple #[.pointer none,errV 1])∧Below w.heap.size w w'
 does:∀(X:Nat) (N:Nt) (F:Nat→Prop) (e:Ev) (w:World),At w X N F→Gl N→N.us.length≤100→Calls Tryz.prog 49 #[ptr X,evV e] w fun r w'=>r=.returned (errV (evE N e))∧∃F',At w' X (evS N e) F'∧Chg F w w'∧∀g,F' g→F g∨w.heap.size≤g
structure NetUnder (L:NetSays):Prop where
 under:∀(X:Nat) (N:Nt) (F:Nat→Prop) (w:World),L.At w X N F→N.us.length≤100→Calls Tryz.prog 75 #[ptr X] w fun e w'=>e=.returned (.int .i64 N.us.length)∧Below w.heap.size w w'
structure NetSame (L:NetSays):Prop where
 same:∀(X:Nat) (N:Nt) (F:Nat→Prop) (w:World),L.At w X N F→Gl N→1≤N.ds.length→Calls Tryz.prog 83 #[ptr X] w fun e w'=>e=.returned (.bool (sameB N))∧Below w.heap.size w w'
structure NetText (L:NetSays):Prop where
 text:∀(X:Nat) (N:Nt) (F:Nat→Prop) (i:Int) (w:World),L.At w X N F→Gl N→Calls Tryz.prog 76 #[ptr X,.int .i64 i] w fun e w'=>e=.returned (.tuple #[.string (if out N.ds.length i then⟨#[]⟩ else Lf.textR (dq N i.toNat).book),errV (if out N.ds.length i then 1 else 0)])∧Below w.heap.size w w'
structure NetDoc (L:NetSays):Prop where
 doc:∀(X:Nat) (N:Nt) (F:Nat→Prop) (i:Nat) (w:World),L.At w X N F→i<N.ds.length→Calls Tryz.prog 77 #[ptr X,.int .i64 i] w fun e w'=>∃D Fd,e=.returned (.tuple #[ptr D,.nilIface])∧DocAt w' D (dq N i) Fd∧(∀g,Fd g→F g)∧Below w.heap.size w w'
structure Nc (L:NetSays) (w0 w:World) (X:Nat) (N:Nt):Prop where
 at':∃F,L.At w X N F∧∀g,F g→w0.heap.size≤g
 gl:Gl N
 few:N.us.length≤100
 bel:Below w0.heap.size w0 w
theorem us_ev {N:Nt} (h:N.us.length≤100) (e:Ev):(evS N e).us.length≤100:=by
 unfold evS
 split
 ·split
  ·exact h
  ·split<;>exact h
 ·split
  ·split
   ·exact h
   ·split
    ·exact h
    ·split
     ·exact h
     ·show(N.us++[_]).length≤100
      rw[List.length_append,List.length_singleton];omega
  ·split
   ·split
    ·exact h
    ·split
     ·split
      ·exact h
      ·show(N.us++[_]).length≤100
       rw[List.length_append,List.length_singleton];omega
     ·split
      ·exact Nat.le_trans (List.length_eraseIdx_le ..) h
      ·exact Nat.le_trans (List.length_eraseIdx_le ..) h
   ·exact h
def s1:Ev:=(3,0,1,0)
def d1:Ev:=(4,0,0,0)
end Hd
namespace Hi
open Go.ChangeShapes Go.WideShapes Go.ChangeAt Go.RowKit Cm Om Hm Ia Aa Hc
structure Kind where
 A:World→Nat→Dq→(Nat→Prop)→Prop
 lt:∀{w:World} {E:Nat} {S:Dq} {F:Nat→Prop},A w E S F→∀g,F g→g<w.heap.size
 stay:∀{w w':World} {E:Nat} {S:Dq} {F:Nat→Prop},A w E S F→Stay F w w'→w.heap.size≤w'.heap.size→A w' E S F
def docK:Kind:=⟨DocAt,fun h=>h.lt,fun h hs hz=>h.stay hs hz⟩
def upd {α :Type} (f:Nat→ α) (i:Nat) (x: α):Nat→ α :=fun j=>if j=i then x else f j
theorem upd_same {α :Type} (f:Nat→ α) (i:Nat) (x: α):upd f i x i=x:=by unfold upd;rw[if_pos rfl]
theorem upd_other {α :Type} (f:Nat→ α) {i j:Nat} (x: α) (h:j≠i):upd f i x j=f j:=by unfold upd;rw[if_neg h]
structure Rowd (K:Kind) (w:World) (n:Nat) (E:Nat→Nat) (S:Nat→Dq) (F:Nat→Nat→Prop):Prop where
 at':∀i,i<n→K.A w (E i) (S i) (F i)
 apart:∀i j,i<n→j<n→i≠j→∀g,F i g→¬F j g
theorem Rowd.none (K:Kind) (w:World) (E:Nat→Nat) (S:Nat→Dq) (F:Nat→Nat→Prop):Rowd K w 0 E S F:=⟨fun i hi=>absurd hi (Nat.not_lt_zero i),fun i _ hi=>absurd hi (Nat.not_lt_zero i)⟩
def All (n:Nat) (F:Nat→Nat→Prop) (g:Nat):Prop:=∃i,i<n∧F i g
theorem Rowd.lt {K:Kind} {w:World} {n:Nat} {E:Nat→Nat} {S:Nat→Dq} {F:Nat→Nat→Prop} (h:Rowd K w n E S F):∀g,All n F g→g<w.heap.size:=by
 rintro g ⟨i,hi,hg⟩
 exact K.lt (h.at' i hi) g hg
theorem Rowd.stay {K:Kind} {w w':World} {n:Nat} {E:Nat→Nat} {S:Nat→Dq} {F:Nat→Nat→Prop} (h:Rowd K w n E S F) (hs:Stay (All n F) w w') (hz:w.heap.size≤w'.heap.size):Rowd K w' n E S F:=
 ⟨fun i hi=>K.stay (h.at' i hi) (fun g hg=>hs g ⟨i,hi,hg⟩) hz,h.apart⟩
theorem Rowd.below {K:Kind} {w w':World} {n:Nat} {E:Nat→Nat} {S:Nat→Dq} {F:Nat→Nat→Prop} (h:Rowd K w n E S F) (hb:Below w.heap.size w w'):Rowd K w' n E S F:=h.stay (fun g hg=>hb.block g (h.lt g hg)) hb.size
theorem Rowd.turn {K:Kind} {w w':World} {n:Nat} {E:Nat→Nat} {S:Nat→Dq} {F:Nat→Nat→Prop} (h:Rowd K w n E S F) {i:Nat} (hi:i<n) {T:Dq} {G:Nat→Prop} (hA:K.A w' (E i) T G) (hc:Chg (F i) w w') (hG:∀g,G g→F i g∨w.heap.size≤g):Rowd K w' n E (upd S i T) (upd F i G):=by
 refine⟨fun j hj=> ?_,fun a b ha hb hab g=> ?_⟩
 ·by_cases e:j=i
  ·subst e;rw[upd_same,upd_same];exact hA
  ·rw[upd_other _ _ e,upd_other _ _ e]
   exact K.stay (h.at' j hj) (hc.stay fun g hg=>⟨K.lt (h.at' j hj) g hg,h.apart j i hj hi e g hg⟩) hc.size
 ·by_cases ea:a=i
  ·subst ea
   rw[upd_same,upd_other _ _ (Ne.symm hab)]
   intro hg hb2
   rcases hG g hg with e | e
   ·exact h.apart a b ha hb hab g e hb2
   ·have:=K.lt (h.at' b hb) g hb2;omega
  ·rw[upd_other _ _ ea]
   by_cases eb:b=i
   ·subst eb
    rw[upd_same]
    intro hg hb2
    rcases hG g hb2 with e | e
    ·exact h.apart a b ha hb hab g hg e
    ·have:=K.lt (h.at' a ha) g hg;omega
   ·rw[upd_other _ _ eb]
    exact h.apart a b ha hb hab g
theorem Rowd.turn_all {w:World} {n:Nat} {F:Nat→Nat→Prop} {i:Nat} (hi:i<n) {G:Nat→Prop} (hG:∀g,G g→F i g∨w.heap.size≤g):∀g,All n (upd F i G) g→All n F g∨w.heap.size≤g:=by
 rintro g ⟨j,hj,hg⟩
 by_cases e:j=i
 ·subst e
  rw[upd_same] at hg
  rcases hG g hg with e | e
  ·exact Or.inl ⟨j,hj,e⟩
  ·exact Or.inr e
 ·rw[upd_other _ _ e] at hg
  exact Or.inl ⟨j,hj,hg⟩
theorem Rowd.push {K:Kind} {w w':World} {n:Nat} {E:Nat→Nat} {S:Nat→Dq} {F:Nat→Nat→Prop} (h:Rowd K w n E S F) (hb:Below w.heap.size w w') {D:Nat} {T:Dq} {G:Nat→Prop} (hA:K.A w' D T G) (hG:∀g,G g→w.heap.size≤g):Rowd K w' (n+1) (upd E n D) (upd S n T) (upd F n G):=by
 have h':=h.below hb
 refine⟨fun j hj=> ?_,fun a b ha hb hab g=> ?_⟩
 ·by_cases e:j=n
  ·subst e;rw[upd_same,upd_same,upd_same];exact hA
  ·rw[upd_other _ _ e,upd_other _ _ e,upd_other _ _ e]
   exact h'.at' j (by omega)
 ·by_cases ea:a=n
  ·subst ea
   rw[upd_same,upd_other _ _ (Ne.symm hab)]
   intro hg hb2
   have:=hG g hg
   have:=K.lt (h.at' b (by omega)) g hb2;omega
  ·rw[upd_other _ _ ea]
   by_cases eb:b=n
   ·subst eb
    rw[upd_same]
    intro hg hb2
    have:=hG g hb2
    have:=K.lt (h.at' a (by omega)) g hg;omega
   ·rw[upd_other _ _ eb]
    exact h.apart a b (by omega) (by omega) hab g
theorem Rowd.same {K:Kind} {w:World} {n:Nat} {E E':Nat→Nat} {S T:Nat→Dq} {F:Nat→Nat→Prop} (h:Rowd K w n E S F) (he:∀i,i<n→E' i=E i) (hs:∀i,i<n→T i=S i):Rowd K w n E' T F:=
 ⟨fun i hi=>by rw[he i hi,hs i hi];exact h.at' i hi,h.apart⟩
end Hi
end Go.Proofs.YtiamefgoeibhhaaGreatDoor
