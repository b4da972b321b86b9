import Derived.Test.YtlmdchpbpgcfmaaGreatDoorA0
import Derived.Test.YtlmdchpbpgcfmaaGreatDoorU0
import Derived.Test.YtlmdchpbpgcfmaaGreatDoorJ13
import Derived.Test.YtlmdchpbpgcfmaaGreatDoorJ10
set_option linter.unusedVariables false
set_option maxRecDepth 100000
set_option maxHeartbeats 8000000
/- Nets: plain mathematics: several docs, and parcels between them; what each event does; when each has sent to each, and all was taken, all have the same. No program is named here. -/
namespace Go.Proofs.YtlmdchpbpgcfmaaGreatDoor
namespace Hc
open Cm Om Hm Um Aa Ab Ja
abbrev Ev:=Int × Int × Int × Int
structure Nt where
 ds:List Dq
 us:List (Nat × ByteArray)
def nw (n:Nat):Nt:=⟨List.replicate n d0,[]⟩
def dq (N:Nt) (i:Nat):Dq:=N.ds.getD i d0
def isEd (k:Int):Bool:=decide (k=1)||(decide (k=2)||(decide (k=7)||decide (k=8)))
def isCo (k:Int):Bool:=decide (k=4)||(decide (k=5)||decide (k=6))
def oneT (c:Int):ByteArray:=⟨#[u8 c]⟩
/- an edit at a node: which error, which ops -/
def edE (S:Dq) (w:Int) (e:Ev):Int:=
 if e.1=1 then(if e.2.2.2<32∨126<e.2.2.2 then 1 else insE S w e.2.2.1 (oneT e.2.2.2))
 else if e.1=2 then(if e.2.2.1<0∨((seenP S.book).length:Int)≤e.2.2.1 then 1 else 0)
 else if e.1=7 then atE S w e.2.2.1 else fusE S w e.2.2.1
def edL (S:Dq) (w:Int) (e:Ev):List Ox:=
 if e.1=1 then insL S w e.2.2.1 (oneT e.2.2.2) else if e.1=2 then delL S w e.2.2.1 (e.2.2.1+1) else if e.1=7 then splL S w e.2.2.1 else fusL S w e.2.2.1
def packT (l:List Ox):ByteArray:=⟨(packB l).toArray⟩
abbrev out (n:Nat) (i:Int):Prop:=i<0∨(n:Int)≤i
def par (N:Nt) (e:Ev):Nat × ByteArray:=N.us.getD e.2.1.toNat (0,⟨#[]⟩)
def evE (N:Nt) (e:Ev):Int:=
 if isEd e.1=true then
  (if out N.ds.length e.2.1 then 1 else if edE (dq N e.2.1.toNat) (e.2.1+1) e≠0 then edE (dq N e.2.1.toNat) (e.2.1+1) e else runE (dq N e.2.1.toNat) (edL (dq N e.2.1.toNat) (e.2.1+1) e))
 else if e.1=3 then
  (if out N.ds.length e.2.1∨out N.ds.length e.2.2.1 then 1 else if e.2.1=e.2.2.1 then 3 else if 100≤N.us.length then 4 else 0)
 else if isCo e.1=true then
  (if out N.us.length e.2.1 then 1 else if e.1=6 then(if 100≤N.us.length then 4 else 0) else if e.1=5 then 0 else opnE (dq N (par N e).1) (par N e).2)
 else 1
def evS (N:Nt) (e:Ev):Nt:=
 if isEd e.1=true then
  (if out N.ds.length e.2.1 then N else if edE (dq N e.2.1.toNat) (e.2.1+1) e≠0 then N else{ N with ds:=N.ds.set e.2.1.toNat (runS (dq N e.2.1.toNat) (edL (dq N e.2.1.toNat) (e.2.1+1) e)) })
 else if e.1=3 then
  (if out N.ds.length e.2.1∨out N.ds.length e.2.2.1 then N else if e.2.1=e.2.2.1 then N else if 100≤N.us.length then N else{ N with us:=N.us++[(e.2.2.1.toNat,packT (lackL (dq N e.2.1.toNat).ops (dq N e.2.2.1.toNat).known))] })
 else if isCo e.1=true then
  (if out N.us.length e.2.1 then N else if e.1=6 then(if 100≤N.us.length then N else{ N with us:=N.us++[par N e] }) else if e.1=5 then{ N with us:=N.us.eraseIdx e.2.1.toNat } else⟨N.ds.set (par N e).1 (runS (dq N (par N e).1) (opnL (par N e).2)),N.us.eraseIdx e.2.1.toNat⟩)
 else N
/- an op that is known somewhere -/
def Gop (N:Nt) (o:Ox):Prop:=∃i,i<N.ds.length∧o ∈ (dq N i).ops
structure Gl (N:Nt):Prop where
 few:N.ds.length≤4
 inv:∀i,i<N.ds.length→Inv (dq N i)∧Ord (dq N i)
 par:∀p ∈ N.us,p.1<N.ds.length∧∀o ∈ opnL p.2,Gop N o
 who:∀o,Gop N o→1≤o.1.1∧o.1.1≤N.ds.length
 own:∀o,Gop N o→o ∈ (dq N (o.1.1-1).toNat).ops
 plc:∀o,Gop N o→o.2.1=1→Pm.whoOf o.2.2.1.toList=o.1.1
 ok:∀p ∈ N.us,(unpB p.2.toList).isSome=true
theorem Gl.right {N:Nt} (h:Gl N) {o:Ox} (ho:Gop N o):opE o=0:=by
 obtain⟨i,hi,hm⟩:=ho
 exact(h.inv i hi).1.right o hm
theorem Gl.uniq {N:Nt} (h:Gl N) {a b:Ox} (ha:Gop N a) (hb:Gop N b) (e:a.1=b.1):a=b:=by
 have h1:=h.own a ha
 have h2:=h.own b hb
 obtain⟨w1,w2⟩:=h.who a ha
 rw[←e] at h2
 exact dots_one (h.inv _ (by omega)).2 h1 h2 e
/- no two write another letter at one place -/
theorem Gl.clash {N : Nt} (h : Gl N) {i : Nat} (hi : i < N.ds.length) {o : Ox} (ho : Gop N o) : doE (dq N i) o ≠ 7 := by
  have h0 := h.right ho
  obtain ⟨I, O⟩ := h.inv i hi
  intro h7
  obtain ⟨e1, e2, e3, e4⟩ := opE_zero.1 h0
  have hw : Bm.withE (dq N i).book o.2.2.1 = 0 := Bm.withE_zero.2 ⟨I.book, e3⟩
  have hp : Bm.putE (dq N i).book o.2.2.1 ≠ 7 := by unfold Bm.putE; split <;> simp
  unfold doE at h7
  by_cases t1 : o.2.1 = 1
  · rw [if_pos t1] at h7
    unfold Bm.writeE Bm.wrE at h7
    have hl := (lawOf_zero.1 e4).1 t1
    have hL : Bm.isL o.2.2.2.1 = true := by unfold Bm.isL; simp; omega
    rw [if_neg (by simpa using hw), if_neg (by rw [hL]; decide)] at h7
    by_cases hc : Bm.clash (Bm.leafAt (dq N i).book o.2.2.1) o.2.2.2.1 = true
    · unfold Bm.clash at hc
      simp only [Bool.and_eq_true, bne_iff_ne, ne_eq] at hc
      obtain ⟨x, hx, x1, x2⟩ := I.wr' _ hc.1
      have hgx : Gop N x := ⟨i, hi, hx⟩
      have ex := h.plc x hgx x1
      have eo := h.plc o ho t1
      rw [x2] at ex
      have ew : x.1.1 = o.1.1 := by rw [← ex, ← eo]
      have hmx := h.own x hgx
      have hmo := h.own o ho
      rw [ew] at hmx
      obtain ⟨w1, w2⟩ := h.who o ho
      have J := (h.inv (o.1.1 - 1).toNat (by omega)).1
      have q1 := I.wr x hx x1
      have q2 := J.wr x hmx x1
      have q3 := J.wr o hmo t1
      rw [x2] at q1 q2
      exact hc.2 (by rw [q1, ← q2, q3])
    · rw [if_neg hc] at h7; exact hp h7
  · rw [if_neg t1] at h7
    by_cases t2 : o.2.1 = 2
    · rw [if_pos t2] at h7
      unfold Bm.strikeE at h7
      rw [if_neg (by simpa using hw)] at h7
      exact hp h7
    · rw [if_neg t2] at h7
      split at h7
      · split at h7
        · cases h7
        · unfold withM at h7
          split at h7
          · cases h7
          · split at h7
            · cases h7
            · cases h7
      · cases h7
theorem ord_run:∀(L:List Ox) {S:Dq},Inv S→Ord S→Ord (runS S L)
 | [],S,I,O=>O
 | o::L,S,I,O=>by
  unfold runS
  split
  ·exact O
  ·exact ord_run L (inv_ap I) (ord_ap I O)
theorem run_old:∀(L:List Ox) {S:Dq} {x:Ox},x ∈ S.ops→x ∈ (runS S L).ops
 | [],S,x,h=>h
 | o::L,S,x,h=>by
  unfold runS
  split
  ·exact h
  ·exact run_old L (ops_ap h)
theorem run_of:∀(L:List Ox) {S:Dq} {x:Ox},x ∈ (runS S L).ops→x ∈ S.ops∨x ∈ L
 | [],S,x,h=>Or.inl h
 | o::L,S,x,h=>by
  unfold runS at h
  split at h
  ·exact Or.inl h
  ·rcases run_of L h with e | e
   ·rcases ap_ops e with e | e
    ·exact Or.inl e
    ·rw[e];exact Or.inr (List.mem_cons_self ..)
   ·exact Or.inr (List.mem_cons_of_mem _ e)
theorem dq_set {N:Nt} {i j:Nat} {S:Dq} (hi:i<N.ds.length) (us:List (Nat × ByteArray)):dq ⟨N.ds.set i S,us⟩ j=if j=i then S else dq N j:=by
 unfold dq
 rw[List.getD_eq_getElem?_getD,List.getD_eq_getElem?_getD]
 by_cases e:j=i
 ·rw[if_pos e,e,List.getElem?_set_self hi];rfl
 ·rw[if_neg e,List.getElem?_set_ne (fun h=>e h.symm)]
/- a node takes ops that are known somewhere -/
theorem Gl.take {N:Nt} (h:Gl N) {i:Nat} (hi:i<N.ds.length) {L:List Ox} (hL:∀o ∈ L,Gop N o) {us:List (Nat × ByteArray)} (hu:∀p ∈ us,p ∈ N.us):
  Gl ⟨N.ds.set i (runS (dq N i) L),us⟩∧(∀o,Gop ⟨N.ds.set i (runS (dq N i) L),us⟩ o↔Gop N o)∧∀j o,o ∈ (dq N j).ops→o ∈ (dq ⟨N.ds.set i (runS (dq N i) L),us⟩ j).ops:=by
 obtain⟨I,O⟩:=h.inv i hi
 have hlen:(⟨N.ds.set i (runS (dq N i) L),us⟩:Nt).ds.length=N.ds.length:=List.length_set
 have hup:∀j o,o ∈ (dq N j).ops→o ∈ (dq ⟨N.ds.set i (runS (dq N i) L),us⟩ j).ops:=fun j o ho=>by
  rw[dq_set hi]
  split
  ·rename_i e;rw[e] at ho;exact run_old L ho
  ·exact ho
 have hgo:∀o,Gop ⟨N.ds.set i (runS (dq N i) L),us⟩ o↔Gop N o:=fun o=>by
  constructor
  ·rintro⟨j,hj,hm⟩
   rw[hlen] at hj
   rw[dq_set hi] at hm
   split at hm
   ·rcases run_of L hm with e | e
    ·exact⟨i,hi,e⟩
    ·exact hL o e
   ·exact⟨j,hj,hm⟩
  ·rintro⟨j,hj,hm⟩
   exact⟨j,by rw[hlen];exact hj,hup j o hm⟩
 refine⟨⟨by rw[hlen];exact h.few,fun j hj=> ?_,fun p hp=>⟨by rw[hlen];exact(h.par p (hu p hp)).1,fun o ho=>(hgo o).2 ((h.par p (hu p hp)).2 o ho)⟩,fun o ho=>by rw[hlen];exact h.who o ((hgo o).1 ho),fun o ho=>hup _ o (h.own o ((hgo o).1 ho)),fun o ho=>h.plc o ((hgo o).1 ho),fun p hp=>h.ok p (hu p hp)⟩,hgo,hup⟩
 rw[dq_set hi]
 split
 ·exact⟨run_inv L I,ord_run L I O⟩
 ·exact h.inv j (by rw[hlen] at hj;exact hj)
/- a node does an op of its own that is new -/
theorem Gl.add {N:Nt} (h:Gl N) {i:Nat} (hi:i<N.ds.length) {o:Ox} (hn:isNew (dq N i) o=true) (hw:o.1.1=(i:Int)+1) (hp:o.2.1=1→Pm.whoOf o.2.2.1.toList=o.1.1):Gl ⟨N.ds.set i (apS (dq N i) o),N.us⟩:=by
 obtain⟨I,O⟩:=h.inv i hi
 have hlen:(⟨N.ds.set i (apS (dq N i) o),N.us⟩:Nt).ds.length=N.ds.length:=List.length_set
 have hops:(apS (dq N i) o).ops=(dq N i).ops++[o]:=by unfold apS;rw[hn,if_pos rfl];rfl
 have hup:∀j x,x ∈ (dq N j).ops→x ∈ (dq ⟨N.ds.set i (apS (dq N i) o),N.us⟩ j).ops:=fun j x hx=>by
  rw[dq_set hi]
  split
  ·rename_i e;rw[e] at hx;exact ops_ap hx
  ·exact hx
 have hgo:∀x,Gop ⟨N.ds.set i (apS (dq N i) o),N.us⟩ x→Gop N x∨x=o:=fun x=>by
  rintro⟨j,hj,hm⟩
  rw[hlen] at hj
  rw[dq_set hi] at hm
  split at hm
  ·rw[hops] at hm
   rcases List.mem_append.1 hm with e | e
   ·exact Or.inl ⟨i,hi,e⟩
   ·exact Or.inr (List.mem_singleton.1 e)
  ·exact Or.inl ⟨j,hj,hm⟩
 have hold:∀x,Gop N x→Gop ⟨N.ds.set i (apS (dq N i) o),N.us⟩ x:=fun x hx=>by
  obtain⟨j,hj,hm⟩:=hx
  exact⟨j,by rw[hlen];exact hj,hup j x hm⟩
 refine⟨by rw[hlen];exact h.few,fun j hj=> ?_,fun p hp9=>⟨by rw[hlen];exact(h.par p hp9).1,fun x hx=>hold x ((h.par p hp9).2 x hx)⟩,fun x hx=> ?_,fun x hx=> ?_,fun x hx hx1=> ?_,h.ok⟩
 ·rw[dq_set hi]
  split
  ·exact⟨inv_ap I,ord_ap I O⟩
  ·exact h.inv j (by rw[hlen] at hj;exact hj)
 ·rw[hlen]
  rcases hgo x hx with e | e
  ·exact h.who x e
  ·rw[e,hw];omega
 ·rcases hgo x hx with e | e
  ·exact hup _ x (h.own x e)
  ·rw[e,hw,show((i:Int)+1-1).toNat=i by omega,dq_set hi,if_pos rfl,hops]
   exact List.mem_append_right _ (List.mem_singleton.2 rfl)
 ·rcases hgo x hx with e | e
  ·exact h.plc x e hx1
  ·rw[e] at hx1 ⊢;exact hp hx1
theorem gl_nw {n:Nat} (hn:n≤4):Gl (nw n):=by
 have hd:∀i,dq (nw n) i=d0:=fun i=>by
  unfold dq nw
  rw[List.getD_eq_getElem?_getD,List.getElem?_replicate]
  split<;>rfl
 have hg:∀o,¬Gop (nw n) o:=fun o=>by
  rintro⟨i,_,hm⟩
  rw[hd] at hm
  cases hm
 exact⟨by unfold nw;rw[List.length_replicate];exact hn,fun i _=>by rw[hd];exact⟨inv_zero,ord_zero⟩,(fun p hp=>by cases hp),fun o ho=>absurd ho (hg o),fun o ho=>absurd ho (hg o),fun o ho=>absurd ho (hg o),(fun p hp=>by cases hp)⟩
/- what an edit does: one op, or none -/
theorem one_op {S:Dq} {o:Ox} (hk:kn S o.1.1+1=o.1.2):runS S [o]=S∨(isNew S o=true∧runS S [o]=apS S o):=by
 unfold runS
 by_cases h:apE S o=0
 ·rw[if_neg (by simpa using h)]
  exact Or.inr ⟨new_of hk h,rfl⟩
 ·rw[if_pos h];exact Or.inl rfl
theorem u8_let {c:Int} (h1:32≤c) (h2:c≤126):((u8 c).toNat:Int)=c:=u8_val (by omega) (by omega)
theorem one_list (c:Int):(oneT c).toList=[u8 c]:=toList_mk [u8 c]
theorem one_size (c:Int):(oneT c).size=1:=rfl
theorem edL_one {S:Dq} {w:Int} {e:Ev} (he:edE S w e=0):∃o,edL S w e=[o]∧o.1=(w,kn S w+1)∧(o.2.1=1→Pm.whoOf o.2.2.1.toList=w):=by
 unfold edE at he
 unfold edL
 by_cases h1:e.1=1
 ·rw[if_pos h1] at he ⊢
  split at he
  ·cases he
  ·have ok:=insE_zero.1 he
   refine⟨insO (leftP S.book e.2.2.1.toNat) (rightP S.book e.2.2.1.toNat) w (kn S w) (oneT e.2.2.2) 0,rfl, ?_,fun _=> ?_⟩
   ·show(w,kn S w+1+((0:Nat):Int))=_
    simp
   ·show Pm.whoOf (nthP _ _ w 1).toList=w
    have hr:rowE (leftP S.book e.2.2.1.toNat) (rightP S.book e.2.2.1.toNat) w 1=0:=ok.row
    exact(nth_chk hr (k:=0) (by omega)).whose
 ·rw[if_neg h1] at he ⊢
  by_cases h2:e.1=2
  ·rw[if_pos h2]
   refine⟨delO (delP S e.2.2.1 (e.2.2.1+1)) w (kn S w) 0, ?_, ?_,fun h=>by cases h⟩
   ·unfold delL
    rw[show(e.2.2.1+1-e.2.2.1).toNat=1 by omega]
    rfl
   ·show(w,kn S w+1+((0:Nat):Int))=_
    simp
  ·rw[if_neg h2]
   by_cases h7:e.1=7
   ·rw[if_pos h7]
    exact⟨_,rfl,rfl,fun h=>by cases h⟩
   ·rw[if_neg h7]
    exact⟨_,rfl,rfl,fun h=>by cases h⟩
/- a parcel is read as it was -/
theorem opn_pack {l:List Ox} (h:packE l=0):opnL (packT l)=l∧∀S,opnE S (packT l)=runE S l:=by
 have e:unpB (packT l).toList=some l:=by
  unfold packT
  rw[toList_mk]
  exact unpB_iff.2 ⟨h,rfl⟩
 have e1:opnL (packT l)=l:=by unfold opnL;rw[e];rfl
 refine⟨e1,fun S=> ?_⟩
 unfold opnE
 rw[e1,e];rfl
theorem pack_some {l:List Ox} (h:packE l=0):(unpB (packT l).toList).isSome=true:=by
 unfold packT;rw[toList_mk,unpB_iff.2 ⟨h,rfl⟩];rfl
theorem lack_pack {S:Dq} (I:Inv S) (v:List Int):packE (lackL S.ops v)=0:=
 packE_zero.2 ⟨Nat.le_trans (lack_len _ _) I.few,fun o ho=>I.right o (lack_mem ho)⟩
/- every event -/
theorem Gl.ev {N:Nt} (h:Gl N) (e:Ev):Gl (evS N e)∧(evS N e).ds.length=N.ds.length:=by
 unfold evS
 split
 ·split
  ·exact⟨h,rfl⟩
  ·rename_i ha
   split
   ·exact⟨h,rfl⟩
   ·rename_i he
    have ha2:0≤e.2.1∧e.2.1<N.ds.length:=by unfold out at ha;omega
    have hi:e.2.1.toNat<N.ds.length:=by omega
    obtain⟨o,h1,h2,h3⟩:=edL_one (S:=dq N e.2.1.toNat) (w:=e.2.1+1) (e:=e) (by simpa using he)
    rw[h1]
    refine⟨?_,List.length_set⟩
    have hk:kn (dq N e.2.1.toNat) o.1.1+1=o.1.2:=by rw[h2]
    rcases one_op (S:=dq N e.2.1.toNat) hk with e9 | ⟨e8,e9⟩
    ·rw[e9]
     have:=h.take hi (L:=[]) (fun o ho=>by cases ho) (us:=N.us) (fun p hp=>hp)
     exact this.1
    ·rw[e9]
     exact h.add hi e8 (by rw[h2];show e.2.1+1=_;omega) (fun h9=>by rw[h3 h9,h2])
 ·split
  ·split
   ·exact⟨h,rfl⟩
   ·rename_i ha
    split
    ·exact⟨h,rfl⟩
    ·split
     ·exact⟨h,rfl⟩
     ·have ha2:(0≤e.2.1∧e.2.1<N.ds.length)∧0≤e.2.2.1∧e.2.2.1<N.ds.length:=by unfold out at ha;omega
      have hi:e.2.1.toNat<N.ds.length:=by omega
      refine⟨⟨h.few,h.inv,fun p hp=> ?_,h.who,h.own,h.plc,fun p hp=>(List.mem_append.1 hp).elim (h.ok p) (fun e=>by rw[List.mem_singleton.1 e];exact pack_some (lack_pack (h.inv _ hi).1 _))⟩,rfl⟩
      rcases List.mem_append.1 hp with hp | hp
      ·exact h.par p hp
      ·rw[List.mem_singleton.1 hp]
       refine⟨by show e.2.2.1.toNat<N.ds.length;omega,fun o ho=> ?_⟩
       have ho2:o ∈ opnL (packT (lackL (dq N e.2.1.toNat).ops (dq N e.2.2.1.toNat).known)):=ho
       rw[(opn_pack (lack_pack (h.inv _ hi).1 _)).1] at ho2
       exact⟨_,hi,lack_mem ho2⟩
  ·split
   ·split
    ·exact⟨h,rfl⟩
    ·rename_i ha
     have ha2:e.2.1.toNat<N.us.length:=by unfold out at ha;omega
     have hpm:Hc.par N e ∈ N.us:=by
      unfold Hc.par
      rw[List.getD_eq_getElem?_getD,List.getElem?_eq_getElem ha2]
      exact List.getElem_mem ha2
     split
     ·split
      ·exact⟨h,rfl⟩
      ·refine⟨⟨h.few,h.inv,fun p hp=> ?_,h.who,h.own,h.plc,fun p hp=>(List.mem_append.1 hp).elim (h.ok p) (fun e=>by rw[List.mem_singleton.1 e];exact h.ok _ hpm)⟩,rfl⟩
       rcases List.mem_append.1 hp with hp | hp
       ·exact h.par p hp
       ·rw[List.mem_singleton.1 hp];exact h.par _ hpm
     ·split
      ·exact⟨⟨h.few,h.inv,fun p hp=>h.par p (List.mem_of_mem_eraseIdx hp),h.who,h.own,h.plc,fun p hp=>h.ok p (List.mem_of_mem_eraseIdx hp)⟩,rfl⟩
      ·obtain⟨p1,p2⟩:=h.par _ hpm
       exact⟨(h.take p1 p2 (fun p hp=>List.mem_of_mem_eraseIdx hp)).1,List.length_set⟩
   ·exact⟨h,rfl⟩
/- nothing is forgotten -/
theorem ev_up {N:Nt} (h:Gl N) (e:Ev):∀j o,o ∈ (dq N j).ops→o ∈ (dq (evS N e) j).ops:=by
 intro j o ho
 unfold evS
 split
 ·split
  ·exact ho
  ·rename_i ha
   split
   ·exact ho
   ·have hi:e.2.1.toNat<N.ds.length:=by unfold out at ha;omega
    show o ∈ (dq ⟨N.ds.set e.2.1.toNat _,N.us⟩ j).ops
    rw[dq_set hi]
    split
    ·rename_i e9;rw[e9] at ho;exact run_old _ ho
    ·exact ho
 ·split
  ·split
   ·exact ho
   ·split
    ·exact ho
    ·split<;>exact ho
  ·split
   ·split
    ·exact ho
    ·rename_i ha
     have ha2:e.2.1.toNat<N.us.length:=by unfold out at ha;omega
     have hpm:Hc.par N e ∈ N.us:=by
      unfold Hc.par
      rw[List.getD_eq_getElem?_getD,List.getElem?_eq_getElem ha2]
      exact List.getElem_mem ha2
     split
     ·split<;>exact ho
     ·split
      ·exact ho
      ·rw[dq_set (h.par _ hpm).1]
       split
       ·rename_i e9;rw[e9] at ho;exact run_old _ ho
       ·exact ho
   ·exact ho
/- a letter stays at its place -/
theorem letter_up {S T:Dq} (I:Inv S) (J:Inv T) (hs:∀o ∈ S.ops,o ∈ T.ops) {p:ByteArray} (h:(Bm.leafAt S.book p).2.1≠0):(Bm.leafAt T.book p).2.1=(Bm.leafAt S.book p).2.1:=by
 obtain⟨o,ho,h1,h2⟩:=I.wr' p h
 have a:=I.wr o ho h1
 have b:=J.wr o (hs o ho) h1
 rw[h2] at a b
 rw[a,b]
/- a delivery's errors -/
theorem Gl.err {N:Nt} (h:Gl N) {i:Nat} (hi:i<N.ds.length) {o:Ox} (ho:Gop N o):apE (dq N i) o=0∨apE (dq N i) o=6∨apE (dq N i) o=4:=by
 have h0:=h.right ho
 unfold apE
 rw[if_neg (by simpa using h0)]
 split
 ·exact Or.inl rfl
 ·split
  ·exact Or.inr (Or.inl rfl)
  ·split
   ·exact Or.inr (Or.inr rfl)
   ·rcases doE_cases (h.inv i hi).1 h0 with e | e | e
    ·exact Or.inl e
    ·exact absurd e (h.clash hi ho)
    ·exact Or.inr (Or.inr e)
/- errors of ops that are known somewhere, one behind the other -/
theorem Gl.run_err {N:Nt}:∀(L:List Ox) (h:Gl N) {i:Nat} (hi:i<N.ds.length) (hL:∀o ∈ L,Gop N o),runE (dq N i) L=0∨runE (dq N i) L=6∨runE (dq N i) L=4
 | [],h,i,hi,_=>Or.inl rfl
 | o::L,h,i,hi,hL=>by
  have ho:=hL o (List.mem_cons_self ..)
  unfold runE
  by_cases h0:apE (dq N i) o=0
  ·rw[if_neg (by simpa using h0)]
   have ht:=h.take hi (L:=[o]) (fun x hx=>by rw[List.mem_singleton.1 hx];exact ho) (us:=N.us) (fun p hp=>hp)
   have e1:runS (dq N i) [o]=apS (dq N i) o:=by unfold runS;rw[if_neg (by simpa using h0)];rfl
   rw[e1] at ht
   have hlen:(⟨N.ds.set i (apS (dq N i) o),N.us⟩:Nt).ds.length=N.ds.length:=List.length_set
   have e2:dq ⟨N.ds.set i (apS (dq N i) o),N.us⟩ i=apS (dq N i) o:=by rw[dq_set hi,if_pos rfl]
   have:=Gl.run_err L ht.1 (i:=i) (by rw[hlen];exact hi) (fun x hx=>(ht.2.1 x).2 (hL x (List.mem_cons_of_mem _ hx)))
   rw[e2] at this
   exact this
  ·rw[if_pos h0]
   exact h.err hi ho
/- what a vector lacks comes in order: no op is ahead of it -/
theorem seq_lack:∀{l:List Ox} {k:Int→Int} {S:Dq},Inv S→Seq k l→(∀o ∈ l,opE o=0)→(∀o ∈ l,k o.1.1≤kn S o.1.1∨k o.1.1≤kn S o.1.1)→(∀o ∈ l,kn S o.1.1<100000)→runE S (l.filter fun o=> !decide (o.1.2≤kn S o.1.1))≠6
 | [],k,S,I,_,_,_,_=>by intro h;cases h
 | o::l,k,S,I,hq,hr,hk,hb=>by
  have ho:=hr o (List.mem_cons_self ..)
  obtain⟨d1,d2,d3,d4⟩:=dotE_iff.1 (opE_zero.1 ho).1
  have hk0:k o.1.1≤kn S o.1.1:=by rcases hk o (List.mem_cons_self ..) with e | e<;>exact e
  by_cases hle:o.1.2≤kn S o.1.1
  ·rw[List.filter_cons_of_neg (by simp[hle])]
   refine seq_lack I hq.2 (fun x hx=>hr x (List.mem_cons_of_mem _ hx)) (fun x hx=>Or.inl ?_) (fun x hx=>hb x (List.mem_cons_of_mem _ hx))
   unfold up
   split
   ·rename_i e;rw[e];exact hle
   ·rcases hk x (List.mem_cons_of_mem _ hx) with e | e<;>exact e
  ·rw[List.filter_cons_of_pos (by simp[hle])]
   have hn:kn S o.1.1+1=o.1.2:=by have:=hq.1;omega
   unfold runE
   by_cases h0:apE S o=0
   ·rw[if_neg (by simpa using h0)]
    have hnew:=new_of hn h0
    have hap:apS S o=next S o:=by unfold apS;rw[hnew,if_pos rfl]
    have hkn:∀w:Int,1≤w→w≤8→kn (apS S o) w=if w=o.1.1 then o.1.2 else kn S w:=fun w w1 w2=>by rw[hap];exact kn_next S o w I.klen w1 w2 d1 d2
    have hf:(l.filter fun x=> !decide (x.1.2≤kn S x.1.1))=l.filter fun x=> !decide (x.1.2≤kn (apS S o) x.1.1):=by
     refine List.filter_congr fun x hx=> ?_
     obtain⟨x1,x2,x3,x4⟩:=dotE_iff.1 (opE_zero.1 (hr x (List.mem_cons_of_mem _ hx))).1
     rw[hkn x.1.1 x1 x2]
     have hgt:=seq_mono hq.2 x hx
     unfold up at hgt
     split
     ·rename_i e
      rw[if_pos e] at hgt
      rw[e,decide_eq_false (by omega),decide_eq_false (by omega)]
     ·rfl
    rw[hf]
    refine seq_lack (inv_ap I) hq.2 (fun x hx=>hr x (List.mem_cons_of_mem _ hx)) (fun x hx=>Or.inl ?_) (fun x hx=> ?_)
    ·obtain⟨x1,x2,x3,x4⟩:=dotE_iff.1 (opE_zero.1 (hr x (List.mem_cons_of_mem _ hx))).1
     rw[hkn x.1.1 x1 x2]
     unfold up
     split
     ·exact Int.le_refl _
     ·rcases hk x (List.mem_cons_of_mem _ hx) with e | e<;>exact e
    ·obtain⟨x1,x2,x3,x4⟩:=dotE_iff.1 (opE_zero.1 (hr x (List.mem_cons_of_mem _ hx))).1
     rw[hkn x.1.1 x1 x2]
     split
     ·omega
     ·exact hb x (List.mem_cons_of_mem _ hx)
   ·rw[if_pos h0]
    intro h6
    unfold apE at h6
    rw[if_neg (by simpa using ho),if_neg (by omega),if_neg (by omega)] at h6
    split at h6
    ·cases h6
    ·rcases doE_cases I ho with e | e | e<;>rw[e] at h6<;>cases h6
theorem kn_small {S:Dq} (I:Inv S) {u:Int} (h1:1≤u) (h8:u≤8):0≤kn S u∧kn S u<100000:=by
 have h2:=I.kno u h1 h8
 have h3:=I.few
 have h4:=List.length_filter_le (fun o:Ox=>decide (o.1.1=u)) S.ops
 omega
/- what one has that the other one lacks: it is taken, or there is no room -/
theorem b1_err {N:Nt} (h:Gl N) {i j:Nat} (hi:i<N.ds.length) (hj:j<N.ds.length):b1E (dq N i) (dq N j)=0∨b1E (dq N i) (dq N j)=4:=by
 obtain⟨I,O⟩:=h.inv i hi
 obtain⟨J,P⟩:=h.inv j hj
 have h1:=Gl.run_err (lackL (dq N i).ops (dq N j).known) h hj (fun o ho=>⟨i,hi,lack_mem ho⟩)
 have h6:runE (dq N j) (lackL (dq N i).ops (dq N j).known)≠6:=by
  refine seq_lack J O.seq (fun o ho=>I.right o ho) (fun o ho=>Or.inl ?_) (fun o ho=> ?_)
  ·obtain⟨d1,d2,_,_⟩:=dotE_iff.1 (opE_zero.1 (I.right o ho)).1
   exact(kn_small J d1 d2).1
  ·obtain⟨d1,d2,_,_⟩:=dotE_iff.1 (opE_zero.1 (I.right o ho)).1
   exact(kn_small J d1 d2).2
 unfold b1E
 rcases h1 with e | e | e
 ·exact Or.inl e
 ·exact absurd e h6
 ·exact Or.inr e
/- one sends, it comes at once -/
def pair (N:Nt) (i j:Nat):Nt:=⟨N.ds.set j (b1S (dq N i) (dq N j)),[]⟩
theorem pair_ev {N:Nt} (h:Gl N) (hu:N.us=[]) {i j:Nat} (hi:i<N.ds.length) (hj:j<N.ds.length) (hij:i≠j):
  evE N (3,i,j,0)=0∧(evS N (3,i,j,0)).us.length=1∧evE (evS N (3,i,j,0)) (4,0,0,0)=b1E (dq N i) (dq N j)∧evS (evS N (3,i,j,0)) (4,0,0,0)=pair N i j:=by
 have o1:¬out N.ds.length (i:Int):=by unfold out;omega
 have o2:¬out N.ds.length (j:Int):=by unfold out;omega
 have o3:¬(out N.ds.length (i:Int)∨out N.ds.length (j:Int)):=fun e=>e.elim o1 o2
 have hne:¬(i:Int)=(j:Int):=by omega
 have hul:¬100≤N.us.length:=by rw[hu];decide
 have es:evS N (3,i,j,0)=⟨N.ds,[(j,packT (lackL (dq N i).ops (dq N j).known))]⟩:=by
  unfold evS
  show(if isEd 3=true then _ else if(3:Int)=3 then _ else _)=_
  rw[if_neg (by decide),if_pos rfl,if_neg o3,if_neg hne,if_neg hul,hu]
  rfl
 obtain⟨p1,p2⟩:=opn_pack (lack_pack (h.inv i hi).1 (dq N j).known)
 refine⟨?_,by rw[es];rfl, ?_, ?_⟩
 ·unfold evE
  show(if isEd 3=true then _ else if(3:Int)=3 then _ else _)=_
  rw[if_neg (by decide),if_pos rfl,if_neg o3,if_neg hne,if_neg hul]
 ·rw[es]
  unfold evE
  show(if isEd 4=true then _ else if(4:Int)=3 then _ else if isCo 4=true then _ else _)=_
  rw[if_neg (by decide),if_neg (by decide),if_pos (by decide),if_neg (by unfold out;show¬((0:Int)<0∨((1:Nat):Int)≤0);omega),if_neg (by decide),if_neg (by decide)]
  show opnE (dq N j) (packT (lackL (dq N i).ops (dq N j).known))=_
  rw[p2];rfl
 ·rw[es]
  unfold evS
  show(if isEd 4=true then _ else if(4:Int)=3 then _ else if isCo 4=true then _ else _)=_
  rw[if_neg (by decide),if_neg (by decide),if_pos (by decide),if_neg (by unfold out;show¬((0:Int)<0∨((1:Nat):Int)≤0);omega),if_neg (by decide),if_neg (by decide)]
  show(⟨N.ds.set j (runS (dq N j) (opnL (packT (lackL (dq N i).ops (dq N j).known)))),[]⟩:Nt)=_
  rw[p1];rfl
structure Pr (N M:Nt) (i j:Nat):Prop where
 gl:Gl M
 us:M.us=[]
 len:M.ds.length=N.ds.length
 gop:∀o,Gop M o↔Gop N o
 up:∀k o,o ∈ (dq N k).ops→o ∈ (dq M k).ops
 has:b1E (dq N i) (dq N j)=0→∀o ∈ (dq N i).ops,o ∈ (dq M j).ops
theorem pair_pr {N:Nt} (h:Gl N) {i j:Nat} (hi:i<N.ds.length) (hj:j<N.ds.length):Pr N (pair N i j) i j:=by
 obtain⟨t1,t2,t3⟩:=h.take hj (L:=lackL (dq N i).ops (dq N j).known) (fun o ho=>⟨i,hi,lack_mem ho⟩) (us:=[]) (fun p hp=>by cases hp)
 refine⟨t1,rfl,List.length_set,t2,t3,fun h0 o ho=> ?_⟩
 obtain⟨J,P⟩:=h.inv j hj
 obtain⟨r1,r2,r3,r4,r5⟩:=b1_ran (h.inv i hi).1 J P h0
 have hk:=r3 o ho
 obtain⟨d1,d2,d3,d4⟩:=dotE_iff.1 (opE_zero.1 ((h.inv i hi).1.right o ho)).1
 obtain⟨x,hx,ex⟩:=ord_all r2 ⟨d1,d2⟩ d3 hk
 have e:dq (pair N i j) j=b1S (dq N i) (dq N j):=by unfold pair;rw[dq_set hj,if_pos rfl]
 rw[e]
 have hgx:Gop N x:=by
  rcases r5 x hx with e9 | e9
  ·exact⟨i,hi,e9⟩
  ·exact⟨j,hj,e9⟩
 rw[←h.uniq hgx ⟨i,hi,ho⟩ ex]
 exact hx
/- all have all -/
theorem all_same {N:Nt} (h:Gl N) (ha:∀j,j<N.ds.length→∀o,Gop N o→o ∈ (dq N j).ops) {i j:Nat} (hi:i<N.ds.length) (hj:j<N.ds.length):(dq N i).book=(dq N j).book∧(dq N i).marks=(dq N j).marks∧(dq N i).known=(dq N j).known:=by
 obtain⟨I,O⟩:=h.inv i hi
 obtain⟨J,P⟩:=h.inv j hj
 have nd:∀{S:Dq},Ord S→S.ops.Nodup:=fun O=>(List.pairwise_map.1 (seq_nodup O.seq)).imp (fun h e=>h (by rw[e]))
 exact meet I J ((List.perm_ext_iff_of_nodup (nd O) (nd P)).2 fun o=>⟨fun ho=>ha j hj o ⟨i,hi,ho⟩,fun ho=>ha i hi o ⟨j,hj,ho⟩⟩)
/- each of the first a nodes has sent to each, and the next one to the first b: what all have -/
structure Sent (N0 N:Nt) (a b:Nat):Prop where
 gl:Gl N
 us:N.us=[]
 len:N.ds.length=N0.ds.length
 gop:∀o,Gop N o↔Gop N0 o
 all:∀o,Gop N0 o→o.1.1≤a→∀j,j<N.ds.length→o ∈ (dq N j).ops
 some:∀o,Gop N0 o→o.1.1=(a:Int)+1→∀j,j<b→j<N.ds.length→o ∈ (dq N j).ops
theorem Sent.start {N:Nt} (h:Gl N) (hu:N.us=[]):Sent N N 0 0:=
 ⟨h,hu,rfl,fun o=>Iff.rfl,fun o ho e=>by have:=(h.who o ho).1;omega,fun o ho e j hj=>by omega⟩
theorem Sent.pair {N0 N:Nt} {a b:Nat} (s:Sent N0 N a b) (ha:a<N.ds.length) (hb:b<N.ds.length) (h0:b1E (dq N a) (dq N b)=0):Sent N0 (Hc.pair N a b) a (b+1):=by
 have p:=pair_pr s.gl ha hb
 refine⟨p.gl,p.us,p.len.trans s.len,fun o=>(p.gop o).trans (s.gop o),fun o ho e j hj=>p.up j o (s.all o ho e j (by rw[←p.len];exact hj)),fun o ho e j hj hjl=> ?_⟩
 rw[p.len] at hjl
 by_cases hjb:j<b
 ·exact p.up j o (s.some o ho e j hjb hjl)
 ·obtain rfl:j=b:=by omega
  have hown:=s.gl.own o ((s.gop o).2 ho)
  rw[show(o.1.1-1).toNat=a by omega] at hown
  exact p.has h0 o hown
theorem Sent.skip {N0 N:Nt} {a:Nat} (s:Sent N0 N a a):Sent N0 N a (a+1):=
 ⟨s.gl,s.us,s.len,s.gop,s.all,fun o ho e j hj hjl=>by
  by_cases hja:j<a
  ·exact s.some o ho e j hja hjl
  ·obtain rfl:j=a:=by omega
   have hown:=s.gl.own o ((s.gop o).2 ho)
   rwa [show(o.1.1-1).toNat=j by omega] at hown⟩
theorem Sent.next {N0 N:Nt} {a b:Nat} (s:Sent N0 N a b) (hb:N.ds.length≤b):Sent N0 N (a+1) 0:=
 ⟨s.gl,s.us,s.len,s.gop,fun o ho e j hj=>by
  by_cases ha:o.1.1≤a
  ·exact s.all o ho ha j hj
  ·exact s.some o ho (by omega) j (by omega) hj,fun o ho e j hj=>by omega⟩
theorem Sent.same {N0 N:Nt} {a b:Nat} (s:Sent N0 N a b) (ha:N.ds.length≤a) {i j:Nat} (hi:i<N.ds.length) (hj:j<N.ds.length):(dq N i).book=(dq N j).book∧(dq N i).marks=(dq N j).marks∧(dq N i).known=(dq N j).known:=
 all_same s.gl (fun k hk o ho=>s.all o ((s.gop o).1 ho) (by have h1:=(s.gl.who o ho).2;omega) k hk) hi hj
end Hc
end Go.Proofs.YtlmdchpbpgcfmaaGreatDoor
/- What the laws ask of package net: a net in memory, and each call's answer, at all inputs. -/
namespace Go.Proofs.YtlmdchpbpgcfmaaGreatDoor
namespace Hd
open Go.ChangeShapes Go.WideShapes Go.ChangeAt Go.RowKit Cm Ka Kb Na Om Oa Oz Oc Og Oi Hm Ia Aa Hc
open La (bel bel_drew errV_zero errV_ne own_ge own_grow own_below Lies)
theorem Hid.mk' {p:Prop} (h:p):Hid p:=h
abbrev ptr (X:Nat):Value:=.pointer (some ⟨X,0,none⟩)
/- have all the same book, and marks? -/
def sameB (N:Nt):Bool:=decide (∀i,i<N.ds.length→(dq N i).book=(dq N 0).book∧(dq N i).marks=(dq N 0).marks)
abbrev evV (e:Ev):Value:=.agg #[.int .i64 e.1,.int .i64 e.2.1,.int .i64 e.2.2.1,.int .i64 e.2.2.2]
structure NetSays where
 At:World→Nat→Nt→(Nat→Prop)→Prop
 und:World→Nat→Nat
 und_eq:∀{w:World} {X:Nat} {N:Nt} {F:Nat→Prop},At w X N F→und w X=N.us.length
 lt:∀{w:World} {X:Nat} {N:Nt} {F:Nat→Prop},At w X N F→∀g,F g→g<w.heap.size
 stay:∀{w w':World} {X:Nat} {N:Nt} {F:Nat→Prop},At w X N F→Stay F w w'→w.heap.size≤w'.heap.size→At w' X N F
 new:∀(n:Nat) (w:World),1≤n→n≤4→Calls Tryz.prog 7 #[.int .i64 n] w fun e w'=>∃X F,e=.returned (.tuple #[ptr X,.nilIface])∧At w' X (nw n) F∧(∀g,F g→w.heap.size≤g)∧Below w.heap.size w w'
 none:∀(n:Int) (w:World),(n<1∨4<n)→Calls Tryz.prog 7 #[.int .i64 n] w fun e w'=>e=.returned (.tuple #[.pointer none,errV 1])∧Below w.heap.size w w'
 does:∀(X:Nat) (N:Nt) (F:Nat→Prop) (e:Ev) (w:World),At w X N F→Gl N→N.us.length≤100→Calls Tryz.prog 8 #[ptr X,evV e] w fun r w'=>r=.returned (errV (evE N e))∧∃F',At w' X (evS N e) F'∧Chg F w w'∧∀g,F' g→F g∨w.heap.size≤g
/- what one law asks, and another one does not -/
structure NetUnder (L:NetSays):Prop where
 under:∀(X:Nat) (N:Nt) (F:Nat→Prop) (w:World),L.At w X N F→N.us.length≤100→Calls Tryz.prog 10 #[ptr X] w fun e w'=>e=.returned (.int .i64 N.us.length)∧Below w.heap.size w w'
structure NetSame (L:NetSays):Prop where
 same:∀(X:Nat) (N:Nt) (F:Nat→Prop) (w:World),L.At w X N F→Gl N→1≤N.ds.length→Calls Tryz.prog 9 #[ptr X] w fun e w'=>e=.returned (.bool (sameB N))∧Below w.heap.size w w'
structure NetText (L:NetSays):Prop where
 text:∀(X:Nat) (N:Nt) (F:Nat→Prop) (i:Int) (w:World),L.At w X N F→Gl N→Calls Tryz.prog 12 #[ptr X,.int .i64 i] w fun e w'=>e=.returned (.tuple #[.string (if out N.ds.length i then⟨#[]⟩ else Lf.textR (dq N i.toNat).book),errV (if out N.ds.length i then 1 else 0)])∧Below w.heap.size w w'
structure NetDoc (L:NetSays):Prop where
 doc:∀(X:Nat) (N:Nt) (F:Nat→Prop) (i:Nat) (w:World),L.At w X N F→i<N.ds.length→Calls Tryz.prog 14 #[ptr X,.int .i64 i] w fun e w'=>∃D Fd,e=.returned (.tuple #[ptr D,.nilIface])∧DocAt w' D (dq N i) Fd∧(∀g,Fd g→F g)∧Below w.heap.size w w'
theorem NetSays.below (L:NetSays) {w w':World} {X:Nat} {N:Nt} {F:Nat→Prop} (h:L.At w X N F) (hb:Below w.heap.size w w'):L.At w' X N F:=L.stay h (fun g hg=>hb.block g (L.lt h g hg)) hb.size
/- one net, from block B on -/
structure Nc (L:NetSays) (w0 w:World) (X:Nat) (N:Nt):Prop where
 at':∃F,L.At w X N F∧∀g,F g→w0.heap.size≤g
 gl:Gl N
 few:N.us.length≤100
 bel:Below w0.heap.size w0 w
theorem us_ev {N:Nt} (h:N.us.length≤100) (e:Ev):(evS N e).us.length≤100:=by
 unfold evS
 split
 ·split
  ·exact h
  ·split<;>exact h
 ·split
  ·split
   ·exact h
   ·split
    ·exact h
    ·split
     ·exact h
     ·show(N.us++[_]).length≤100
      rw[List.length_append,List.length_singleton];omega
  ·split
   ·split
    ·exact h
    ·split
     ·split
      ·exact h
      ·show(N.us++[_]).length≤100
       rw[List.length_append,List.length_singleton];omega
     ·split
      ·exact Nat.le_trans (List.length_eraseIdx_le ..) h
      ·exact Nat.le_trans (List.length_eraseIdx_le ..) h
   ·exact h
theorem Nc.below {L:NetSays} {w0 w w':World} {X:Nat} {N:Nt} (h:Nc L w0 w X N) (hb:Below w.heap.size w w'):Nc L w0 w' X N:=by
 obtain⟨F,h1,h2⟩:=h.at'
 exact⟨⟨F,L.below h1 hb,h2⟩,h.gl,h.few,La.bel h.bel hb⟩
/- an event -/
theorem Nc.does {L:NetSays} {w0 w:World} {X:Nat} {N:Nt} (h:Nc L w0 w X N) (e:Ev):Calls Tryz.prog 8 #[ptr X,evV e] w fun r w'=>r=.returned (errV (evE N e))∧Hid (Nc L w0 w' X (evS N e)):=by
 obtain⟨F,h1,h2⟩:=h.at'
 refine(L.does X N F e w h1 h.gl h.few).mono ?_
 rintro r w' ⟨hr,F',q1,q2,q3⟩
 refine⟨hr,⟨F',q1,fun g hg=> ?_⟩,(h.gl.ev e).1,us_ev h.few e,q2.below h2 h.bel h.bel.size⟩
 rcases q3 g hg with e9 | e9
 ·exact h2 g e9
 ·have:=h.bel.size;omega
theorem Nc.under {L : NetSays} (U : NetUnder L) {w0 w : World} {X : Nat} {N : Nt} (h : Nc L w0 w X N) : Calls Tryz.prog 10 #[ptr X] w fun r w' => r = .returned (.int .i64 N.us.length) ∧ Hid (Nc L w0 w' X N) := by
  obtain ⟨F, h1, h2⟩ := h.at'
  exact (U.under X N F w h1 h.few).mono fun r w' ⟨hr, hb⟩ => ⟨hr, h.below hb⟩
theorem Nc.same {L:NetSays} (U:NetSame L) {w0 w:World} {X:Nat} {N:Nt} (h:Nc L w0 w X N) (hn:1≤N.ds.length):Calls Tryz.prog 9 #[ptr X] w fun r w'=>r=.returned (.bool (sameB N))∧Hid (Nc L w0 w' X N):=by
 obtain⟨F,h1,h2⟩:=h.at'
 exact(U.same X N F w h1 h.gl hn).mono fun r w' ⟨hr,hb⟩=>⟨hr,h.below hb⟩
theorem Nc.und {L:NetSays} {w0 w:World} {X:Nat} {N:Nt} (h:Nc L w0 w X N):L.und w X=N.us.length:=by
 obtain⟨F,h1,h2⟩:=h.at'
 exact L.und_eq h1
theorem nc_new (L:NetSays) {w0 w:World} (hb0:Below w0.heap.size w0 w) {n:Nat} (h1:1≤n) (h4:n≤4):Calls Tryz.prog 7 #[.int .i64 n] w fun e w'=>∃X,e=.returned (.tuple #[ptr X,.nilIface])∧Hid (Nc L w0 w' X (nw n)):=
 (L.new n w h1 h4).mono fun e w' ⟨X,F,he,ha,hf,hb⟩=>⟨X,he,⟨F,ha,fun g hg=>Nat.le_trans hb0.size (hf g hg)⟩,gl_nw h4,Nat.zero_le _,La.bel hb0 hb⟩
/- NetMeets: how it opens -/
def t1:Ev:=(1,0,0,104)
def s1:Ev:=(3,0,1,0)
def d1:Ev:=(4,0,0,0)
theorem open_type:evE (nw 2) t1=0∧sameB (evS (nw 2) t1)=false:=by
 constructor
 ·kernel_rfl
 ·unfold sameB
  rw[decide_eq_false]
  intro h
  have hl:(evS (nw 2) t1).ds.length=2:=by kernel_rfl
  have h1:=congrArg List.length (h 1 (by omega)).1
  have h2:(dq (evS (nw 2) t1) 1).book.length=0:=by kernel_rfl
  have h3:(dq (evS (nw 2) t1) 0).book.length=1:=by kernel_rfl
  omega
theorem open_send:evE (evS (nw 2) t1) s1=0∧evE (evS (evS (nw 2) t1) s1) d1=0∧sameB (evS (evS (evS (nw 2) t1) s1) d1)=true:=by
 refine⟨by kernel_rfl,by kernel_rfl, ?_⟩
 unfold sameB
 rw[decide_eq_true_eq]
 intro i hi
 have hl:(evS (evS (evS (nw 2) t1) s1) d1).ds.length=2:=by kernel_rfl
 rw[hl] at hi
 have h2:(dq (evS (evS (evS (nw 2) t1) s1) d1) 1).book=(dq (evS (evS (evS (nw 2) t1) s1) d1) 0).book:=by kernel_rfl
 have h3:(dq (evS (evS (evS (nw 2) t1) s1) d1) 1).marks=(dq (evS (evS (evS (nw 2) t1) s1) d1) 0).marks:=by kernel_rfl
 rcases i with _ | i
 ·exact⟨rfl,rfl⟩
 ·obtain rfl:i=0:=by omega
  exact⟨h2,h3⟩
theorem open_len:1≤(evS (nw 2) t1).ds.length∧1≤(evS (evS (evS (nw 2) t1) s1) d1).ds.length:=by
 have h1:(evS (nw 2) t1).ds.length=2:=by kernel_rfl
 have h2:(evS (evS (evS (nw 2) t1) s1) d1).ds.length=2:=by kernel_rfl
 omega
/- a parcel less -/
theorem less_us {N:Nt} (h:0<N.us.length):(evS N d1).us.length+1=N.us.length:=by
 unfold evS
 show(if isEd 4=true then _ else if(4:Int)=3 then _ else if isCo 4=true then _ else _:Nt).us.length+1=_
 rw[if_neg (by decide),if_neg (by decide),if_pos (by decide),if_neg (by unfold out;show¬((0:Int)<0∨(N.us.length:Int)≤0);omega),if_neg (by decide),if_neg (by decide)]
 show(N.us.eraseIdx 0).length+1=_
 rw[List.length_eraseIdx_of_lt h];omega
theorem same_sent {N0 N:Nt} {a b:Nat} (s:Sent N0 N a b) (ha:N.ds.length≤a):sameB N=true:=by
 unfold sameB
 rw[decide_eq_true_eq]
 intro i hi
 have h:=s.same ha hi (j:=0) (by omega)
 exact⟨h.1,h.2.1⟩
/- events that came in -/
def EvsIn (w:World) (p:Option Addr) (l:List Ev):Prop:=l=[]∨∃b o,p=some ⟨b,o,none⟩∧∀j,j<l.length→w.cell? ⟨b,o+j*4,none⟩=some (.int .i64 (l.getD j (0,0,0,0)).1)∧w.cell? ⟨b,o+j*4+1,none⟩=some (.int .i64 (l.getD j (0,0,0,0)).2.1)∧w.cell? ⟨b,o+j*4+2,none⟩=some (.int .i64 (l.getD j (0,0,0,0)).2.2.1)∧w.cell? ⟨b,o+j*4+3,none⟩=some (.int .i64 (l.getD j (0,0,0,0)).2.2.2)
theorem EvsIn.some {w:World} {p:Option Addr} {l:List Ev} (h:EvsIn w p l) {j:Nat} (hj:j<l.length):∃b o,p=some ⟨b,o,none⟩∧∀W:World,Below w.heap.size w W→W.cell? ⟨b,o+j*4,none⟩=some (.int .i64 (l.getD j (0,0,0,0)).1)∧W.cell? ⟨b,o+j*4+1,none⟩=some (.int .i64 (l.getD j (0,0,0,0)).2.1)∧W.cell? ⟨b,o+j*4+2,none⟩=some (.int .i64 (l.getD j (0,0,0,0)).2.2.1)∧W.cell? ⟨b,o+j*4+3,none⟩=some (.int .i64 (l.getD j (0,0,0,0)).2.2.2):=by
 rcases h with h | ⟨b,o,hp,hc⟩
 ·rw[h] at hj;simp at hj
 ·obtain⟨h0,h1,h2,h3⟩:=hc j hj
  exact⟨b,o,hp,fun W hb=>⟨keep_cell hb h0,keep_cell hb h1,keep_cell hb h2,keep_cell hb h3⟩⟩
/- NetMeets' last phase: one sends to another one, and it comes -/
theorem Nc.pair {L:NetSays} {w0 w:World} {X:Nat} {N:Nt} (h:Nc L w0 w X N) (hu:N.us=[]) {i j:Nat} (hi:i<N.ds.length) (hj:j<N.ds.length) (hij:i≠j):
  Calls Tryz.prog 8 #[ptr X,.agg #[.int .i64 3,.int .i64 i,.int .i64 j,.int .i64 0]] w fun r w'=>r=.returned .nilIface∧∃M,Hid (Nc L w0 w' X M)∧Hid (evE M d1=b1E (dq N i) (dq N j)∧evS M d1=Hc.pair N i j):=by
 obtain⟨e1,e2,e3,e4⟩:=pair_ev h.gl hu hi hj hij
 refine(h.does (3,i,j,0)).mono ?_
 rintro r w' ⟨hr,hn⟩
 rw[e1,errV_zero] at hr
 exact⟨hr,_,hn,e3,e4⟩
end Hd
end Go.Proofs.YtlmdchpbpgcfmaaGreatDoor
/- Docs in a row, each with blocks of its own: while one changes, the others stay. -/
namespace Go.Proofs.YtlmdchpbpgcfmaaGreatDoor
namespace Hi
open Go.ChangeShapes Go.WideShapes Go.ChangeAt Go.RowKit Cm Om Hm Ia Aa Hc
/- a kind of docs in memory: the program's, or the reference's -/
structure Kind where
 A:World→Nat→Dq→(Nat→Prop)→Prop
 lt:∀{w:World} {E:Nat} {S:Dq} {F:Nat→Prop},A w E S F→∀g,F g→g<w.heap.size
 stay:∀{w w':World} {E:Nat} {S:Dq} {F:Nat→Prop},A w E S F→Stay F w w'→w.heap.size≤w'.heap.size→A w' E S F
def docK:Kind:=⟨DocAt,fun h=>h.lt,fun h hs hz=>h.stay hs hz⟩
def upd {α :Type} (f:Nat→ α) (i:Nat) (x: α):Nat→ α :=fun j=>if j=i then x else f j
theorem upd_same {α :Type} (f:Nat→ α) (i:Nat) (x: α):upd f i x i=x:=by unfold upd;rw[if_pos rfl]
theorem upd_other {α :Type} (f:Nat→ α) {i j:Nat} (x: α) (h:j≠i):upd f i x j=f j:=by unfold upd;rw[if_neg h]
/- n docs: doc i at block E i, its own blocks F i -/
structure Rowd (K:Kind) (w:World) (n:Nat) (E:Nat→Nat) (S:Nat→Dq) (F:Nat→Nat→Prop):Prop where
 at':∀i,i<n→K.A w (E i) (S i) (F i)
 apart:∀i j,i<n→j<n→i≠j→∀g,F i g→¬F j g
theorem Rowd.none (K:Kind) (w:World) (E:Nat→Nat) (S:Nat→Dq) (F:Nat→Nat→Prop):Rowd K w 0 E S F:=⟨fun i hi=>absurd hi (Nat.not_lt_zero i),fun i _ hi=>absurd hi (Nat.not_lt_zero i)⟩
/- the blocks of all of them -/
def All (n:Nat) (F:Nat→Nat→Prop) (g:Nat):Prop:=∃i,i<n∧F i g
theorem Rowd.lt {K:Kind} {w:World} {n:Nat} {E:Nat→Nat} {S:Nat→Dq} {F:Nat→Nat→Prop} (h:Rowd K w n E S F):∀g,All n F g→g<w.heap.size:=by
 rintro g ⟨i,hi,hg⟩
 exact K.lt (h.at' i hi) g hg
theorem Rowd.stay {K:Kind} {w w':World} {n:Nat} {E:Nat→Nat} {S:Nat→Dq} {F:Nat→Nat→Prop} (h:Rowd K w n E S F) (hs:Stay (All n F) w w') (hz:w.heap.size≤w'.heap.size):Rowd K w' n E S F:=
 ⟨fun i hi=>K.stay (h.at' i hi) (fun g hg=>hs g ⟨i,hi,hg⟩) hz,h.apart⟩
theorem Rowd.below {K:Kind} {w w':World} {n:Nat} {E:Nat→Nat} {S:Nat→Dq} {F:Nat→Nat→Prop} (h:Rowd K w n E S F) (hb:Below w.heap.size w w'):Rowd K w' n E S F:=h.stay (fun g hg=>hb.block g (h.lt g hg)) hb.size
theorem Rowd.chg {K:Kind} {w w':World} {n:Nat} {E:Nat→Nat} {S:Nat→Dq} {F:Nat→Nat→Prop} {H:Nat→Prop} (h:Rowd K w n E S F) (hc:Chg H w w') (hd:∀g,All n F g→¬H g):Rowd K w' n E S F:=h.stay (hc.stay fun g hg=>⟨h.lt g hg,hd g hg⟩) hc.size
/- one of them changes -/
theorem Rowd.turn {K:Kind} {w w':World} {n:Nat} {E:Nat→Nat} {S:Nat→Dq} {F:Nat→Nat→Prop} (h:Rowd K w n E S F) {i:Nat} (hi:i<n) {T:Dq} {G:Nat→Prop} (hA:K.A w' (E i) T G) (hc:Chg (F i) w w') (hG:∀g,G g→F i g∨w.heap.size≤g):Rowd K w' n E (upd S i T) (upd F i G):=by
 refine⟨fun j hj=> ?_,fun a b ha hb hab g=> ?_⟩
 ·by_cases e:j=i
  ·subst e;rw[upd_same,upd_same];exact hA
  ·rw[upd_other _ _ e,upd_other _ _ e]
   exact K.stay (h.at' j hj) (hc.stay fun g hg=>⟨K.lt (h.at' j hj) g hg,h.apart j i hj hi e g hg⟩) hc.size
 ·by_cases ea:a=i
  ·subst ea
   rw[upd_same,upd_other _ _ (Ne.symm hab)]
   intro hg hb2
   rcases hG g hg with e | e
   ·exact h.apart a b ha hb hab g e hb2
   ·have:=K.lt (h.at' b hb) g hb2;omega
  ·rw[upd_other _ _ ea]
   by_cases eb:b=i
   ·subst eb
    rw[upd_same]
    intro hg hb2
    rcases hG g hb2 with e | e
    ·exact h.apart a b ha hb hab g hg e
    ·have:=K.lt (h.at' a ha) g hg;omega
   ·rw[upd_other _ _ eb]
    exact h.apart a b ha hb hab g
theorem Rowd.turn_all {w:World} {n:Nat} {F:Nat→Nat→Prop} {i:Nat} (hi:i<n) {G:Nat→Prop} (hG:∀g,G g→F i g∨w.heap.size≤g):∀g,All n (upd F i G) g→All n F g∨w.heap.size≤g:=by
 rintro g ⟨j,hj,hg⟩
 by_cases e:j=i
 ·subst e
  rw[upd_same] at hg
  rcases hG g hg with e | e
  ·exact Or.inl ⟨j,hj,e⟩
  ·exact Or.inr e
 ·rw[upd_other _ _ e] at hg
  exact Or.inl ⟨j,hj,hg⟩
/- one more of them -/
theorem Rowd.push {K:Kind} {w w':World} {n:Nat} {E:Nat→Nat} {S:Nat→Dq} {F:Nat→Nat→Prop} (h:Rowd K w n E S F) (hb:Below w.heap.size w w') {D:Nat} {T:Dq} {G:Nat→Prop} (hA:K.A w' D T G) (hG:∀g,G g→w.heap.size≤g):Rowd K w' (n+1) (upd E n D) (upd S n T) (upd F n G):=by
 have h':=h.below hb
 refine⟨fun j hj=> ?_,fun a b ha hb hab g=> ?_⟩
 ·by_cases e:j=n
  ·subst e;rw[upd_same,upd_same,upd_same];exact hA
  ·rw[upd_other _ _ e,upd_other _ _ e,upd_other _ _ e]
   exact h'.at' j (by omega)
 ·by_cases ea:a=n
  ·subst ea
   rw[upd_same,upd_other _ _ (Ne.symm hab)]
   intro hg hb2
   have:=hG g hg
   have:=K.lt (h.at' b (by omega)) g hb2;omega
  ·rw[upd_other _ _ ea]
   by_cases eb:b=n
   ·subst eb
    rw[upd_same]
    intro hg hb2
    have:=hG g hb2
    have:=K.lt (h.at' a (by omega)) g hg;omega
   ·rw[upd_other _ _ eb]
    exact h.apart a b (by omega) (by omega) hab g
/- the same docs, said otherwise -/
theorem Rowd.same {K:Kind} {w:World} {n:Nat} {E E':Nat→Nat} {S T:Nat→Dq} {F:Nat→Nat→Prop} (h:Rowd K w n E S F) (he:∀i,i<n→E' i=E i) (hs:∀i,i<n→T i=S i):Rowd K w n E' T F:=
 ⟨fun i hi=>by rw[he i hi,hs i hi];exact h.at' i hi,h.apart⟩
end Hi
end Go.Proofs.YtlmdchpbpgcfmaaGreatDoor
