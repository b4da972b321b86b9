import Derived.Test.YtlmdchpbpgcfmaaGreatDoorJ13
import Derived.Test.YtlmdchpbpgcfmaaGreatDoorJ6
import Derived.Test.YtlmdchpbpgcfmaaGreatDoorJ7
import Derived.Deep.Strs
import Derived.ChangeSame
import Derived.ChangeOld
import Derived.Carry
import Derived.Test.YtlmdchpbpgcfmaaGreatDoorJ9
import Derived.Test.YtlmdchpbpgcfmaaGreatDoorU0
set_option linter.unusedVariables false
set_option maxRecDepth 100000
set_option maxHeartbeats 8000000
/- What DocMeets stands on: ops that are taken in whichever order, rows of them. -/
namespace Go.Proofs.YtlmdchpbpgcfmaaGreatDoor
namespace Iq
open Go.ChangeShapes Go.WideShapes Go.ChangeAt Go.RowKit Cm Ka Kb Na Om Oa Oz Oc Og Oi Hm Ia Ib Ic Idc Ie If Ig Ih Ii Ij Ik Il Im
open La (bel bel_drew errV_zero errV_ne own_ge own_grow own_below Lies)
open Lj (BookAt BookNew)
def nb:ByteArray:=⟨#[110,98]⟩
def o2:Ox:=((2,1),1,nb,104,[])
def d2:Dq:=apS d0 o2
/- ops that are applied one behind the other -/
theorem ops_new {S:Dq} {o:Ox} (h:isNew S o=true):(apS S o).ops=S.ops++[o]:=by unfold apS;rw[h,if_pos rfl];rfl
/- what was taken of S's ops is T's; L is left, in the order of each author -/
structure MT (S T:Dq) (L:List Ox):Prop where
 inv:Inv T
 perm:(T.ops++L).Perm S.ops
 seq:Seq (fun w=>kn T w) L
 right:∀o ∈ L,opE o=0
 few:S.ops.length≤400
theorem MT.start {S:Dq} (I:Inv S) (O:Ord S):MT S d0 S.ops:=
 ⟨inv_zero,List.Perm.refl _,seq_congr (fun o ho=>by
  obtain⟨d1,d2,_,_⟩:=dotE_iff.1 (opE_zero.1 (I.right o ho)).1
  exact(ord_zero.kn _ d1 d2).symm) O.seq,I.right,I.few⟩
theorem MT.len {S T:Dq} {L:List Ox} (h:MT S T L):T.ops.length+L.length≤400:=by
 have:=h.perm.length_eq
 rw[List.length_append] at this
 have:=h.few
 omega
theorem MT.next {S T:Dq} {a b:List Ox} {x:Ox} (h:MT S T (a++x::b)) (hn:∀o ∈ a,o.1.1≠x.1.1):opE x=0∧kn T x.1.1+1=x.1.2∧T.ops.length<400:=by
 have h1:=(seq_take h.seq hn).1
 have h2:=h.len
 rw[List.length_append,List.length_cons] at h2
 exact⟨h.right x (by simp),h1,by omega⟩
theorem MT.step {S T:Dq} {a b:List Ox} {x:Ox} (h:MT S T (a++x::b)) (hn:∀o ∈ a,o.1.1≠x.1.1) (hw:isNew T x=true):MT S (apS T x) (a++b):=by
 have hx:=h.right x (by simp)
 obtain⟨d1,d2,_,_⟩:=dotE_iff.1 (opE_zero.1 hx).1
 refine⟨inv_ap h.inv, ?_, ?_,fun o ho=>h.right o ?_,h.few⟩
 ·rw[ops_new hw,List.append_assoc]
  refine List.Perm.trans ?_ h.perm
  have hp:(x::(a++b)).Perm (a++x::b):=List.perm_middle.symm
  exact List.Perm.append_left _ hp
 ·refine seq_congr (fun o ho=> ?_) (seq_take h.seq hn).2
  have ho2:=h.right o (by rcases List.mem_append.1 ho with e | e;exact List.mem_append_left _ e;exact List.mem_append_right _ (List.mem_cons_of_mem _ e))
  obtain⟨e1,e2,_,_⟩:=dotE_iff.1 (opE_zero.1 ho2).1
  unfold apS
  rw[hw,if_pos rfl,kn_next T x _ h.inv.klen e1 e2 d1 d2]
  rfl
 ·rcases List.mem_append.1 ho with e | e
  ·exact List.mem_append_left _ e
  ·exact List.mem_append_right _ (List.mem_cons_of_mem _ e)
theorem MT.all {S T:Dq} (I:Inv S) (h:MT S T []):S.book=T.book∧S.marks=T.marks∧S.known=T.known:=by
 have:=h.perm
 rw[List.append_nil] at this
 exact meet I h.inv this.symm
/- a row of ops of the law's own -/
def RowL (B:Nat) (w:World) (v:Value) (L:List (Ox × Value)):Prop:=w.ownsRow B 75 6 v L.length (flatO L)
theorem RowL.six {B:Nat} {w:World} {g n c:Nat} {L:List (Ox × Value)} (h:RowL B w (.slice (some ⟨g,0,none⟩) n c) L) {j:Nat} {y:Ox × Value} (hj:L[j]? =some y):∀i u,(six y.1 y.2)[i]? =some u→w.cell? ⟨g,j*6+i,none⟩=some u:=by
 intro i u hu
 have hl:L.length=n:=by
  rcases h.2 with⟨e,_⟩ | ⟨g2,cap,cur,e,_⟩
  ·cases e
  ·injection e with _ e _;exact e.symm
 have h2:w.ownsRow B 75 6 (.slice (some ⟨g,0,none⟩) n c) n (flatO L):=by unfold RowL at h;rw[hl] at h;exact h
 have:=h2.cells (g:=g) rfl (j*6+i) u (flatO_at hj i u hu)
 rw[Addr.add_lit,Nat.zero_add] at this
 exact this
theorem RowL.cells {B:Nat} {w:World} {g n c:Nat} {L:List (Ox × Value)} (h:RowL B w (.slice (some ⟨g,0,none⟩) n c) L):∀j u,(flatO L)[j]? =some u→w.cell? ⟨g,j,none⟩=some u:=by
 intro j u hu
 have hl:L.length=n:=by
  rcases h.2 with⟨e,_⟩ | ⟨g2,cap,cur,e,_⟩
  ·cases e
  ·injection e with _ e _;exact e.symm
 have h2:w.ownsRow B 75 6 (.slice (some ⟨g,0,none⟩) n c) n (flatO L):=by unfold RowL at h;rw[hl] at h;exact h
 have:=h2.cells (g:=g) rfl j u hu
 rw[Addr.add_lit,Nat.zero_add] at this
 exact this
theorem RowL.shape {B:Nat} {w:World} {v:Value} {L:List (Ox × Value)} (h:RowL B w v L):(v=.slice none 0 0∧L=[])∨∃g c,v=.slice (some ⟨g,0,none⟩) L.length c∧B≤g∧L.length≤c∧c≤maxLen:=by
 rcases h.2 with⟨e,e0⟩ | ⟨g,cap,cur,e,h1,_,h3,h4,_⟩
 ·exact Or.inl ⟨e,List.eq_nil_of_length_eq_zero e0⟩
 ·exact Or.inr ⟨g,cap,e,h1,h3,h4⟩
/- what an op that came in is good for: its dots lie below, its place is no longer than any text -/
def OkL (w:World) (L:List (Ox × Value)):Prop:=∀y ∈ L,DtsAt w y.2 y.1.2.2.2.2∧y.1.2.2.1.size≤maxLen
theorem OkL.shape {w:World} {L:List (Ox × Value)} (h:OkL w L):∀y ∈ L,∃p n c,y.2=.slice p n c:=fun y hy=>by
 obtain⟨p,c,e,_⟩:=(h y hy).1
 exact⟨p,_,c,e⟩
/- the places of a list of numbers -/
/- dots that came in lie off a doc that lies above -/
end Iq
end Go.Proofs.YtlmdchpbpgcfmaaGreatDoor
/- Ops that came in: they lie in memory. -/
namespace Go.Proofs.YtlmdchpbpgcfmaaGreatDoor
namespace Oo
open Go.ChangeShapes Go.WideShapes Go.ChangeAt Go.RowKit Cm Ka Kb Na Om Oa Oz
theorem laidOut:laidOutB Tryz.prog=true:=by kernel_rfl
theorem cellsS:Tryz.prog.cellsOf 9=1:=by kernel_rfl
theorem cellsI:Tryz.prog.cellsOf 3=1:=by kernel_rfl
/- an op by value -/
end Oo
end Go.Proofs.YtlmdchpbpgcfmaaGreatDoor
/- Ops that wait, and those that are next: what a buffer does, plainly; ops that can all be done are all done, in whichever order they come. No program is named here. -/
namespace Go.Proofs.YtlmdchpbpgcfmaaGreatDoor
namespace Ja
open Cm Om Hm
/- the op that waits at a dot; the others -/
def dotIn (L:List Ox) (d:Dt):Option Ox:=L.find? fun o=>decide (o.1=d)
def rid (d:Dt):List Ox→List Ox
 | []=>[]
 | o::L=>if d=o.1 then L else o::rid d L
/- of n authors behind k, the first one that has an op which is next -/
def nextAt (S:Dq) (L:List Ox):Nat→Nat→Option Ox
 | 0,_=>none
 | n+1,k=>match dotIn L ((k:Int)+1,kn S ((k:Int)+1)+1) with | some o=>some o | none=>nextAt S L n (k+1)
def nextO (S:Dq) (L:List Ox):Option Ox:=nextAt S L 8 0
def hasW (S:Dq) (L:List Ox) (o:Ox):Bool:=(dotIn L o.1).isSome||decide (o.1.2≤kn S o.1.1)
theorem dotIn_some {L:List Ox} {d:Dt} {o:Ox} (h:dotIn L d=some o):o ∈ L∧o.1=d:=by
 unfold dotIn at h
 exact⟨List.mem_of_find?_eq_some h,by simpa using List.find?_some h⟩
theorem dotIn_none {L:List Ox} {d:Dt} (h:dotIn L d=none):∀o ∈ L,o.1≠d:=by
 unfold dotIn at h
 intro o ho e
 have:=List.find?_eq_none.1 h o ho
 simp[e] at this
theorem rid_perm {d:Dt}:∀{L:List Ox} {o:Ox},dotIn L d=some o→(o::rid d L).Perm L
 | [],o,h=>by simp[dotIn] at h
 | x::L,o,h=>by
  unfold rid
  by_cases e:d=x.1
  ·rw[if_pos e]
   have:dotIn (x::L) d=some x:=by unfold dotIn;rw[List.find?_cons_of_pos (by simp[e])]
   rw[this] at h
   injection h with h
   rw[h]
  ·rw[if_neg e]
   have h2:dotIn L d=some o:=by
    unfold dotIn at h ⊢
    rwa [List.find?_cons_of_neg (by simp;exact fun e9=>e e9.symm)] at h
   exact(List.Perm.swap x o _).trans ((rid_perm h2).cons x)
theorem rid_sub (d:Dt):∀L:List Ox,(rid d L).Sublist L
 | []=>List.Sublist.refl _
 | x::L=>by
  unfold rid
  by_cases e:d=x.1
  ·rw[if_pos e];exact List.sublist_cons_self x L
  ·rw[if_neg e];exact(rid_sub d L).cons_cons x
theorem nextAt_some {S:Dq} {L:List Ox}:∀{n k:Nat} {o:Ox},nextAt S L n k=some o→∃j,k≤j∧j<k+n∧dotIn L ((j:Int)+1,kn S ((j:Int)+1)+1)=some o
 | 0,k,o,h=>by simp[nextAt] at h
 | n+1,k,o,h=>by
  unfold nextAt at h
  cases hq:dotIn L ((k:Int)+1,kn S ((k:Int)+1)+1) with
  | some x=>rw[hq] at h;injection h with h;exact⟨k,Nat.le_refl _,by omega,by rw[hq,h]⟩
  | none=>
   rw[hq] at h
   obtain⟨j,h1,h2,h3⟩:=nextAt_some h
   exact⟨j,by omega,by omega,h3⟩
theorem nextAt_none {S:Dq} {L:List Ox}:∀{n k:Nat},nextAt S L n k=none→∀j,k≤j→j<k+n→dotIn L ((j:Int)+1,kn S ((j:Int)+1)+1)=none
 | 0,k,h,j,h1,h2=>by omega
 | n+1,k,h,j,h1,h2=>by
  unfold nextAt at h
  cases hq:dotIn L ((k:Int)+1,kn S ((k:Int)+1)+1) with
  | some x=>rw[hq] at h;cases h
  | none=>
   rw[hq] at h
   by_cases e:j=k
   ·rw[e];exact hq
   ·exact nextAt_none h j (by omega) (by omega)
theorem nextO_some {S:Dq} {L:List Ox} {o:Ox} (h:nextO S L=some o):dotIn L o.1=some o∧o ∈ L∧1≤o.1.1∧o.1.1≤8∧kn S o.1.1+1=o.1.2:=by
 obtain⟨j,_,h2,h3⟩:=nextAt_some h
 obtain⟨h4,h5⟩:=dotIn_some h3
 rw[h5]
 exact⟨h3,h4,by simp;omega,by simp;omega,rfl⟩
theorem nextO_none {S:Dq} {L:List Ox} (h:nextO S L=none):∀o ∈ L,1≤o.1.1→o.1.1≤8→kn S o.1.1+1≠o.1.2:=by
 intro o ho h1 h2 e
 have h3:=nextAt_none h (o.1.1-1).toNat (by omega) (by omega)
 rw[show(((o.1.1-1).toNat:Nat):Int)+1=o.1.1 by omega,e] at h3
 exact dotIn_none h3 o ho rfl
/- what stays right of those that wait -/
structure Wt (L:List Ox):Prop where
 right:∀o ∈ L,opE o=0
 apart:(L.map (·.1)).Nodup
 few:L.length≤400
theorem Wt.nil:Wt []:=⟨fun o ho=>by simp at ho,by simp,by simp⟩
theorem Wt.rid {L:List Ox} (h:Wt L) (d:Dt):Wt (rid d L):=
 ⟨fun o ho=>h.right o ((rid_sub d L).subset ho),h.apart.sublist ((rid_sub d L).map _),Nat.le_trans (rid_sub d L).length_le h.few⟩
theorem Wt.push {S:Dq} {L:List Ox} {o:Ox} (h:Wt L) (h0:opE o=0) (hh:hasW S L o=false) (hf:¬400≤L.length):Wt (L++[o]):=by
 unfold hasW at hh
 simp only[Bool.or_eq_false_iff] at hh
 refine⟨fun x hx=> ?_, ?_,by simp;omega⟩
 ·rcases List.mem_append.1 hx with e | e
  ·exact h.right x e
  ·rw[List.mem_singleton.1 e];exact h0
 ·rw[List.map_append,List.nodup_append]
  refine⟨h.apart,by simp,fun a ha b hb=> ?_⟩
  obtain⟨x,hx,rfl⟩:=List.mem_map.1 ha
  have hb2:b=o.1:=by simpa using hb
  rw[hb2]
  have hn:dotIn L o.1=none:=by
   cases hq:dotIn L o.1 with
   | none=>rfl
   | some y=>rw[hq] at hh;simp at hh
  exact dotIn_none hn x hx
/- and how many wait, at most, behind one more -/
/- the order of dots; those that wait, in it -/
/- every dot of a doc that was reached has its op -/
theorem seq_all:∀{l:List Ox} {k:Int→Int},Seq k l→∀(w n:Int),k w<n→n≤l.foldl up k w→∃o ∈ l,o.1=(w,n)
 | [],k,_,w,n,h1,h2=>by simp at h2;omega
 | x::l,k,hs,w,n,h1,h2=>by
  by_cases e:up k x w<n
  ·obtain⟨o,ho,h3⟩:=seq_all hs.2 w n e h2
   exact⟨o,List.mem_cons_of_mem _ ho,h3⟩
  ·refine⟨x,List.mem_cons_self .., ?_⟩
   unfold up at e
   by_cases e2:w=x.1.1
   ·rw[if_pos e2] at e
    have:=hs.1
    rw[e2] at h1
    have:n=x.1.2:=by omega
    rw[e2,this]
   ·rw[if_neg e2] at e;omega
theorem ord_all {S:Dq} (O:Ord S) {w n:Int} (hw:1≤w∧w≤8) (h1:1≤n) (h2:n≤kn S w):∃o ∈ S.ops,o.1=(w,n):=
 seq_all O.seq w n (by omega) (by rw[←O.kn w hw.1 hw.2];exact h2)
theorem seq_nodup:∀{l:List Ox} {k:Int→Int},Seq k l→(l.map (·.1)).Nodup
 | [],_,_=>by simp
 | x::l,k,hs=>by
  rw[List.map_cons,List.nodup_cons]
  refine⟨fun hm=> ?_,seq_nodup hs.2⟩
  obtain⟨y,hy,e⟩:=List.mem_map.1 hm
  have h1:=seq_mono hs.2 y hy
  unfold up at h1
  rw[e] at h1
  simp at h1
/- a doc S took all; of its ops T has taken some, L wait, R are still to come -/
structure Pre (S T:Dq) (L R:List Ox):Prop where
 invS:Inv S
 ordS:Ord S
 inv:Inv T
 ord:Ord T
 perm:(T.ops++(L++R)).Perm S.ops
 few:S.ops.length≤60
theorem Pre.nodup {S T:Dq} {L R:List Ox} (h:Pre S T L R):((T.ops++(L++R)).map (·.1)).Nodup:=
 (h.perm.map _).nodup_iff.2 (seq_nodup h.ordS.seq)
theorem Pre.mem {S T:Dq} {L R:List Ox} (h:Pre S T L R) {o:Ox} (ho:o ∈ L∨o ∈ R):o ∈ S.ops∧opE o=0∧(1≤o.1.1∧o.1.1≤8)∧1≤o.1.2:=by
 have hm:o ∈ S.ops:=h.perm.mem_iff.1 (List.mem_append_right _ (List.mem_append.2 ho))
 have h0:=h.invS.right o hm
 obtain⟨d1,d2,d3,d4⟩:=dotE_iff.1 (opE_zero.1 h0).1
 exact⟨hm,h0,⟨d1,d2⟩,d3⟩
theorem Pre.len {S T:Dq} {L R:List Ox} (h:Pre S T L R):T.ops.length+(L.length+R.length)=S.ops.length:=by
 have:=h.perm.length_eq
 simpa using this
/- what waits or is still to come is not known -/
theorem Pre.fresh {S T:Dq} {L R:List Ox} (h:Pre S T L R) {o:Ox} (ho:o ∈ L∨o ∈ R):¬o.1.2≤kn T o.1.1:=by
 intro hk
 obtain⟨_,_,hw,hn⟩:=h.mem ho
 obtain⟨x,hx,hxe⟩:=ord_all h.ord hw hn hk
 have hnd:=h.nodup
 rw[List.map_append,List.nodup_append] at hnd
 refine hnd.2.2 x.1 (List.mem_map.2 ⟨x,hx,rfl⟩) o.1 (List.mem_map.2 ⟨o,List.mem_append.2 ho,rfl⟩) hxe
theorem Pre.clash {S T:Dq} {L R:List Ox} (h:Pre S T L R) {o:Ox} (ho:o ∈ L):doE T o≠7:=by
 obtain⟨hm,h0,_,_⟩:=h.mem (Or.inl ho)
 intro h7
 obtain⟨e1,e2,e3,e4⟩:=opE_zero.1 h0
 have hw:Bm.withE T.book o.2.2.1=0:=Bm.withE_zero.2 ⟨h.inv.book,e3⟩
 have hp:Bm.putE T.book o.2.2.1≠7:=by unfold Bm.putE;split<;>simp
 unfold doE at h7
 by_cases t1:o.2.1=1
 ·rw[if_pos t1] at h7
  unfold Bm.writeE Bm.wrE at h7
  have hl:=(lawOf_zero.1 e4).1 t1
  have hL:Bm.isL o.2.2.2.1=true:=by unfold Bm.isL;simp;omega
  rw[if_neg (by simpa using hw),if_neg (by rw[hL];decide)] at h7
  by_cases hc:Bm.clash (Bm.leafAt T.book o.2.2.1) o.2.2.2.1=true
  ·unfold Bm.clash at hc
   simp only[Bool.and_eq_true,bne_iff_ne,ne_eq] at hc
   obtain⟨x,hx,x1,x2⟩:=h.inv.wr' _ hc.1
   have q1:=h.inv.wr x hx x1
   have q2:=h.invS.wr x (h.perm.mem_iff.1 (List.mem_append_left _ hx)) x1
   have q3:=h.invS.wr o hm t1
   rw[x2] at q1 q2
   exact hc.2 (by rw[q1,←q2,q3])
  ·rw[if_neg hc] at h7;exact hp h7
 ·rw[if_neg t1] at h7
  by_cases t2:o.2.1=2
  ·rw[if_pos t2] at h7
   unfold Bm.strikeE at h7
   rw[if_neg (by simpa using hw)] at h7
   exact hp h7
  ·rw[if_neg t2] at h7
   split at h7
   ·split at h7
    ·cases h7
    ·unfold withM at h7
     split at h7
     ·cases h7
     ·split at h7
      ·cases h7
      ·cases h7
   ·cases h7
theorem Pre.start {S:Dq} (I:Inv S) (O:Ord S) (hf:S.ops.length≤60):Pre S d0 [] S.ops:=
 ⟨I,O,inv_zero,ord_zero,List.Perm.refl _,hf⟩
theorem Pre.step {S T:Dq} {L R:List Ox} {o:Ox} (h:Pre S T L R) (hn:nextO T L=some o) (hw:isNew T o=true):Pre S (apS T o) (rid o.1 L) R:=by
 refine⟨h.invS,h.ordS,inv_ap h.inv,ord_ap h.inv h.ord, ?_,h.few⟩
 have hops:(apS T o).ops=T.ops++[o]:=by unfold apS;rw[hw,if_pos rfl];rfl
 rw[hops,List.append_assoc]
 refine List.Perm.trans (List.Perm.append_left _ ?_) h.perm
 show(o::(rid o.1 L++R)).Perm (L++R)
 exact(rid_perm (nextO_some hn).1).append_right R
/- one more is put: it is taken, or nothing more is asked -/
/- in the end none waits -/
theorem min_mem:∀(L:List Ox),L≠[]→∃o ∈ L,∀x ∈ L,o.1.2≤x.1.2
 | [],h=>absurd rfl h
 | [x],_=>⟨x,by simp,fun y hy=>by rw[List.mem_singleton.1 hy];exact Int.le_refl _⟩
 | x::y::L,_=>by
  obtain⟨o,ho,hm⟩:=min_mem (y::L) (by simp)
  by_cases e:o.1.2≤x.1.2
  ·exact⟨o,List.mem_cons_of_mem _ ho,fun z hz=>by
    rcases List.mem_cons.1 hz with rfl | hz
    ·exact e
    ·exact hm z hz⟩
  ·exact⟨x,List.mem_cons_self ..,fun z hz=>by
    rcases List.mem_cons.1 hz with rfl | hz
    ·exact Int.le_refl _
    ·have:=hm z hz;omega⟩
theorem Pre.none {S T:Dq} {L:List Ox} (h:Pre S T L []) (hn:nextO T L=none):L=[]:=by
 cases hL:L with
 | nil=>rfl
 | cons y ys=>
  exfalso
  obtain⟨o,ho,hmin⟩:=min_mem L (by rw[hL];simp)
  obtain⟨hm,h0,hw,h1⟩:=h.mem (Or.inl ho)
  have hf:=h.fresh (Or.inl ho)
  refine nextO_none hn o ho hw.1 hw.2 ?_
  by_cases e1:o.1.2=1
  ·have hk0:0≤kn T o.1.1:=by rw[h.inv.kno _ hw.1 hw.2];omega
   omega
  ·have hkS:=known_mem h.invS h.ordS o hm
   obtain⟨x,hx,hxe⟩:=ord_all h.ordS hw (n:=o.1.2-1) (by omega) (by omega)
   have hx2:=h.perm.mem_iff.2 hx
   have x2:x.1.2=o.1.2-1:=by rw[hxe]
   have x1:x.1.1=o.1.1:=by rw[hxe]
   rcases List.mem_append.1 hx2 with hx2 | hx2
   ·have:=known_mem h.inv h.ord x hx2
    rw[x1] at this
    omega
   ·rw[List.append_nil] at hx2
    have:=hmin x hx2
    omega
theorem Pre.all {S T:Dq} (h:Pre S T [] []):S.book=T.book∧S.marks=T.marks∧S.known=T.known∧T.ops.length=S.ops.length:=by
 have hp:=h.perm
 rw[List.append_nil,List.append_nil] at hp
 obtain⟨h1,h2,h3⟩:=meet h.invS h.inv hp.symm
 exact⟨h1,h2,h3,hp.length_eq⟩
end Ja
end Go.Proofs.YtlmdchpbpgcfmaaGreatDoor
/- What one lacks of ops: plain mathematics. No program is named here. -/
namespace Go.Proofs.YtlmdchpbpgcfmaaGreatDoor
namespace Aa
open Cm Om Hm Um
def lacks (v:List Int) (o:Ox):Bool:= !decide (o.1.2≤v.getD (o.1.1-1).toNat 0)
def lackL (l:List Ox) (v:List Int):List Ox:=l.filter (lacks v)
def lackE (l:List Ox) (v:List Int):Int:=if Dm.vecE v≠0 then Dm.vecE v else packE l
theorem take_next {l:List Ox} {k:Nat} (hk:k<l.length):l.take (k+1)=l.take k++[l.getD k oz]:=by
 rw[List.take_add_one,List.getD_eq_getElem?_getD,List.getElem?_eq_getElem hk];rfl
theorem lack_step {l:List Ox} {v:List Int} {k:Nat} (hk:k<l.length):lackL (l.take (k+1)) v=lackL (l.take k) v++(if lacks v (l.getD k oz) then[l.getD k oz] else[]):=by
 unfold lackL
 rw[take_next hk,List.filter_append]
 congr 1
 generalize l.getD k oz=x
 cases h:lacks v x with
 | true=>rw[List.filter_cons_of_pos h];rfl
 | false=>rw[List.filter_cons_of_neg (by rw[h];decide)];rfl
theorem lack_len (l:List Ox) (v:List Int):(lackL l v).length≤l.length:=List.length_filter_le _ _
theorem lack_mem {l:List Ox} {v:List Int} {o:Ox} (h:o ∈ lackL l v):o ∈ l:=(List.mem_filter.1 h).1
theorem lack_kn {S:Dq} {o:Ox}:lacks S.known o= !decide (o.1.2≤kn S o.1.1):=rfl
theorem lack_first {l:List Ox} {k:Nat} (hk:k<l.length) (h:∀o ∈ l.take k,opE o=0) (h9:opE (l.getD k oz)≠0):firstE l=opE (l.getD k oz):=by
 have e:l=l.take k++l.getD k oz::l.drop (k+1):=by
  rw[List.getD_eq_getElem?_getD,List.getElem?_eq_getElem hk]
  show l=l.take k++l[k]::l.drop (k+1)
  rw[←List.drop_eq_getElem_cons hk,List.take_append_drop]
 obtain⟨x,hx⟩:∃x,x=l.getD k oz:=⟨_,rfl⟩
 rw[←hx] at e h9 ⊢
 have hf:l.find? (fun o=>decide (opE o≠0))=some x:=by
  rw[e,List.find?_append,List.find?_eq_none.2 (fun o ho=>by simpa using h o ho),Option.none_or,List.find?_cons_of_pos (by simpa using h9)]
 unfold firstE
 rw[hf]
/- how many are new, up to the first error -/
def cntN:Dq→List Ox→Int
 | _,[]=>0
 | S,o::r=>if apE S o≠0 then 0 else(if isNew S o then 1 else 0)+cntN (apS S o) r
theorem cntN_append:∀(L M:List Ox) (S:Dq),runE S L=0→cntN S (L++M)=cntN S L+cntN (runS S L) M
 | [],M,S,_=>by simp[cntN,runS]
 | o::L,M,S,h=>by
  by_cases h0:apE S o=0
  ·have h1:¬apE S o≠0:=by simpa using h0
   simp only[runE,if_neg h1] at h
   simp only[List.cons_append,cntN,runS,if_neg h1]
   rw[cntN_append L M _ h];omega
  ·simp only[runE,if_pos h0] at h;exact absurd h h0
theorem cntN_go {L:List Ox} {S:Dq} {k:Nat} (hk:k<L.length) (h:runE S (L.take k)=0) (h9:apE (runS S (L.take k)) (L.getD k oz)=0):cntN S (L.take (k+1))=cntN S (L.take k)+(if isNew (runS S (L.take k)) (L.getD k oz) then 1 else 0):=by
 rw[take_next hk,cntN_append _ _ _ h]
 simp only[cntN,if_neg (show¬apE (runS S (L.take k)) (L.getD k oz)≠0 by simpa using h9)]
 omega
def takeN (S:Dq) (L:List Ox):Int:=if runE S L≠0 then 0 else cntN S L
/- two that have what the other one has -/
def b1E (A B:Dq):Int:=runE B (lackL A.ops B.known)
def b1S (A B:Dq):Dq:=runS B (lackL A.ops B.known)
/- what a parcel has is applied -/
def opnL (s:ByteArray):List Ox:=(unpB s.toList).getD []
def opnE (S:Dq) (s:ByteArray):Int:=if(unpB s.toList).isSome then runE S (opnL s) else 2
def opnN (S:Dq) (s:ByteArray):Int:=if(unpB s.toList).isSome then takeN S (opnL s) else 0
theorem opn_right (s:ByteArray):∀x ∈ opnL s,opE x=0:=by
 unfold opnL
 cases h:unpB s.toList with
 | none=>intro x hx;cases hx
 | some l=>exact(packE_zero.1 (unpB_iff.1 h).1).2
end Aa
end Go.Proofs.YtlmdchpbpgcfmaaGreatDoor
/- Two that have what the other one has know the same, and lack nothing more: plain mathematics. -/
namespace Go.Proofs.YtlmdchpbpgcfmaaGreatDoor
namespace Ab
open Cm Om Hm Um Aa
theorem kn_up {S:Dq} {o:Ox} (I:Inv S):∀u:Int,1≤u→u≤8→kn S u≤kn (apS S o) u:=by
 intro u h1 h2
 unfold apS
 cases h:isNew S o with
 | false=>exact Int.le_refl _
 | true=>
  obtain⟨h0,hk,_,_⟩:=isNew_iff.1 h
  obtain⟨d1,d2,_,_⟩:=dotE_iff.1 (opE_zero.1 h0).1
  rw[if_pos rfl,kn_next S o u I.klen h1 h2 d1 d2]
  split
  ·rename_i e;rw[e];omega
  ·exact Int.le_refl _
/- an op that is taken without a fault is known behind it -/
theorem ap_knows {S:Dq} {o:Ox} (I:Inv S) (h0:opE o=0) (he:apE S o=0):o.1.2≤kn (apS S o) o.1.1:=by
 obtain⟨d1,d2,_,_⟩:=dotE_iff.1 (opE_zero.1 h0).1
 by_cases hk:o.1.2≤kn S o.1.1
 ·exact Int.le_trans hk (kn_up I _ d1 d2)
 ·have hn:isNew S o=true:=by
   unfold apE at he
   rw[if_neg (by simpa using h0),if_neg hk] at he
   by_cases h6:kn S o.1.1<o.1.2-1
   ·rw[if_pos h6] at he;cases he
   ·rw[if_neg h6] at he
    by_cases h4:400≤S.ops.length
    ·rw[if_pos h4] at he;cases he
    ·rw[if_neg h4] at he
     exact isNew_iff.2 ⟨h0,by omega,by omega,he⟩
  unfold apS
  rw[hn,if_pos rfl,kn_next S o _ I.klen d1 d2 d1 d2,if_pos rfl];exact Int.le_refl _
theorem ap_ops {S:Dq} {o x:Ox} (h:x ∈ (apS S o).ops):x ∈ S.ops∨x=o:=by
 unfold apS at h
 cases hn:isNew S o with
 | false=>rw[hn] at h;exact Or.inl h
 | true=>
  rw[hn,if_pos rfl] at h
  rcases List.mem_append.1 (show x ∈ S.ops++[o] from h) with h | h
  ·exact Or.inl h
  ·exact Or.inr (List.mem_singleton.1 h)
theorem ops_ap {S:Dq} {o x:Ox} (h:x ∈ S.ops):x ∈ (apS S o).ops:=by
 unfold apS
 cases hn:isNew S o with
 | false=>exact h
 | true=>rw[if_pos rfl];exact List.mem_append_left _ h
structure Ran (S T:Dq) (L:List Ox):Prop where
 inv:Inv T
 ord:Ord T
 up:∀u:Int,1≤u→u≤8→kn S u≤kn T u
 all:∀o ∈ L,o.1.2≤kn T o.1.1
 old:∀o ∈ S.ops,o ∈ T.ops
 of:∀o ∈ T.ops,o ∈ S.ops∨o ∈ L
theorem run_ran:∀(L:List Ox) {S:Dq},Inv S→Ord S→(∀o ∈ L,opE o=0)→runE S L=0→Ran S (runS S L) L
 | [],S,I,O,_,_=>⟨I,O,fun _ _ _=>Int.le_refl _,(fun o ho=>by cases ho),fun o ho=>ho,fun o ho=>Or.inl ho⟩
 | o::L,S,I,O,hr,h=>by
  by_cases h0:apE S o=0
  ·have h1:¬apE S o≠0:=by simpa using h0
   simp only[runE,if_neg h1] at h
   simp only[runS,if_neg h1]
   have ho:=hr o (List.mem_cons_self ..)
   obtain⟨d1,d2,_,_⟩:=dotE_iff.1 (opE_zero.1 ho).1
   have R:=run_ran L (inv_ap I) (ord_ap I O) (fun x hx=>hr x (List.mem_cons_of_mem _ hx)) h
   refine⟨R.inv,R.ord,fun u u1 u2=>Int.le_trans (kn_up I u u1 u2) (R.up u u1 u2),fun x hx=> ?_,fun x hx=>R.old x (ops_ap hx),fun x hx=> ?_⟩
   ·rcases List.mem_cons.1 hx with rfl | hx
    ·exact Int.le_trans (ap_knows I ho h0) (R.up _ d1 d2)
    ·exact R.all x hx
   ·rcases R.of x hx with hx | hx
    ·rcases ap_ops hx with hx | hx
     ·exact Or.inl hx
     ·rw[hx];exact Or.inr (List.mem_cons_self ..)
    ·exact Or.inr (List.mem_cons_of_mem _ hx)
  ·simp only[runE,if_pos h0] at h;exact absurd h h0
/- what one had, the other one knows -/
theorem b1_ran {A B:Dq} (IA:Inv A) (IB:Inv B) (OB:Ord B) (h:b1E A B=0):Inv (b1S A B)∧Ord (b1S A B)∧(∀o ∈ A.ops,o.1.2≤kn (b1S A B) o.1.1)∧(∀o ∈ B.ops,o ∈ (b1S A B).ops)∧(∀o ∈ (b1S A B).ops,o ∈ A.ops∨o ∈ B.ops):=by
 have R:=run_ran (lackL A.ops B.known) IB OB (fun o ho=>IA.right o (lack_mem ho)) h
 refine⟨R.inv,R.ord,fun o ho=> ?_,R.old,fun o ho=> ?_⟩
 ·obtain⟨d1,d2,_,_⟩:=dotE_iff.1 (opE_zero.1 (IA.right o ho)).1
  by_cases hk:o.1.2≤kn B o.1.1
  ·exact Int.le_trans hk (R.up _ d1 d2)
  ·refine R.all o (List.mem_filter.2 ⟨ho, ?_⟩)
   rw[lack_kn,decide_eq_false hk];rfl
 ·rcases R.of o ho with h | h
  ·exact Or.inr h
  ·exact Or.inl (lack_mem h)
theorem dots_one {S:Dq} (O:Ord S) {a b:Ox} (ha:a ∈ S.ops) (hb:b ∈ S.ops) (h:a.1=b.1):a=b:=by
 have hn:=List.pairwise_map.1 (Ja.seq_nodup O.seq)
 rw[List.pairwise_iff_getElem] at hn
 obtain⟨i,hi,rfl⟩:=List.mem_iff_getElem.1 ha
 obtain⟨j,hj,rfl⟩:=List.mem_iff_getElem.1 hb
 by_cases h1:i<j
 ·exact absurd h (hn i j hi hj h1)
 ·by_cases h2:j<i
  ·exact absurd h.symm (hn j i hj hi h2)
  ·obtain rfl:i=j:=by omega
   rfl
/- then none lacks anything -/
end Ab
end Go.Proofs.YtlmdchpbpgcfmaaGreatDoor
