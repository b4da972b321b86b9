import Derived.Test.YtjcemlmlfoilmaaGreatDoorA0
set_option linter.unusedVariables false
set_option maxRecDepth 100000
set_option maxHeartbeats 8000000
namespace Go.Proofs.YtjcemlmlfoilmaaGreatDoor
open Cm Hm Ia
open Go.Proofs.Tryz (prog)
namespace Hc
open Om Um Aa Ab
abbrev Ev:=Int × Int × Int × Int
structure Nt where
 ds:List Dq
 us:List (Nat × ByteArray)
def nw (n:Nat):Nt:=⟨List.replicate n d0,[]⟩
def dq (N:Nt) (i:Nat):Dq:=N.ds.getD i d0
def isEd (k:Int):Bool:=decide (k=1)||(decide (k=2)||(decide (k=7)||decide (k=8)))
def isCo (k:Int):Bool:=decide (k=4)||(decide (k=5)||decide (k=6))
def oneT (c:Int):ByteArray:=⟨#[u8 c]⟩
def edE (S:Dq) (w:Int) (e:Ev):Int:=
 if e.1=1 then(if e.2.2.2<32∨126<e.2.2.2 then 1 else insE S w e.2.2.1 (oneT e.2.2.2))
 else if e.1=2 then(if e.2.2.1<0∨((seenP S.book).length:Int)≤e.2.2.1 then 1 else 0)
 else if e.1=7 then atE S w e.2.2.1 else fusE S w e.2.2.1
def edL (S:Dq) (w:Int) (e:Ev):List Ox:=
 if e.1=1 then insL S w e.2.2.1 (oneT e.2.2.2) else if e.1=2 then delL S w e.2.2.1 (e.2.2.1+1) else if e.1=7 then splL S w e.2.2.1 else fusL S w e.2.2.1
def packT (l:List Ox):ByteArray:=⟨(packB l).toArray⟩
abbrev out (n:Nat) (i:Int):Prop:=i<0∨(n:Int)≤i
def par (N:Nt) (e:Ev):Nat × ByteArray:=N.us.getD e.2.1.toNat (0,⟨#[]⟩)
def evE (N:Nt) (e:Ev):Int:=
 if isEd e.1=true then
  (if out N.ds.length e.2.1 then 1 else if edE (dq N e.2.1.toNat) (e.2.1+1) e≠0 then edE (dq N e.2.1.toNat) (e.2.1+1) e else runE (dq N e.2.1.toNat) (edL (dq N e.2.1.toNat) (e.2.1+1) e))
 else if e.1=3 then
  (if out N.ds.length e.2.1∨out N.ds.length e.2.2.1 then 1 else if e.2.1=e.2.2.1 then 3 else if 100≤N.us.length then 4 else 0)
 else if isCo e.1=true then
  (if out N.us.length e.2.1 then 1 else if e.1=6 then(if 100≤N.us.length then 4 else 0) else if e.1=5 then 0 else opnE (dq N (par N e).1) (par N e).2)
 else 1
def evS (N:Nt) (e:Ev):Nt:=
 if isEd e.1=true then
  (if out N.ds.length e.2.1 then N else if edE (dq N e.2.1.toNat) (e.2.1+1) e≠0 then N else{ N with ds:=N.ds.set e.2.1.toNat (runS (dq N e.2.1.toNat) (edL (dq N e.2.1.toNat) (e.2.1+1) e)) })
 else if e.1=3 then
  (if out N.ds.length e.2.1∨out N.ds.length e.2.2.1 then N else if e.2.1=e.2.2.1 then N else if 100≤N.us.length then N else{ N with us:=N.us++[(e.2.2.1.toNat,packT (lackL (dq N e.2.1.toNat).ops (dq N e.2.2.1.toNat).known))] })
 else if isCo e.1=true then
  (if out N.us.length e.2.1 then N else if e.1=6 then(if 100≤N.us.length then N else{ N with us:=N.us++[par N e] }) else if e.1=5 then{ N with us:=N.us.eraseIdx e.2.1.toNat } else⟨N.ds.set (par N e).1 (runS (dq N (par N e).1) (opnL (par N e).2)),N.us.eraseIdx e.2.1.toNat⟩)
 else N
def Gop (N:Nt) (o:Ox):Prop:=∃i,i<N.ds.length∧o ∈ (dq N i).ops
structure Gl (N:Nt):Prop where
 few:N.ds.length≤4
 inv:∀i,i<N.ds.length→Inv (dq N i)∧Ord (dq N i)
 par:∀p ∈ N.us,p.1<N.ds.length∧∀o ∈ opnL p.2,Gop N o
 who:∀o,Gop N o→1≤o.1.1∧o.1.1≤N.ds.length
 own:∀o,Gop N o→o ∈ (dq N (o.1.1-1).toNat).ops
 plc:∀o,Gop N o→o.2.1=1→Pm.whoOf o.2.2.1.toList=o.1.1
 ok:∀p ∈ N.us,(unpB p.2.toList).isSome=true
theorem Gl.right{N:Nt}(h:Gl N){o:Ox}(ho:Gop N o):opE o=0:=by
 obtain⟨i,a,b⟩:=ho;exact(h.inv i a).1.right o b
theorem Gl.clash{N:Nt}(h:Gl N){i:Nat}(hi:i<N.ds.length){o:Ox}(ho:Gop N o):doE (dq N i) o≠7:=by
  have s:=h.right ho;obtain⟨I,O⟩:=h.inv i hi;intro h7;obtain⟨E,F,v,y⟩:=aO.1 s;have g:=Bm.eU.2 ⟨I.book,v⟩;have j:Bm.putE (dq N i).book o.2.2.1≠7:=by unfold Bm.putE;split<;>simp
  unfold doE at h7;by_cases a:o.2.1=1
  · rw[if_pos a] at h7
    unfold Bm.writeE Bm.wrE at h7;have G:=(bB.1 y).1 a;have z:Bm.isL o.2.2.2.1=true:=by unfold Bm.isL;simp;omega
    rw[if_neg (by simpa using g),if_neg (by rw[z];decide)] at h7;by_cases b:Bm.clash (Bm.leafAt (dq N i).book o.2.2.1) o.2.2.2.1=true
    · unfold Bm.clash at b
      simp only[qX,bne_iff_ne,ne_eq] at b;obtain⟨x,k,e,l⟩:=I.wr' _ b.1;have c:Gop N x:=⟨i,hi,k⟩;have m:=h.plc x c e;have A:=h.plc o ho a;rw[l] at m;have B:x.1.1=o.1.1:=by rw[<- m, <- A]
      have d:=h.own x c;have n:=h.own o ho;rw[B] at d;obtain⟨w1,w2⟩:=h.who o ho;have J:=(h.inv (o.1.1-1).toNat (by omega)).1;have p:=I.wr x k e;have q:=J.wr x d e;have C:=J.wr o n a;rw[l] at p q;exact b.2 (by rw[p, <- q,C])
    · rw[if_neg b] at h7;exact j h7
  · rw[if_neg a] at h7
    by_cases r:o.2.1=2
    · rw[if_pos r] at h7
      unfold Bm.strikeE at h7;rw[if_neg (by simpa using g)] at h7;exact j h7
    · rw[if_neg r] at h7
      split at h7
      · split at h7
        · cases h7
        · unfold withM at h7
          split at h7
          · cases h7
          · split at h7
            · cases h7
            · cases h7
      · cases h7
theorem aDh:∀(L:List Ox) {S:Dq},Inv S->Ord S->Ord (runS S L)
 | [],S,I,O=>O
 | o::L,S,I,O=>by
  unfold runS
  split
  ·exact O
  ·exact aDh L (aCg I) (aGh I O)
theorem aDJ:∀(L:List Ox) {S:Dq} {x:Ox},x ∈ S.ops->x ∈ (runS S L).ops
 | [],S,x,h=>h
 | o::L,S,x,h=>by
  unfold runS
  split
  ·exact h
  ·exact aDJ L (aFB h)
theorem run_of:∀(L:List Ox) {S:Dq} {x:Ox},x ∈ (runS S L).ops->x ∈ S.ops\/x ∈ L
 | [],S,x,h=>qH h
 | o::L,S,x,h=>by
  unfold runS at h
  split at h
  ·exact qH h
  ·rcases run_of L h with e | e
   ·rcases ap_ops e with e | e
    ·exact qH e
    ·rw[e];exact qF (xA ..)
   ·exact qF (jO _ e)
variable {N:Nt}{i:Nat}{S:Dq}{o:Ox}{l:List Ox}
theorem fU{j:Nat}(hi:i<N.ds.length)(us:List (Nat × ByteArray)):dq ⟨N.ds.set i S,us⟩ j=if j=i then S else dq N j:=by
 unfold dq;rw[qA,qA];by_cases e:j=i
 ·rw[if_pos e,e,jR hi];rfl
 ·rw[if_neg e,qS (fun h=>e h.symm)]
theorem Gl.take(h:Gl N)(hi:i<N.ds.length){L:List Ox}(hL:∀o ∈ L,Gop N o){us:List (Nat × ByteArray)}(hu:∀p ∈ us,p ∈ N.us):
  Gl ⟨N.ds.set i (runS (dq N i) L),us⟩/\(∀o,Gop ⟨N.ds.set i (runS (dq N i) L),us⟩ o↔Gop N o)/\∀j o,o ∈ (dq N j).ops->o ∈ (dq ⟨N.ds.set i (runS (dq N i) L),us⟩ j).ops:=by
 obtain⟨I,O⟩:=h.inv i hi;have a:(⟨N.ds.set i (runS (dq N i) L),us⟩:Nt).ds.length=N.ds.length:=jN
 have f:∀j o,o ∈ (dq N j).ops->o ∈ (dq ⟨N.ds.set i (runS (dq N i) L),us⟩ j).ops:=fun j o ho=>by
  rw[fU hi];split
  ·rename_i e;rw[e] at ho;exact aDJ L ho
  ·exact ho
 have b:∀o,Gop ⟨N.ds.set i (runS (dq N i) L),us⟩ o↔Gop N o:=fun o=>by
  constructor
  ·rintro⟨j,c,d⟩;rw[a] at c;rw[fU hi] at d;split at d
   ·rcases run_of L d with e | e
    ·exact⟨i,hi,e⟩
    ·exact hL o e
   ·exact⟨j,c,d⟩
  ·rintro⟨j,c,d⟩;exact⟨j,by rw[a];exact c,f j o d⟩
 refine⟨⟨by rw[a];exact h.few,fun j c=> ?_,fun p hp=>⟨by rw[a];exact(h.par p (hu p hp)).1,fun o ho=>(b o).2 ((h.par p (hu p hp)).2 o ho)⟩,fun o ho=>by rw[a];exact h.who o ((b o).1 ho),fun o ho=>f _ o (h.own o ((b o).1 ho)),fun o ho=>h.plc o ((b o).1 ho),fun p hp=>h.ok p (hu p hp)⟩,b,f⟩;rw[fU hi];split
 ·exact⟨aC9 L I,aDh L I O⟩
 ·exact h.inv j (by rw[a] at c;exact c)
theorem Gl.add(h:Gl N)(hi:i<N.ds.length)(hn:isNew (dq N i) o=true)(hw:o.1.1=(i:Int)+1)(hp:o.2.1=1->Pm.whoOf o.2.2.1.toList=o.1.1):Gl ⟨N.ds.set i (apS (dq N i) o),N.us⟩:=by
 obtain⟨I,O⟩:=h.inv i hi;have a:(⟨N.ds.set i (apS (dq N i) o),N.us⟩:Nt).ds.length=N.ds.length:=jN;have d:(apS (dq N i) o).ops=(dq N i).ops++[o]:=by unfold apS;rw[hn,if_pos rfl];rfl
 have k:∀j x,x ∈ (dq N j).ops->x ∈ (dq ⟨N.ds.set i (apS (dq N i) o),N.us⟩ j).ops:=fun j x hx=>by
  rw[fU hi];split
  ·rename_i e;rw[e] at hx;exact aFB hx
  ·exact hx
 have f:∀x,Gop ⟨N.ds.set i (apS (dq N i) o),N.us⟩ x->Gop N x\/x=o:=fun x=>by
  rintro⟨j,b,c⟩;rw[a] at b;rw[fU hi] at c;split at c
  ·rw[d] at c;rcases jB.1 c with e | e
   ·exact qH ⟨i,hi,e⟩
   ·exact qF (qP.1 e)
  ·exact qH ⟨j,b,c⟩
 have l:∀x,Gop N x->Gop ⟨N.ds.set i (apS (dq N i) o),N.us⟩ x:=fun x hx=>by
  obtain⟨j,b,c⟩:=hx;exact⟨j,by rw[a];exact b,k j x c⟩
 refine⟨by rw[a];exact h.few,fun j b=> ?_,fun p hp9=>⟨by rw[a];exact(h.par p hp9).1,fun x hx=>l x ((h.par p hp9).2 x hx)⟩,fun x hx=> ?_,fun x hx=> ?_,fun x hx hx1=> ?_,h.ok⟩
 ·rw[fU hi];split
  ·exact⟨aCg I,aGh I O⟩
  ·exact h.inv j (by rw[a] at b;exact b)
 ·rw[a];rcases f x hx with e | e
  ·exact h.who x e
  ·rw[e,hw];omega
 ·rcases f x hx with e | e
  ·exact k _ x (h.own x e)
  ·rw[e,hw,show((i:Int)+1-1).toNat=i by omega,fU hi,if_pos rfl,d];exact yI _ (qP.2 rfl)
 ·rcases f x hx with e | e
  ·exact h.plc x e hx1
  ·rw[e] at hx1 |-;exact hp hx1
theorem aJa{n:Nat}(hn:n<=4):Gl (nw n):=by
 have b:∀i,dq (nw n) i=d0:=fun i=>by
  unfold dq nw;rw[qA,kF];split<;>rfl
 have a:∀o,¬Gop (nw n) o:=fun o=>by
  rintro⟨i,_,c⟩;rw[b] at c;cases c
 exact⟨by unfold nw;rw[List.length_replicate];exact hn,fun i _=>by rw[b];exact⟨inv_zero,aHa⟩,(fun p hp=>by cases hp),fun o ho=>absurd ho (a o),fun o ho=>absurd ho (a o),fun o ho=>absurd ho (a o),(fun p hp=>by cases hp)⟩
theorem one_op(hk:kn S o.1.1+1=o.1.2):runS S [o]=S\/(isNew S o=true/\runS S [o]=apS S o):=by
 unfold runS;by_cases h:apE S o=0
 ·rw[if_neg (by simpa using h)];exact qF ⟨aIH hk h,rfl⟩
 ·rw[if_pos h];exact qH rfl
theorem aGv{c:Int}(h1:32<=c)(h2:c<=126):((u8 c).toNat:Int)=c:=bK (by omega) (by omega)
theorem aBc(c:Int):(oneT c).size=1:=rfl
theorem aIj{w:Int}{e:Ev}(he:edE S w e=0):∃o,edL S w e=[o]/\o.1=(w,kn S w+1)/\(o.2.1=1->Pm.whoOf o.2.2.1.toList=w):=by
 unfold edE at he;unfold edL;by_cases a:e.1=1
 ·rw[if_pos a] at he |-;split at he
  ·cases he
  ·have d:=vG.1 he;refine⟨insO (leftP S.book e.2.2.1.toNat) (rightP S.book e.2.2.1.toNat) w (kn S w) (oneT e.2.2.2) 0,rfl, ?_,fun _=> ?_⟩
   ·show(w,kn S w+1+((0:Nat):Int))=_
    simp
   ·show Pm.whoOf (nthP _ _ w 1).toList=w
    have f:rowE (leftP S.book e.2.2.1.toNat) (rightP S.book e.2.2.1.toNat) w 1=0:=d.row;exact(aDf f (k:=0) (by omega)).whose
 ·rw[if_neg a] at he |-;by_cases b:e.1=2
  ·rw[if_pos b];refine⟨aIl (aGJ S e.2.2.1 (e.2.2.1+1)) w (kn S w) 0, ?_, ?_,fun h=>by cases h⟩
   ·unfold delL;rw[show(e.2.2.1+1-e.2.2.1).toNat=1 by omega];rfl
   ·show(w,kn S w+1+((0:Nat):Int))=_
    simp
  ·rw[if_neg b];by_cases c:e.1=7
   ·rw[if_pos c];exact⟨_,rfl,rfl,fun h=>by cases h⟩
   ·rw[if_neg c];exact⟨_,rfl,rfl,fun h=>by cases h⟩
theorem aFo(h:packE l=0):opnL (packT l)=l/\∀S,opnE S (packT l)=runE S l:=by
 have e:unpB (packT l).toList=some l:=by
  unfold packT;rw[toList_mk];exact uI.2 ⟨h,rfl⟩
 have a:opnL (packT l)=l:=by unfold opnL;rw[e];rfl
 refine⟨a,fun S=> ?_⟩;unfold opnE;rw[a,e];rfl
theorem aDS(h:packE l=0):(unpB (packT l).toList).isSome=true:=by
 unfold packT;rw[toList_mk,uI.2 ⟨h,rfl⟩];rfl
theorem wN(I:Inv S)(v:List Int):packE (lackL S.ops v)=0:=
 dC.2 ⟨qO (aA6 _ _) I.few,fun o ho=>I.right o (nI ho)⟩
theorem Gl.ev(h:Gl N)(e:Ev):Gl (evS N e)/\(evS N e).ds.length=N.ds.length:=by
 unfold evS;split
 ·split
  ·exact⟨h,rfl⟩
  ·rename_i ha;split
   ·exact⟨h,rfl⟩
   ·rename_i he;have a:0<=e.2.1/\e.2.1<N.ds.length:=by unfold out at ha;omega
    have b:e.2.1.toNat<N.ds.length:=by omega
    obtain⟨o,i,f,j⟩:=aIj (S:=dq N e.2.1.toNat) (w:=e.2.1+1) (e:=e) (by simpa using he);rw[i];refine⟨?_,jN⟩;have k:kn (dq N e.2.1.toNat) o.1.1+1=o.1.2:=by rw[f]
    rcases one_op (S:=dq N e.2.1.toNat) k with e9 | ⟨e8,e9⟩
    ·rw[e9];have:=h.take b (L:=[]) (fun o ho=>by cases ho) (us:=N.us) (fun p hp=>hp);exact this.1
    ·rw[e9];exact h.add b e8 (by rw[f];show e.2.1+1=_;omega) (fun h9=>by rw[j h9,f])
 ·split
  ·split
   ·exact⟨h,rfl⟩
   ·rename_i ha;split
    ·exact⟨h,rfl⟩
    ·split
     ·exact⟨h,rfl⟩
     ·have a:(0<=e.2.1/\e.2.1<N.ds.length)/\0<=e.2.2.1/\e.2.2.1<N.ds.length:=by unfold out at ha;omega
      have b:e.2.1.toNat<N.ds.length:=by omega
      refine⟨⟨h.few,h.inv,fun p hp=> ?_,h.who,h.own,h.plc,fun p hp=>(jB.1 hp).elim (h.ok p) (fun e=>by rw[qP.1 e];exact aDS (wN (h.inv _ b).1 _))⟩,rfl⟩;rcases jB.1 hp with hp | hp
      ·exact h.par p hp
      ·rw[qP.1 hp];refine⟨by show e.2.2.1.toNat<N.ds.length;omega,fun o ho=> ?_⟩;have d:=ho;rw[(aFo (wN (h.inv _ b).1 _)).1] at d;exact⟨_,b,nI d⟩
  ·split
   ·split
    ·exact⟨h,rfl⟩
    ·rename_i ha;have a:e.2.1.toNat<N.us.length:=by unfold out at ha;omega
     have c:Hc.par N e ∈ N.us:=by
      unfold Hc.par;rw[qA,qB a];exact jF a
     split
     ·split
      ·exact⟨h,rfl⟩
      ·refine⟨⟨h.few,h.inv,fun p hp=> ?_,h.who,h.own,h.plc,fun p hp=>(jB.1 hp).elim (h.ok p) (fun e=>by rw[qP.1 e];exact h.ok _ c)⟩,rfl⟩;rcases jB.1 hp with hp | hp
       ·exact h.par p hp
       ·rw[qP.1 hp];exact h.par _ c
     ·split
      ·exact⟨⟨h.few,h.inv,fun p hp=>h.par p (yZ hp),h.who,h.own,h.plc,fun p hp=>h.ok p (yZ hp)⟩,rfl⟩
      ·obtain⟨l,m⟩:=h.par _ c;exact⟨(h.take l m (fun p hp=>yZ hp)).1,jN⟩
   ·exact⟨h,rfl⟩
end Hc
namespace Hd
open Go.RowKit Ka Oz Hc
open La (bel)
theorem Hid.mk'{p:Prop}(h:p):Hid p:=h
abbrev ptr (X:Nat):Value:=.pointer (some ⟨X,0,none⟩)
def sameB (N:Nt):Bool:=decide (∀i,i<N.ds.length→(dq N i).book=(dq N 0).book∧(dq N i).marks=(dq N 0).marks)
abbrev evV (e:Ev):Value:=.agg #[.int .i64 e.1,.int .i64 e.2.1,.int .i64 e.2.2.1,.int .i64 e.2.2.2]
structure NetSays where
 At:World→Nat→Nt→(Nat→Prop)→Prop
 und:World→Nat→Nat
 und_eq:∀{w:World} {X:Nat} {N:Nt} {F:Nat→Prop},At w X N F→und w X=N.us.length
 lt:∀{w:World} {X:Nat} {N:Nt} {F:Nat→Prop},At w X N F→∀g,F g→g<w.heap.size
 stay:∀{w w':World} {X:Nat} {N:Nt} {F:Nat→Prop},At w X N F→Stay F w w'→w.heap.size≤w'.heap.size→At w' X N F
 new:∀(n:Nat) (w:World),1≤n→n≤4→Calls Tryz.prog 4 #[.int .i64 n] w fun e w'=>∃X F,e=.returned (.tuple #[ptr X,.nilIface])∧At w' X (nw n) F∧(∀g,F g→w.heap.size≤g)∧Below w.heap.size w w'
 none:∀(n:Int) (w:World),(n<1∨4<n)→Calls Tryz.prog 4 #[.int .i64 n] w fun e w'=>e=.returned (.tuple #[.pointer none,errV 1])∧Below w.heap.size w w'
 does:∀(X:Nat) (N:Nt) (F:Nat→Prop) (e:Ev) (w:World),At w X N F→Gl N→N.us.length≤100→Calls Tryz.prog 8 #[ptr X,evV e] w fun r w'=>r=.returned (errV (evE N e))∧∃F',At w' X (evS N e) F'∧Chg F w w'∧∀g,F' g→F g∨w.heap.size≤g
structure Nc (L:NetSays) (w0 w:World) (X:Nat) (N:Nt):Prop where
 at':∃F,L.At w X N F∧∀g,F g→w0.heap.size≤g
 gl:Gl N
 few:N.us.length≤100
 bel:Below w0.heap.size w0 w
theorem aIv{N:Nt}(h:N.us.length<=100)(e:Ev):(evS N e).us.length<=100:=by
 unfold evS;split
 ·split
  ·exact h
  ·split<;>exact h
 ·split
  ·split
   ·exact h
   ·split
    ·exact h
    ·split
     ·exact h
     ·show(N.us++[_]).length<=100
      rw[qE,vV];omega
  ·split
   ·split
    ·exact h
    ·split
     ·split
      ·exact h
      ·show(N.us++[_]).length<=100
       rw[qE,vV];omega
     ·split
      ·exact qO (List.length_eraseIdx_le ..) h
      ·exact qO (List.length_eraseIdx_le ..) h
   ·exact h
theorem Nc.does{L:NetSays}{w0 w:World}{X:Nat}{N:Nt}(h:Nc L w0 w X N)(e:Ev):Calls prog 8 #[ptr X,evV e] w fun r w'=>r=.returned (errV (evE N e))/\Hid (Nc L w0 w' X (evS N e)):=by
 obtain⟨F,b,a⟩:=h.at';refine(L.does X N F e w b h.gl h.few).mono ?_;rintro r w' ⟨c,F',d,f,i⟩;refine⟨c,⟨F',d,fun g hg=> ?_⟩,(h.gl.ev e).1,aIv h.few e,f.below a h.bel h.bel.size⟩;rcases i g hg with e9 | e9
 ·exact a g e9
 ·have:=h.bel.size;omega
def t1:Ev:=(1,0,0,104)
def d1:Ev:=(4,0,0,0)
def aC4 (w:World) (p:Option Addr) (l:List Ev):Prop:=l=[]∨∃b o,p=some ⟨b,o,none⟩∧∀j,j<l.length→w.cell? ⟨b,o+j*4,none⟩=some (.int .i64 (l.getD j (0,0,0,0)).1)∧w.cell? ⟨b,o+j*4+1,none⟩=some (.int .i64 (l.getD j (0,0,0,0)).2.1)∧w.cell? ⟨b,o+j*4+2,none⟩=some (.int .i64 (l.getD j (0,0,0,0)).2.2.1)∧w.cell? ⟨b,o+j*4+3,none⟩=some (.int .i64 (l.getD j (0,0,0,0)).2.2.2)
theorem aC4.some{w:World}{p:Option Addr}{l:List Ev}(h:aC4 w p l){j:Nat}(hj:j<l.length):∃b o,p=some ⟨b,o,none⟩∧∀W:World,Below w.heap.size w W→W.cell? ⟨b,o+j*4,none⟩=some (.int .i64 (l.getD j (0,0,0,0)).1)∧W.cell? ⟨b,o+j*4+1,none⟩=some (.int .i64 (l.getD j (0,0,0,0)).2.1)∧W.cell? ⟨b,o+j*4+2,none⟩=some (.int .i64 (l.getD j (0,0,0,0)).2.2.1)∧W.cell? ⟨b,o+j*4+3,none⟩=some (.int .i64 (l.getD j (0,0,0,0)).2.2.2):=by
 rcases h with h | ⟨b,o,hp,hc⟩
 ·rw[h] at hj;simp at hj
 ·obtain⟨h0,h1,h2,h3⟩:=hc j hj
  exact⟨b,o,hp,fun W hb=>⟨aA hb h0,aA hb h1,aA hb h2,aA hb h3⟩⟩
end Hd
namespace Hi
structure Kind where
 A:World→Nat→Dq→(Nat→Prop)→Prop
 lt:∀{w:World} {E:Nat} {S:Dq} {F:Nat→Prop},A w E S F→∀g,F g→g<w.heap.size
 stay:∀{w w':World} {E:Nat} {S:Dq} {F:Nat→Prop},A w E S F→Stay F w w'→w.heap.size≤w'.heap.size→A w' E S F
def aGH:Kind:=⟨DocAt,fun h=>h.lt,fun h hs hz=>h.stay hs hz⟩
def upd {α :Type} (f:Nat→ α) (i:Nat) (x: α):Nat→ α :=fun j=>if j=i then x else f j
theorem bU{α :Type}(f:Nat-> α)(i:Nat)(x: α):upd f i x i=x:=by unfold upd;rw[if_pos rfl]
variable {i n:Nat}{K:Kind}{w w':World}{E:Nat->Nat}{S:Nat->Dq}{F:Nat->Nat->Prop}{T:Dq}{G:Nat->Prop}
theorem bL{α :Type}(f:Nat-> α){j:Nat}(x: α)(h:j≠i):upd f i x j=f j:=by unfold upd;rw[if_neg h]
structure Rowd (K:Kind) (w:World) (n:Nat) (E:Nat→Nat) (S:Nat→Dq) (F:Nat→Nat→Prop):Prop where
 at':∀i,i<n→K.A w (E i) (S i) (F i)
 apart:∀i j,i<n→j<n→i≠j→∀g,F i g→¬F j g
theorem Rowd.none(K:Kind)(w:World)(E:Nat->Nat)(S:Nat->Dq)(F:Nat->Nat->Prop):Rowd K w 0 E S F:=⟨fun i hi=>absurd hi (Nat.not_lt_zero i),fun i _ hi=>absurd hi (Nat.not_lt_zero i)⟩
def All (n:Nat) (F:Nat→Nat→Prop) (g:Nat):Prop:=∃i,i<n∧F i g
theorem Rowd.lt{K:Kind}{w:World}{n:Nat}{E:Nat->Nat}{S:Nat->Dq}{F:Nat->Nat->Prop}(h:Rowd K w n E S F):∀g,All n F g->g<w.heap.size:=by
 rintro g ⟨i,a,b⟩;exact K.lt (h.at' i a) g b
theorem Rowd.stay{K:Kind}{w w':World}{n:Nat}{E:Nat->Nat}{S:Nat->Dq}{F:Nat->Nat->Prop}(h:Rowd K w n E S F)(hs:Stay (All n F) w w')(hz:w.heap.size<=w'.heap.size):Rowd K w' n E S F:=
 ⟨fun i hi=>K.stay (h.at' i hi) (fun g hg=>hs g ⟨i,hi,hg⟩) hz,h.apart⟩
theorem Rowd.below(h:Rowd K w n E S F)(hb:zB w w'):Rowd K w' n E S F:=h.stay (fun g hg=>hb.block g (h.lt g hg)) hb.size
theorem Rowd.aAH(h:Rowd K w n E S F)(hi:i<n)(hA:K.A w' (E i) T G)(hc:Chg (F i) w w')(hG:∀g,G g->F i g\/w.heap.size<=g):Rowd K w' n E (upd S i T) (upd F i G):=by
 refine⟨fun j hj=> ?_,fun a b ha hb hab g=> ?_⟩
 ·by_cases e:j=i
  ·subst e;rw[bU,bU];exact hA
  ·rw[bL _ _ e,bL _ _ e];exact K.stay (h.at' j hj) (hc.stay fun g hg=>⟨K.lt (h.at' j hj) g hg,h.apart j i hj hi e g hg⟩) hc.size
 ·by_cases d:a=i
  ·subst d;rw[bU,bL _ _ (Ne.symm hab)];intro hg hb2;rcases hG g hg with e | e
   ·exact h.apart a b ha hb hab g e hb2
   ·have:=K.lt (h.at' b hb) g hb2;omega
  ·rw[bL _ _ d];by_cases f:b=i
   ·subst f;rw[bU];intro hg hb2;rcases hG g hb2 with e | e
    ·exact h.apart a b ha hb hab g hg e
    ·have:=K.lt (h.at' a ha) g hg;omega
   ·rw[bL _ _ f];exact h.apart a b ha hb hab g
theorem Rowd.aBt(hi:i<n)(hG:∀g,G g->F i g\/w.heap.size<=g):∀g,All n (upd F i G) g->All n F g\/w.heap.size<=g:=by
 rintro g ⟨j,c,a⟩;by_cases e:j=i
 ·subst e;rw[bU] at a;rcases hG g a with e | e
  ·exact qH ⟨j,c,e⟩
  ·exact qF e
 ·rw[bL _ _ e] at a;exact qH ⟨j,c,a⟩
theorem Rowd.push(h:Rowd K w n E S F)(hb:zB w w'){D:Nat}(hA:K.A w' D T G)(hG:∀g,G g->w.heap.size<=g):Rowd K w' (n+1) (upd E n D) (upd S n T) (upd F n G):=by
 refine⟨fun j hj=> ?_,fun a b ha hb hab g=> ?_⟩
 ·by_cases e:j=n
  ·subst e;rw[bU,bU,bU];exact hA
  ·rw[bL _ _ e,bL _ _ e,bL _ _ e];exact(h.below hb).at' j (by omega)
 ·by_cases c:a=n
  ·subst c;rw[bU,bL _ _ (Ne.symm hab)];intro hg hb2;have:=hG g hg;have:=K.lt (h.at' b (by omega)) g hb2;omega
  ·rw[bL _ _ c];by_cases d:b=n
   ·subst d;rw[bU];intro hg hb2;have:=hG g hb2;have:=K.lt (h.at' a (by omega)) g hg;omega
   ·rw[bL _ _ d];exact h.apart a b (by omega) (by omega) hab g
theorem Rowd.same{E':Nat->Nat}{T:Nat->Dq}(h:Rowd K w n E S F)(he:∀i,i<n->E' i=E i)(hs:∀i,i<n->T i=S i):Rowd K w n E' T F:=
 ⟨fun i hi=>by rw[he i hi,hs i hi];exact h.at' i hi,h.apart⟩
end Hi
end Go.Proofs.YtjcemlmlfoilmaaGreatDoor
