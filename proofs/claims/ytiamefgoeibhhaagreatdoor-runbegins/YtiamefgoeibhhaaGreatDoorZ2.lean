import Derived.Test.YtiamefgoeibhhaaGreatDoorU0
import Derived.Test.YtiamefgoeibhhaaGreatDoorZ1
set_option linter.unusedVariables false
set_option maxRecDepth 100000
set_option maxHeartbeats 8000000
namespace Go.Proofs.YtiamefgoeibhhaaGreatDoor
namespace Rz0
open Cm Om Hm Um
def e0:ByteArray:=⟨#[]⟩
def tabF:Nat→ByteArray→List ByteArray
 | 0,p=>[p]
 | n+1,p=>p::tabF n (stepP p e0 1)
def e8 (a b:ByteArray):Bool:=decide (rowE a b 2 2=0)
def ckT:List ByteArray→Bool
 | []=>true
 | [a]=>e8 a e0
 | a::b::r=>(e8 a e0&&e8 a b)&&ckT (b::r)
theorem row60:rowE e0 e0 1 60=0:=by decide +kernel
theorem ck60:ckT (tabF 60 e0)=true:=by decide +kernel
theorem nth_shift (p b:ByteArray) (u:Int):∀k,nthP p b u (k+1)=nthP (stepP p b u) b u k
 | 0=>rfl
 | k+1=>by
  show stepP (nthP p b u (k+1)) b u=stepP (nthP (stepP p b u) b u k) b u
  rw[nth_shift p b u k]
theorem tab_len:∀n p,(tabF n p).length=n+1
 | 0,p=>rfl
 | n+1,p=>by rw[tabF,List.length_cons,tab_len]
theorem tab_at:∀n p k,k≤n→(tabF n p).getD k e0=nthP p e0 1 k
 | 0,p,k,h=>by
  obtain rfl:k=0:=by omega
  rfl
 | n+1,p,0,h=>rfl
 | n+1,p,k+1,h=>by
  rw[tabF,List.getD_cons_succ,tab_at n _ k (by omega),nth_shift]
theorem ck_at:∀(l:List ByteArray),ckT l=true→∀k,k<l.length→rowE (l.getD k e0) e0 2 2=0∧(k+1<l.length→rowE (l.getD k e0) (l.getD (k+1) e0) 2 2=0)
 | [],_,k,h=>absurd h (by simp)
 | [a],hc,k,h=>by
  obtain rfl:k=0:=by simpa using h
  exact⟨of_decide_eq_true hc,fun h=>absurd h (by simp)⟩
 | a::b::r,hc,k,h=>by
  unfold ckT at hc
  simp only[Bool.and_eq_true] at hc
  cases k with
  | zero=>exact⟨of_decide_eq_true hc.1.1,fun _=>of_decide_eq_true hc.1.2⟩
  | succ k=>
   have:=ck_at (b::r) hc.2 k (by simpa using h)
   simpa using this
def pl (k:Nat):ByteArray:=nthP e0 e0 1 k
theorem pl_row {k:Nat} (h:k≤60):rowE (pl k) e0 2 2=0∧(k<60→rowE (pl k) (pl (k+1)) 2 2=0):=by
 have:=ck_at _ ck60 k (by rw[tab_len];omega)
 rw[tab_at 60 e0 k h,tab_len] at this
 refine⟨this.1,fun h2=> ?_⟩
 have h3:=this.2 (by omega)
 rwa [tab_at 60 e0 (k+1) (by omega)] at h3
theorem pl_one {k:Nat} (h:k<60):rowE (pl k) e0 1 1=0:=by
 have:=row_all row60 k h
 unfold rowE rowE
 simpa[nthP,pl] using this
end Rz0
namespace Rz2
open Cm Om Hm Um Aa Ab Hc Rz1 Rz0
open Bm (Leaf none0 isS)
theorem seen_all:∀{l:List Leaf},(∀x ∈ l,isS x=true)→seenP l=l.map (·.1)
 | [],_=>rfl
 | x::l,h=>by
  rw[seenP_cons,if_pos (h x (by simp)),seen_all (fun y hy=>h y (by simp[hy]))];rfl
theorem nxt_all {l:List Leaf} (h:∀x ∈ l,isS x=true) {off:Nat} (ho:off≤l.length):nxt l off=off:=by
 have hs:(seenP l).length=l.length:=by rw[seen_all h];simp
 obtain⟨c1,c2,_⟩:=cut_off (l:=l) (off:=off) (by omega)
 rw[seen_all (fun x hx=>h x (List.mem_of_mem_take hx)),List.length_map,List.length_take] at c2
 omega
theorem left_all {l:List Leaf} (h:∀x ∈ l,isS x=true) {off:Nat} (ho:off≤l.length):leftP l off=if off=0 then e0 else(l.getD (off-1) none0).1:=by
 unfold leftP
 split
 ·rfl
 ·rw[seen_all h,List.getD_eq_getElem?_getD,List.getElem?_map,List.getD_eq_getElem?_getD,List.getElem?_eq_getElem (by omega)];rfl
theorem right_all {l:List Leaf} (h:∀x ∈ l,isS x=true) {off:Nat} (ho:off≤l.length):rightP l off=if off<l.length then(l.getD off none0).1 else e0:=by
 unfold rightP;rw[nxt_all h ho];rfl
structure Dn (S:Dq):Prop where
 inv:Inv S
 ord:Ord S
 seen:∀x ∈ S.book,isS x=true
 goE:runE d0 S.ops=0
 goS:runS d0 S.ops=S
theorem dn_zero:Dn d0:=⟨inv_zero,ord_zero,(fun x hx=>by cases hx),rfl,rfl⟩
def newO (S:Dq) (u:Int) (off:Nat) (c:Int):Ox:=insO (leftP S.book off) (rightP S.book off) u (kn S u) (oneT c) 0
theorem one_ok {c:Int} (h1:32≤c) (h2:c≤126):okText (oneT c)=true:=by
 unfold okText
 rw[one_list]
 simp only[List.all_cons,List.all_nil,Bool.and_true]
 rw[u8_let h1 h2]
 unfold Bm.isL;simp;omega
theorem type_one {S:Dq} (D:Dn S) {u:Int} (u1:1≤u) (u8':u≤8) {off:Nat} (ho:off≤S.book.length) {c:Int} (h1:32≤c) (h2:c≤126) (hl:S.book.length<300) (hp:S.ops.length<400)
  (hr:rowE (leftP S.book off) (rightP S.book off) u 1=0) (i:Int):
  edE S u (1,i,(off:Int),c)=0∧edL S u (1,i,(off:Int),c)=[newO S u off c]∧runE S [newO S u off c]=0∧
  (runS S [newO S u off c]).book=S.book.take off++(stepP (leftP S.book off) (rightP S.book off) u,c,false)::S.book.drop off∧
  (runS S [newO S u off c]).ops=S.ops++[newO S u off c]∧(runS S [newO S u off c]).marks=S.marks∧Dn (runS S [newO S u off c])∧kn (runS S [newO S u off c]) u=kn S u+1:=by
 have hs:(seenP S.book).length=S.book.length:=by rw[seen_all D.seen];simp
 have ok:InsOk S u (off:Int) (oneT c):=⟨u1,u8',by rw[one_size];omega,one_ok h1 h2,by omega,by rw[hs];omega,by rw[Int.toNat_natCast,one_size];exact hr⟩
 have hL:insL S u (off:Int) (oneT c)=[newO S u off c]:=rfl
 obtain⟨g1,g2,g3⟩:=ins_run D.inv ok (by rw[one_size];omega) (by rw[one_size];omega) 1 (by rw[one_size];exact Nat.le_refl _)
 rw[hL,List.take_of_length_le (by simp)] at g1 g2 g3
 rw[Int.toNat_natCast,nxt_all D.seen ho] at g2
 have hnews:news (leftP S.book off) (rightP S.book off) u (oneT c) 1=[(stepP (leftP S.book off) (rightP S.book off) u,c,false)]:=by
  unfold news
  rw[show List.range 1=[0] from rfl,List.map_cons,List.map_nil,one_list]
  show[(nthP _ _ u 1,_,false)]=_
  rw[List.getD_cons_zero,u8_let h1 h2];rfl
 rw[hnews,List.append_assoc,List.cons_append,List.nil_append] at g2
 obtain⟨hops,hkn⟩:=run_new u1 u8' [newO S u off c] D.inv (by rw[←hL];exact insL_next S u off (oneT c)) g1
 have hk1:=hkn u u1 u8'
 rw[if_pos rfl] at hk1
 have hb:=run_append S.ops [newO S u off c] d0
 rw[D.goE,D.goS] at hb
 simp only[ne_eq,not_true_eq_false,if_false] at hb
 refine⟨?_, ?_,g1,g2,hops,g3,⟨run_inv _ D.inv,ord_run _ D.inv D.ord, ?_, ?_, ?_⟩,hk1⟩
 ·unfold edE
  dsimp only
  rw[if_pos rfl,if_neg (by omega)]
  exact insE_zero.2 ok
 ·unfold edL;dsimp only;rw[if_pos rfl];exact hL
 ·intro x hx
  rw[g2] at hx
  rcases List.mem_append.1 hx with hx | hx
  ·exact D.seen x (List.mem_of_mem_take hx)
  ·rcases List.mem_cons.1 hx with rfl | hx
   ·unfold isS;simp;omega
   ·exact D.seen x (List.mem_of_mem_drop hx)
 ·rw[hops,hb.1];exact g1
 ·rw[hops,hb.2]
theorem ev_one {N:Nt} {i:Nat} (hi:i<N.ds.length) {e:Ev} (he:isEd e.1=true) (h1:e.2.1=(i:Int)) {L:List Ox} (hE:edE (dq N i) ((i:Int)+1) e=0) (hL:edL (dq N i) ((i:Int)+1) e=L) (hR:runE (dq N i) L=0):
  evE N e=0∧evS N e={ N with ds:=N.ds.set i (runS (dq N i) L) }:=by
 have ho:¬out N.ds.length e.2.1:=by unfold out;omega
 unfold evE evS
 rw[if_pos he,if_pos he,if_neg ho,if_neg ho,h1,Int.toNat_natCast,hE,hL]
 simp[hR]
structure Tz (S:Dq) (t:ByteArray) (j:Nat):Prop where
 dn:Dn S
 book:S.book=news e0 e0 1 t j
 marks:S.marks=[]
 ops:S.ops.length=j
 who:∀o ∈ S.ops,o.1.1=1
theorem tz_zero (t:ByteArray):Tz d0 t 0:=⟨dn_zero,rfl,rfl,rfl,fun o h=>by cases h⟩
theorem news_at (t:ByteArray) {j k:Nat} (h:k<j):(news e0 e0 1 t j).getD k none0=(pl (k+1),((t.toList.getD k 0).toNat:Int),false):=by
 unfold news
 rw[List.getD_eq_getElem?_getD,List.getElem?_map,List.getElem?_range h];rfl
theorem Tz.left {S:Dq} {t:ByteArray} {j:Nat} (h:Tz S t j) {off:Nat} (ho:off≤j):leftP S.book off=pl off:=by
 have hl:S.book.length=j:=by rw[h.book,news_len]
 rw[left_all h.dn.seen (by omega)]
 by_cases h0:off=0
 ·rw[if_pos h0,h0];rfl
 ·rw[if_neg h0,h.book,news_at t (by omega)]
  show pl (off-1+1)=pl off
  rw[show off-1+1=off by omega]
theorem Tz.right {S:Dq} {t:ByteArray} {j:Nat} (h:Tz S t j) {off:Nat} (ho:off≤j):rightP S.book off=if off<j then pl (off+1) else e0:=by
 have hl:S.book.length=j:=by rw[h.book,news_len]
 rw[right_all h.dn.seen (by omega),hl]
 split
 ·rename_i e;rw[h.book,news_at t e]
 ·rfl
theorem let_in {t:ByteArray} (ht:okText t=true) {j:Nat} (hj:j<t.size):32≤((t.toList.getD j 0).toNat:Int)∧((t.toList.getD j 0).toNat:Int)≤126:=by
 have:=let_at ht hj
 unfold Bm.isL at this
 simpa using this
theorem Tz.next {S:Dq} {t:ByteArray} {j:Nat} (h:Tz S t j) (ht:okText t=true) (hj:j<t.size) (h60:t.size≤60):
  edE S 1 (1,0,(j:Int),((t.toList.getD j 0).toNat:Int))=0∧∃o,edL S 1 (1,0,(j:Int),((t.toList.getD j 0).toNat:Int))=[o]∧runE S [o]=0∧Tz (runS S [o]) t (j+1):=by
 have hl:S.book.length=j:=by rw[h.book,news_len]
 obtain⟨c1,c2⟩:=let_in ht hj
 have hr:=h.right (Nat.le_refl j)
 rw[if_neg (by omega)] at hr
 have hle:=h.left (Nat.le_refl j)
 obtain⟨q1,q2,q3,q4,q5,q6,q7,_⟩:=type_one h.dn (u:=1) (by omega) (by omega) (off:=j) (by omega) c1 c2 (by omega) (by have:=h.ops;omega) (by rw[hr,hle];exact pl_one (by omega)) 0
 refine⟨q1,_,q2,q3,q7, ?_,by rw[q6];exact h.marks,by rw[q5,List.length_append,h.ops];rfl,fun o ho=> ?_⟩
 ·rw[q4,List.take_of_length_le (by omega),List.drop_of_length_le (by omega),hr,hle,news_next,h.book];rfl
 ·rw[q5] at ho
  rcases List.mem_append.1 ho with ho | ho
  ·exact h.who o ho
  ·rw[List.mem_singleton.1 ho];rfl
theorem typed {t:ByteArray} (ht:okText t=true) (h60:t.size≤60):∀(m j:Nat) (S:Dq) (R:List Dq),m+j=t.size→Tz S t j→∃T,Tz T t t.size∧typ ⟨S::R,[]⟩ 0 (j:Int) (t.toList.drop j)=(0,⟨T::R,[]⟩)
 | 0,j,S,R,hm,h=>by
  obtain rfl:j=t.size:=by omega
  refine⟨S,h, ?_⟩
  rw[List.drop_of_length_le (by rw[Om.len_eq];exact Nat.le_refl _)];rfl
 | m+1,j,S,R,hm,h=>by
  have hj:j<t.size:=by omega
  obtain⟨q1,o,q2,q3,q4⟩:=h.next ht hj h60
  have hjl:j<t.toList.length:=by rw[Om.len_eq];exact hj
  have hd:t.toList.drop j=t.toList.getD j 0::t.toList.drop (j+1):=by
   rw[List.drop_eq_getElem_cons hjl,List.getD_eq_getElem?_getD,List.getElem?_eq_getElem hjl];rfl
  obtain⟨v1,v2⟩:=ev_one (N:=⟨S::R,[]⟩) (i:=0) (by simp) (e:=(1,0,(j:Int),((t.toList.getD j 0).toNat:Int))) rfl rfl q1 q2 q3
  obtain⟨T,hT,hty⟩:=typed ht h60 m (j+1) _ R (by omega) q4
  refine⟨T,hT, ?_⟩
  rw[hd]
  unfold typ
  rw[if_neg (by rw[v1];simp),v2]
  exact hty
theorem sent_ok {N:Nt} (h:Ok N) {a b:Nat} (ha:a<3) (hb:b<3) (hab:a≠b) {L:List Ox} (hL:lackL (dq N a).ops (dq N b).known=L) (hr:runE (dq N b) L=0):
  sent N a b=(0,⟨N.ds.set b (runS (dq N b) L),[]⟩):=by
 have h3:=h.three
 have hu:=h.none
 have e3:evS N (3,(a:Int),(b:Int),0)={ N with us:=[(b,packT L)] }:=by
  unfold evS;dsimp only
  rw[if_neg (by decide),if_pos rfl,if_neg (by unfold out;omega),if_neg (by omega),if_neg (by rw[hu];simp),Int.toNat_natCast,Int.toNat_natCast,hL,hu];rfl
 have e3e:evE N (3,(a:Int),(b:Int),0)=0:=by
  unfold evE;dsimp only
  rw[if_neg (by decide),if_pos rfl,if_neg (by unfold out;omega),if_neg (by omega),if_neg (by rw[hu];simp)]
 have hp:=opn_pack (lack_pack (h.gl.inv a (by omega)).1 (dq N b).known)
 rw[hL] at hp
 unfold sent
 rw[if_neg (by rw[e3e];simp),e3]
 have hpar:∀x y:Int,par { N with us:=[(b,packT L)] } (4,(([(b,packT L)]:List (Nat × ByteArray)).length:Int)-1,x,y)=(b,packT L):=fun x y=>rfl
 have hdq:dq { N with us:=[(b,packT L)] } b=dq N b:=rfl
 refine Prod.ext ?_ ?_
 ·dsimp only
  unfold evE;dsimp only
  rw[if_neg (by decide),if_neg (by decide),if_pos (by decide),if_neg (by unfold out;simp),if_neg (by decide),if_neg (by decide),hpar,hdq,hp.2,hr]
 ·dsimp only
  unfold evS;dsimp only
  rw[if_neg (by decide),if_neg (by decide),if_pos (by decide),if_neg (by unfold out;simp),if_neg (by decide),if_neg (by decide),hpar,hdq,hp.1]
  rfl
end Rz2
namespace Rz3
open Cm Om Hm Um Aa Ab Hc Rz1 Rz0 Rz2
open Bm (Leaf none0 isS)
theorem word_app:∀(w r:Tx),(32:UInt8) ∉ w→word (w++32::r)=some (w,r)
 | [],r,_=>by simp[word]
 | c::w,r,h=>by
  have hc:c≠32:=fun e=>h (by rw[e];simp)
  rw[List.cons_append,word,if_neg hc,word_app w r (fun e=>h (List.mem_cons_of_mem _ e))];rfl
theorem linesF_line (b:Tx):∀(a cur:Tx),(10:UInt8) ∉ a→linesF cur (a++10::b)=(cur++a)::linesF [] b
 | [],cur,_=>by simp[linesF]
 | c::a,cur,h=>by
  have hc:c≠10:=fun e=>h (by rw[e];simp)
  rw[List.cons_append,linesF,if_neg hc,linesF_line b a _ (fun e=>h (List.mem_cons_of_mem _ e))];simp
theorem num_dec:∀a,a<61→num (Lib.decDigits a)=some a∧(32:UInt8) ∉ Lib.decDigits a∧(10:UInt8) ∉ Lib.decDigits a∧(Lib.decDigits a).length≤2:=by decide +kernel
theorem lack_all {L:List Ox} (h:∀o ∈ L,opE o=0):lackL L d0.known=L:=by
 unfold lackL
 rw[List.filter_eq_self]
 intro o ho
 have h1:=(dotE_iff.1 (opE_zero.1 (h o ho)).1).2.2.1
 rw[lack_kn]
 obtain⟨d1,d2,_,_⟩:=dotE_iff.1 (opE_zero.1 (h o ho)).1
 have hk:kn d0 o.1.1=0:=by rw[inv_zero.kno _ d1 d2];rfl
 rw[hk];simp;omega
theorem text_all:∀{l:List Leaf},(∀x ∈ l,isS x=true)→Bm.text l=l.map Bm.letter
 | [],_=>rfl
 | x::l,h=>by
  rw[Bm.text_cons,if_pos (h x (by simp)),text_all (fun y hy=>h y (by simp[hy]))];rfl
theorem getD_mid {A B:List Leaf} {x:Leaf} {k:Nat} (h:A.length=k):(A++x::B).getD k none0=x∧∀j,(A++x::B).getD (k+1+j) none0=B.getD j none0:=by
 subst h
 constructor
 ·rw[List.getD_eq_getElem?_getD,List.getElem?_append_right (Nat.le_refl _)];simp
 ·intro j
  rw[List.getD_eq_getElem?_getD,List.getD_eq_getElem?_getD,List.getElem?_append_right (by omega),show A.length+1+j-A.length=j+1 by omega];rfl
theorem row_two {a b:ByteArray} {u:Int} (h:rowE a b u 2=0):rowE a b u 1=0∧rowE (stepP a b u) b u 1=0:=by
 have h0:=row_all h 0 (by omega)
 have h1:=row_all h 1 (by omega)
 constructor
 ·unfold rowE rowE;simpa[nthP] using h0
 ·unfold rowE rowE;simpa[nthP] using h1
theorem two_more {S:Dq} {t:ByteArray} (h:Tz S t t.size) (ht:okText t=true) (h60:t.size≤60) {a:Nat} (ha:a≤t.size) (R:List Dq):
  ∃S2 o1 o2,typ ⟨S::S::R,[]⟩ 1 (a:Int) [60,62]=(0,⟨S::S2::R,[]⟩)∧Dn S2∧S2.ops=S.ops++[o1,o2]∧S2.marks=[]∧Bm.text S2.book=t.toList.take a++([60,62]++t.toList.drop a)∧
   lackL S2.ops S.known=[o1,o2]∧runE S [o1,o2]=0∧runS S [o1,o2]=S2:=by
 have hl:S.book.length=t.size:=by rw[h.book,news_len]
 have hle:=h.left ha
 have hri:=h.right ha
 have hrow:rowE (leftP S.book a) (rightP S.book a) 2 2=0:=by
  rw[hle,hri]
  have:=pl_row (k:=a) (by omega)
  split
  ·exact this.2 (by omega)
  ·exact this.1
 obtain⟨r1,r2⟩:=row_two hrow
 obtain⟨q1,q2,q3,q4,q5,q6,q7,q8⟩:=type_one h.dn (u:=2) (by omega) (by omega) (off:=a) (by omega) (c:=60) (by omega) (by omega) (by omega) (by have:=h.ops;omega) r1 1
 obtain⟨o1,ho1⟩:∃o1,o1=newO S 2 a 60:=⟨_,rfl⟩
 have ho1d:o1.1=(2,kn S 2+1):=by rw[ho1];show((2:Int),kn S 2+1+((0:Nat):Int))=_;simp
 rw[←ho1] at q2 q3 q4 q5 q6 q7 q8
 obtain⟨T,hT⟩:∃T,T=runS S [o1]:=⟨_,rfl⟩
 rw[←hT] at q4 q5 q6 q7 q8
 have hA:(S.book.take a).length=a:=by rw[List.length_take];omega
 have hTl:T.book.length=t.size+1:=by rw[q4,List.length_append,hA,List.length_cons,List.length_drop];omega
 have hleT:leftP T.book (a+1)=stepP (leftP S.book a) (rightP S.book a) 2:=by
  rw[left_all q7.seen (by omega),if_neg (by omega),Nat.add_sub_cancel,q4,(getD_mid hA).1]
 have hriT:rightP T.book (a+1)=rightP S.book a:=by
  rw[right_all q7.seen (by omega),right_all h.dn.seen (by omega),hTl,hl]
  by_cases e:a<t.size
  ·rw[if_pos (by omega),if_pos e,q4,show a+1=a+1+0 from rfl,(getD_mid hA).2 0,List.getD_eq_getElem?_getD,List.getElem?_drop,List.getD_eq_getElem?_getD];rfl
  ·rw[if_neg (by omega),if_neg e]
 obtain⟨p1,p2,p3,p4,p5,p6,p7,p8⟩:=type_one q7 (u:=2) (by omega) (by omega) (off:=a+1) (by omega) (c:=62) (by omega) (by omega) (by omega) (by rw[q5,List.length_append,h.ops];simp;omega) (by rw[hleT,hriT];exact r2) 1
 obtain⟨o2,ho2⟩:∃o2,o2=newO T 2 (a+1) 62:=⟨_,rfl⟩
 have ho2d:o2.1=(2,kn T 2+1):=by rw[ho2];show((2:Int),kn T 2+1+((0:Nat):Int))=_;simp
 rw[←ho2] at p2 p3 p4 p5 p6 p7 p8
 obtain⟨v1,v2⟩:=ev_one (N:=⟨S::S::R,[]⟩) (i:=1) (by simp) (e:=(1,1,(a:Int),60)) rfl rfl q1 q2 q3
 have v2':evS ⟨S::S::R,[]⟩ (1,1,(a:Int),60)=⟨S::T::R,[]⟩:=by rw[v2,hT];rfl
 obtain⟨x1,x2⟩:=ev_one (N:=⟨S::T::R,[]⟩) (i:=1) (by simp) (e:=(1,1,((a+1:Nat):Int),62)) rfl rfl p1 p2 p3
 have hrun:=run_append [o1] [o2] S
 rw[q3,←hT] at hrun
 simp only[ne_eq,not_true_eq_false,if_false] at hrun
 refine⟨runS T [o2],o1,o2, ?_,p7,by rw[p5,q5];simp,by rw[p6,q6];exact h.marks, ?_, ?_,by rw[show[o1,o2]=[o1]++[o2] from rfl,hrun.1];exact p3,by rw[show[o1,o2]=[o1]++[o2] from rfl];exact hrun.2⟩
 ·unfold typ
  rw[if_neg (by show¬evE ⟨S::S::R,[]⟩ (1,1,(a:Int),60)≠0;rw[v1];simp)]
  show typ (evS ⟨S::S::R,[]⟩ (1,1,(a:Int),60)) 1 ((a:Int)+1) [62]=_
  rw[v2']
  unfold typ
  rw[if_neg (by show¬evE ⟨S::T::R,[]⟩ (1,1,(a:Int)+1,62)≠0;rw[show((a:Int)+1)=((a+1:Nat):Int) by simp,x1];simp)]
  show(0,evS ⟨S::T::R,[]⟩ (1,1,(a:Int)+1,62))=_
  rw[show((a:Int)+1)=((a+1:Nat):Int) by simp,x2];rfl
 ·have hTt:T.book.take (a+1)=S.book.take a++[(stepP (leftP S.book a) (rightP S.book a) 2,60,false)]:=by
   rw[q4,List.take_append,hA,List.take_of_length_le (by rw[hA];omega),show a+1-a=1 by omega];rfl
  have hTd:T.book.drop (a+1)=S.book.drop a:=by
   rw[q4,List.drop_append,hA,List.drop_of_length_le (by rw[hA];omega),show a+1-a=1 by omega];rfl
  have hst:Bm.text S.book=t.toList:=by
   rw[h.book,(news_seen ht t.size (Nat.le_refl _)).1,List.take_of_length_le (by rw[Om.len_eq];exact Nat.le_refl _)]
  rw[text_all h.dn.seen] at hst
  rw[text_all p7.seen,p4,hTt,hTd]
  simp only[List.map_append,List.map_cons,List.map_nil]
  rw[List.map_take,List.map_drop,hst]
  simp[Bm.letter]
 ·have k1:lacks S.known o1=true:=by
   have h9:o1.1.1=2∧o1.1.2=kn S 2+1:=by rw[ho1d];exact⟨rfl,rfl⟩
   rw[lack_kn,h9.1,h9.2];simp;omega
  have k2:lacks S.known o2=true:=by
   have h9:o2.1.1=2∧o2.1.2=kn T 2+1:=by rw[ho2d];exact⟨rfl,rfl⟩
   rw[lack_kn,h9.1,h9.2,q8];simp;omega
  rw[p5,q5]
  unfold lackL
  rw[List.filter_append,List.filter_append]
  have h0:S.ops.filter (lacks S.known)=[]:=lack_none (fun o ho=>known_mem h.dn.inv h.dn.ord o ho)
  rw[h0,List.filter_cons,if_pos k1,List.filter_cons,if_pos k2];rfl
def sess (t:ByteArray) (a:Nat):List Tx:=[[116,121,112,101,32,48,32,48,32]++t.toList,[115,101,110,100,32,48,32,49],[116,121,112,101,32,49,32]++(Lib.decDigits a++[32,60,62]),[115,101,110,100,32,49,32,50],[115,101,110,100,32,50,32,48],[115,104,111,119,32,48],[115,97,109,101]]
def glue:List Tx→Tx
 | []=>[]
 | x::l=>x++10::glue l
theorem lines_glue:∀(l:List Tx),(∀x ∈ l,(10:UInt8) ∉ x)→lines (glue l)=l
 | [],_=>rfl
 | x::l,h=>by
  unfold lines glue
  rw[linesF_line _ x [] (h x (by simp)),List.nil_append]
  have:=lines_glue l (fun y hy=>h y (by simp[hy]))
  unfold lines at this
  rw[this]
theorem cmd1 (t:Tx):cmd ([116,121,112,101,32,48,32,48,32]++t)=.type 0 0 t:=by
 have e:([116,121,112,101,32,48,32,48,32]++t:Tx)=wType++32::([48]++32::([48]++32::t)):=rfl
 have hn:num [48]=some 0:=by decide +kernel
 unfold cmd
 rw[if_neg (by simp[wSame]),e,word_app wType _ (by decide)]
 dsimp only
 rw[if_pos rfl]
 unfold typC
 rw[word_app [48] _ (by decide)]
 dsimp only
 rw[word_app [48] _ (by decide)]
 dsimp only
 rw[hn]
theorem cmd3 {a:Nat} (h:a<61):cmd ([116,121,112,101,32,49,32]++(Lib.decDigits a++[32,60,62]))=.type 1 a [60,62]:=by
 have e:([116,121,112,101,32,49,32]++(Lib.decDigits a++[32,60,62]):Tx)=wType++32::([49]++32::(Lib.decDigits a++32::[60,62])):=rfl
 have hn:num [49]=some 1:=by decide +kernel
 obtain⟨h1,h2,_⟩:=num_dec a h
 unfold cmd
 rw[if_neg (by simp[wSame]),e,word_app wType _ (by decide)]
 dsimp only
 rw[if_pos rfl]
 unfold typC
 rw[word_app [49] _ (by decide)]
 dsimp only
 rw[word_app _ _ h2]
 dsimp only
 rw[hn,h1]
theorem cmd2:cmd [115,101,110,100,32,48,32,49]=.send 0 1∧cmd [115,101,110,100,32,49,32,50]=.send 1 2∧cmd [115,101,110,100,32,50,32,48]=.send 2 0∧cmd [115,104,111,119,32,48]=.shw 0∧cmd [115,97,109,101]=.same:=by
 refine⟨?_, ?_, ?_, ?_, ?_⟩<;>kernel_rfl
theorem types {t:ByteArray} (ht:okText t=true) (h60:t.size≤60) {a:Nat} (ha:a≤t.size):
  sesT (glue (sess t a))=glue [tOk,tOk,tOk,tOk,tOk,39::(t.toList.take a++([60,62]++t.toList.drop a)++[39]),tYes]:=by
 have hd:=num_dec a (by omega)
 have h10:(10:UInt8) ∉ t.toList:=fun hm=>by
  have:=List.all_eq_true.1 ht 10 hm
  revert this;decide
 have hno:∀x ∈ sess t a,(10:UInt8) ∉ x:=by
  intro x hx
  unfold sess at hx
  simp only[List.mem_cons,List.not_mem_nil,or_false] at hx
  rcases hx with rfl | rfl | rfl | rfl | rfl | rfl | rfl
  ·intro hm;rcases List.mem_append.1 hm with hm | hm
   ·revert hm;decide
   ·exact h10 hm
  ·decide
  ·intro hm;rcases List.mem_append.1 hm with hm | hm
   ·revert hm;decide
   ·rcases List.mem_append.1 hm with hm | hm
    ·exact hd.2.2.1 hm
    ·revert hm;decide
  ·decide
  ·decide
  ·decide
  ·decide
 have hlen:¬3000<(glue (sess t a)).length:=by
  have h1:=hd.2.2.2
  have h2:=Om.len_eq t
  simp only[sess,glue,List.length_append,List.length_cons,List.length_nil]
  omega
 unfold sesT
 rw[if_neg hlen,lines_glue _ hno]
 obtain⟨S,hS,hty⟩:=typed ht h60 t.size 0 d0 [d0,d0] (by omega) (tz_zero t)
 rw[List.drop_zero] at hty
 obtain⟨S2,o1,o2,g1,g2,g3,g4,g5,g6,g7,g8⟩:=two_more hS ht h60 ha [d0]
 have k0:Ok (nw 3):=ok_nw
 have k1:Ok ⟨[S,d0,d0],[]⟩:=by have:=Ok.typ t.toList k0 0 0;rw[show nw 3=⟨[d0,d0,d0],[]⟩ from rfl,show((0:Nat):Int)=0 from rfl] at *;rw[hty] at this;exact this
 have s1:sent ⟨[S,d0,d0],[]⟩ ((0:Nat):Int) ((1:Nat):Int)=(0,⟨[S,S,d0],[]⟩):=by
  rw[sent_ok k1 (a:=0) (b:=1) (by omega) (by omega) (by omega) (L:=S.ops) (lack_all hS.dn.inv.right) hS.dn.goE]
  show(0,(⟨[S,runS d0 S.ops,d0],[]⟩:Nt))=_
  rw[hS.dn.goS]
 have k2:Ok ⟨[S,S,d0],[]⟩:=by have:=k1.sent ((0:Nat):Int) ((1:Nat):Int);rw[s1] at this;exact this
 have k3:Ok ⟨[S,S2,d0],[]⟩:=by have:=Ok.typ [60,62] k2 1 (a:Int);rw[g1] at this;exact this
 have s2:sent ⟨[S,S2,d0],[]⟩ ((1:Nat):Int) ((2:Nat):Int)=(0,⟨[S,S2,S2],[]⟩):=by
  rw[sent_ok k3 (a:=1) (b:=2) (by omega) (by omega) (by omega) (L:=S2.ops) (lack_all g2.inv.right) g2.goE]
  show(0,(⟨[S,S2,runS d0 S2.ops],[]⟩:Nt))=_
  rw[g2.goS]
 have k4:Ok ⟨[S,S2,S2],[]⟩:=by have:=k3.sent ((1:Nat):Int) ((2:Nat):Int);rw[s2] at this;exact this
 have s3:sent ⟨[S,S2,S2],[]⟩ ((2:Nat):Int) ((0:Nat):Int)=(0,⟨[S2,S2,S2],[]⟩):=by
  rw[sent_ok k4 (a:=2) (b:=0) (by omega) (by omega) (by omega) (L:=[o1,o2]) g6 g7]
  show(0,(⟨[runS S [o1,o2],S2,S2],[]⟩:Nt))=_
  rw[g8]
 have hsame:sameN ⟨[S2,S2,S2],[]⟩=true:=by
  unfold sameN
  refine decide_eq_true ?_
  intro i hi
  have:dq ⟨[S2,S2,S2],[]⟩ i=S2:=by
   match i,hi with
   | 0,_=>rfl
   | 1,_=>rfl
   | 2,_=>rfl
  rw[this];exact⟨rfl,rfl⟩
 unfold sess
 simp only[ans,cmd1,cmd2.1,cmd3 (show a<61 by omega),cmd2.2.1,cmd2.2.2.1,cmd2.2.2.2.1,cmd2.2.2.2.2,doC_type,doC_send,doC_shw,doC_same]
 rw[show nw 3=⟨[d0,d0,d0],[]⟩ from rfl]
 have hty':typ ⟨[d0,d0,d0],[]⟩ ((0:Nat):Int) ((0:Nat):Int) t.toList=(0,⟨[S,d0,d0],[]⟩):=hty
 rw[hty']
 dsimp only
 rw[s1]
 dsimp only
 have g1':typ ⟨[S,S,d0],[]⟩ ((1:Nat):Int) ((a:Nat):Int) [60,62]=(0,⟨[S,S2,d0],[]⟩):=g1
 rw[g1']
 dsimp only
 rw[s2]
 dsimp only
 rw[s3]
 dsimp only
 rw[hsame,if_pos rfl,if_pos (by simp),show dq ⟨[S2,S2,S2],[]⟩ 0=S2 from rfl,g5]
 simp[glue,well]
end Rz3
end Go.Proofs.YtiamefgoeibhhaaGreatDoor
