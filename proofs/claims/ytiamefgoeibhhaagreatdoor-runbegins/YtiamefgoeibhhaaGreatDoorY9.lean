import Derived.Test.YtiamefgoeibhhaaGreatDoorY7
import Derived.Test.YtiamefgoeibhhaaGreatDoorY8
import Derived.WalkKit
import Derived.OwnWalkIn
import Derived.TacticsInMore
import Derived.LoopNIn
import Derived.LoopIn
set_option linter.unusedSimpArgs false
set_option linter.unusedVariables false
set_option maxRecDepth 100000
set_option maxHeartbeats 8000000
namespace Go.Proofs.YtiamefgoeibhhaaGreatDoor
namespace Rx9
open Go.ChangeShapes Go.WideShapes Go.ChangeAt Go.RowKit Go.Shelf Cm Ka Om Hm Ia Hc Hd Hl Rz1 Rz4 Rx1 Rx3 Rx5 Rx7 Rx8
open La (bel bel_drew errV_zero errV_ne)
open Di (Lib3)
attribute [local go_sem] Oper.semAt_some
def strOf:Value→ByteArray
 | .string s=>s
 | _=>⟨#[]⟩
theorem lines_mk {r:ByteArray} (h:r.toList≠[]):(lines r.toList).map mk=mk (Lib.cut r.toList [10]).1::(lines (Lib.cut r.toList [10]).2.1).map mk:=by
 rw[lines_cut h];rfl
theorem mk_size (l:Tx):(mk l).size=l.length:=by rw[←Kb.len_eq,Om.toList_mk]
theorem lines1_in (n:Nat) (hn:2≤n) (t:ByteArray) (ht:t.size≤3000) (l bt:Nat) (K:List ByteArray→World→Prop) (W:World)
  (hKb:∀pre W1 W2,K pre W1→Below W1.heap.size W1 W2→K pre W2) (hKL:∀pre W1,K pre W1→Lib3 W1) (hc:W.cell? ⟨bt,0,none⟩=some (.string t))
  (hY:∀pre x W1,K pre W1→pre++[x] <+:(lines t.toList).map mk→YieldAt Fence.wide (n-1) Tryz.prog l #[.string x] W1 fun e W'=>e=.returned (.bool true)∧K (pre++[x]) W') (h0:K [] W):
  CallsIn Fence.wide n Tryz.prog 28 #[.func (.yield l) #[] #[],.pointer (some ⟨bt,0,none⟩)] W fun e W'=>(∃v,e=.returned v)∧K ((lines t.toList).map mk) W':=by
 have H0:=mkH h0
 have HT:=mkH ht
 have HKB:=mkH hKb
 have HKL:=mkH hKL
 have HY:=mkH hY
 clear h0 ht hKb hKL hY
 refine callsIn_of_wp Tryz.func28 rfl trivial ?_ rfl
 simp only[Tryz.ntmps28,List.size_toArray,List.length_cons,List.length_nil,Nat.reduceAdd,Nat.reduceSub,Array.replicate_succ,Array.replicate_zero,List.push_toArray,List.append_toArray,List.nil_append,List.cons_append]
 gi_wp2
 clear hc
 gi_loopw [3,4] (fun v3 _ wr=>∃(pre:List ByteArray) (r:ByteArray),v3=.string r∧Hid ((lines t.toList).map mk=pre++(lines r.toList).map mk)∧r.size≤3000∧Hid (K pre wr)) (fun v3 _ _=>(strOf v3).size)
 case atStart=>exact⟨[],t,rfl,rfl,HT.out,H0⟩
 case round=>
  clear H0
  obtain⟨pre,r,rfl,HX,hr3,HK⟩:=hrel
  by_cases he:r.toList=[]
  ·have e1:(r.toList==[])=true:=by rw[he];rfl
   have e2:(r.toList !=[])=false:=by rw[he];rfl
   have HF:Hid (K ((lines t.toList).map mk) wr):=by
    unfold Hid;rw[HX.out,he,show(lines []).map mk=[] from rfl,List.append_nil];exact HK.out
   clear he
   gi_wp2
   go_end0
   exact⟨⟨_,rfl⟩,HF.out⟩
  ·have e1:(r.toList==[])=false:=by simpa using he
   have e2:(r.toList !=[])=true:=by simpa using he
   have HL:=lines_mk he
   have hlt:=cut_less he 10
   obtain⟨m,hm⟩:=(HKL.out pre wr HK.out).2.1
   have C:=Tryz.strings_Cut r ⟨#[10]⟩ m wr (by omega) hm
   rw[show r.data.toList=r.toList by rw[ByteArray.toList_eq],show(⟨#[10]⟩:ByteArray).data.toList=[10] from rfl] at C
   obtain⟨x,hx⟩:∃x:ByteArray,x=mk (Lib.cut r.toList [10]).1:=⟨_,rfl⟩
   obtain⟨q,hq⟩:∃q:ByteArray,q=mk (Lib.cut r.toList [10]).2.1:=⟨_,rfl⟩
   obtain⟨b,hb⟩:∃b,b=(Lib.cut r.toList [10]).2.2:=⟨_,rfl⟩
   rw[show(⟨(Lib.cut r.toList [10]).1.toArray⟩:ByteArray)=x from hx.symm,show(⟨(Lib.cut r.toList [10]).2.1.toArray⟩:ByteArray)=q from hq.symm,←hb] at C
   have hql:q.toList=(Lib.cut r.toList [10]).2.1:=by rw[hq];exact Om.toList_mk _
   have HQ:Hid (q.size<r.size):=by unfold Hid;rw[hq,mk_size,←Kb.len_eq r];exact hlt
   rw[←hx,←hql] at HL
   have HX2:Hid ((lines t.toList).map mk=(pre++[x])++(lines q.toList).map mk):=by unfold Hid;rw[HX.out,HL];simp
   have hq3:q.size≤3000:=by have:=HQ.out;omega
   clear HL hlt hm hx hq hb hql he
   gi_wp2_with fail
   refine⟨trivial,fun _=>by omega, ?_⟩
   refine(callsIn_wide.2 C).mono ?_
   rintro e w2 ⟨rfl,k,rfl⟩
   have HK2:=mkH (HKB.out _ _ _ HK.out (bel_drew (Below.refl _ _) k))
   generalize World.drewN wr k=w2 at HK2 ⊢
   obtain⟨fn,tmps,assign,body,hy,hR⟩:=HY.out pre x w2 HK2.out ⟨_,HX2.out.symm⟩
   clear C
   gi_wp2
   refine⟨fun _=>by omega,hR.mono ?_⟩
   rintro e3 W3 ⟨rfl,hK3⟩
   have HK3:=mkH hK3
   clear hR hy hK3
   gi_wp2
   go_roundw
   case rel=>exact⟨pre++[x],q,rfl,HX2,hq3,HK3⟩
   case measure=>exact HQ.out
theorem doC_len {N:Nt} (h:Ok N) (c:Cmd):(doC N c).1.length≤20000:=by
 rcases c with⟨_ | _ | _ | _ | _ | _ | _ | n,e,i,k,t⟩
 ·exact well_len _
 ·exact well_len _
 ·exact well_len _
 ·show(if i<N.ds.length then 39::(Bm.text (dq N i).book++[39]) else nRange).length≤20000
  split
  ·next hi=>
   have:=text_300 (dq_inv h hi)
   simp;omega
  ·decide
 ·show(if i<N.ds.length then partsT (dq N i) else nRange).length≤20000
  split
  ·next hi=>
   have I:=dq_inv h hi
   have h1:=joinL 124 300 ((List.range (Sm.heads (dq N i).marks).length).map (Sm.sliceB (dq N i).book (Sm.heads (dq N i).marks))) (fun x hx=>by
    obtain⟨k,_,rfl⟩:=List.mem_map.1 hx
    exact Rx6.sl_len _ I k)
   have h2:=Sd.heads_len I.marks
   rw[List.length_map,List.length_range] at h1
   unfold partsT;omega
  ·decide
 ·show(if i<N.ds.length then whoT (dq N i) else nRange).length≤20000
  split
  ·next hi=>
   have I:=dq_inv h hi
   have hw:=(Sq1.runs_ok (Bm.bookE_zero.1 I.book).2.1).wrt
   have ht:=text_300 I
   have h1:=joinL 32 1000 (((Sq1.wrt (Sq1.runs (dq N i).book)).take 3).map fun n=>Lib.decDigits n.toNat) (fun x hx=>by
    obtain⟨n,hn,rfl⟩:=List.mem_map.1 hx
    obtain⟨j,hj,e⟩:=List.getElem_of_mem (List.mem_of_mem_take hn)
    have h2:=(Rx6.tot_le _ j hw.pos).1
    have h3:=hw.sum
    have h4:=hw.pos n (List.mem_of_mem_take hn)
    rw[List.getD_eq_getElem?_getD,List.getElem?_eq_getElem hj,Option.getD_some,e] at h2
    have:=Rw0.dec_len n.toNat
    omega)
   rw[List.length_map] at h1
   have h3:((Sq1.wrt (Sq1.runs (dq N i).book)).take 3).length≤3:=by rw[List.length_take];omega
   have h4:((Sq1.wrt (Sq1.runs (dq N i).book)).take 3).length*(1000+1)≤3*(1000+1):=Nat.mul_le_mul_right _ h3
   unfold whoT;omega
  ·decide
 ·show(if sameN N then tYes else tNo).length≤20000
  split<;>decide
 ·show tBad.length≤20000;decide
theorem ans_len:∀(l:List Tx) (N:Nt),Ok N→(ans N l).length≤l.length*20001
 | [],N,h=>by simp[ans]
 | s::r,N,h=>by
  have h1:=doC_len h (cmd s)
  have h2:=ans_len r _ (h.does s)
  rw[ans,List.length_append,List.length_cons,List.length_cons,Nat.succ_mul];omega
theorem lines_len:∀(k:Nat) (s:Tx),s.length≤k→(lines s).length≤s.length∧∀x ∈ lines s,x.length≤s.length
 | 0,s,h=>by
  obtain rfl:s=[]:=List.eq_nil_of_length_eq_zero (by omega)
  exact⟨Nat.le_refl 0,by intro x hx;cases hx⟩
 | k+1,s,h=>by
  by_cases he:s=[]
  ·subst he;exact⟨Nat.le_refl 0,by intro x hx;cases hx⟩
  ·have h1:=cut_less he 10
   have h2:=lines_len k (Lib.cut s [10]).2.1 (by omega)
   have h3:=cut_le s 10
   rw[lines_cut he]
   refine⟨by rw[List.length_cons];omega,fun x hx=> ?_⟩
   rcases List.mem_cons.1 hx with e | e
   ·rw[e];exact h3.1
   ·have:=h2.2 x e;omega
abbrev tls (pre:List ByteArray):List Tx:=pre.map fun x=>x.toList
structure Jn (wb:World) (X b bn bt D:Nat) (t:ByteArray) (pre:List ByteArray) (W:World):Prop where
 ex:∃F G,At W X (ansS (nw 3) (tls pre)) F∧Bd W wb.heap.size b (ans (nw 3) (tls pre)) G∧(∀g,F g→¬G g∧g≠bn∧g≠bt∧g≠D∧g≠D+1∧wb.heap.size≤g)∧(∀g,G g→g≠bn∧g≠bt∧g≠D∧g≠D+1∧wb.heap.size≤g)
 n:W.heap[bn]? =some (.cells #[ptr X] 30)
 t:W.heap[bt]? =some (.cells #[.string t] 9)
 bel:Below wb.heap.size wb W
theorem Jn.below {wb:World} {X b bn bt D:Nat} {t:ByteArray} {pre:List ByteArray} {W W':World} (h:Jn wb X b bn bt D t pre W) (hb:Below W.heap.size W W'):Jn wb X b bn bt D t pre W':=by
 obtain⟨F,G,h1,h2,h3,h4⟩:=h.ex
 exact⟨⟨F,G,h1.below hb,h2.below hb,h3,h4⟩,(hb.block _ (Array.getElem?_eq_some_iff.1 h.n).1).trans h.n,(hb.block _ (Array.getElem?_eq_some_iff.1 h.t).1).trans h.t,La.bel h.bel hb⟩
theorem below_put {B:Nat} {w W:World} (h:Below B w W) {l:Nat} (hl:B≤l) (o:Obj):Below B w (W.putObj l o):=
 ⟨h.os,h.tape,h.output,by have:=h.size;simpa using this,fun k hk=>(World.putObj_heap_other (by omega)).trans (h.block k hk)⟩
theorem Jn.put {wb:World} {X b bn bt D:Nat} {t:ByteArray} {pre:List ByteArray} {W:World} (h:Jn wb X b bn bt D t pre W) (hn:bn≠D+1) (ht:bt≠D+1) (hD:wb.heap.size≤D+1) (o:Obj):Jn wb X b bn bt D t pre (W.putObj (D+1) o):=by
 obtain⟨F,G,h1,h2,h3,h4⟩:=h.ex
 have hz:W.heap.size≤(W.putObj (D+1) o).heap.size:=by simp
 exact⟨⟨F,G,h1.stay (fun g hg=>World.putObj_heap_other (h3 g hg).2.2.2.2.1) hz,h2.stay (fun g hg=>World.putObj_heap_other (h4 g hg).2.2.2.1) hz,h3,h4⟩,(World.putObj_heap_other hn).trans h.n,(World.putObj_heap_other ht).trans h.t,below_put h.bel hD o⟩
end Rx9
namespace Rxa
open Go.ChangeShapes Go.WideShapes Go.ChangeAt Go.RowKit Go.Shelf Cm Ka Om Hm Ia Hc Hd Hl Rz1 Rz4 Rx1 Rx3 Rx5 Rx7 Rx8 Rx9
open La (bel_drew errV_zero errV_ne)
open Di (Lib3)
attribute [local go_sem] Oper.semAt_some
theorem run_long (t:ByteArray) (w:World) (h:3000<t.size) (ht:t.size≤maxLen):Calls Tryz.prog 6 #[.string t] w fun e w'=>e=.returned (.string ⟨(sesT t.toList).toArray⟩)∧Below w.heap.size w w':=by
 have hz:(3000:Int)<t.size:=by omega
 have HS:Hid ((⟨(sesT t.toList).toArray⟩:ByteArray)=⟨#[116,111,111,32,108,111,110,103,10]⟩):=by
  unfold Hid sesT;rw[if_pos (by rw[Kb.len_eq];exact h)];rfl
 clear h ht
 go_enter Tryz.func6,Tryz.ntmps6
 go_wp2
 go_ret
 exact⟨by rw[HS.out];rfl,Below.refl _ _⟩
theorem lines_any (t:ByteArray) (w:World):Calls Tryz.prog 12 #[.string t] w fun e w'=>e=.returned (.func (.func 28) #[] #[.pointer (some ⟨w.heap.size,0,none⟩)])∧w'=w.alloc (.cells #[.string t] 9):=by
 go_enter Tryz.func12,Tryz.ntmps12
 go_wp2
 go_ret
 exact⟨rfl,rfl⟩
theorem Jn.step {wb:World} {X b bn bt D:Nat} {t:ByteArray} {pre:List ByteArray} {W W1:World} {x:ByteArray} {F G:Nat→Prop} {r:Ending} (hD:D+1<W.heap.size) (hn:bn<W.heap.size) (ht:bt<W.heap.size) (hbW:Below wb.heap.size wb W)
  (h3:∀g,F g→¬G g∧g≠bn∧g≠bt∧g≠D∧g≠D+1∧wb.heap.size≤g) (h4:∀g,G g→g≠bn∧g≠bt∧g≠D∧g≠D+1∧wb.heap.size≤g)
  (hBd:Bd W wb.heap.size b (ans (nw 3) (tls pre)) G) (hnn:W.heap[bn]? =some (.cells #[ptr X] 30)) (htt:W.heap[bt]? =some (.cells #[.string t] 9))
  (ha:AnPost F W X (ansS (nw 3) (tls pre)) x.toList r W1):
  ∃(T:ByteArray) (F1:Nat→Prop),r=.returned (.string T)∧T.toList=(doC (ansS (nw 3) (tls pre)) (cmd x.toList)).1∧At W1 X (doC (ansS (nw 3) (tls pre)) (cmd x.toList)).2 F1∧(∀g,F1 g→F g∨W.heap.size≤g)∧Chg F W W1∧Bd W1 wb.heap.size b (ans (nw 3) (tls pre)) G:=by
 obtain⟨T,hr,hT⟩:=ha.out
 obtain⟨F1,q1,q2⟩:=ha.net.at'
 exact⟨T,F1,hr,hT,q1,q2,ha.net.chg,hBd.stay (ha.net.chg.stay fun g hg=>⟨hBd.lt g hg,fun hf=>(h3 g hf).1 hg⟩) ha.net.size⟩
theorem Jn.next {wb:World} {X b bn bt D:Nat} {t:ByteArray} {pre:List ByteArray} {W W1 W2 W3:World} {x T:ByteArray} {F F1 G G1 G2:Nat→Prop} (hJ:Jn wb X b bn bt D t pre W) (hD:D+1<W.heap.size)
  (h3:∀g,F g→¬G g∧g≠bn∧g≠bt∧g≠D∧g≠D+1∧wb.heap.size≤g) (h4:∀g,G g→g≠bn∧g≠bt∧g≠D∧g≠D+1∧wb.heap.size≤g) (hBd:Bd W wb.heap.size b (ans (nw 3) (tls pre)) G)
  (hT:T.toList=(doC (ansS (nw 3) (tls pre)) (cmd x.toList)).1) (r1:At W1 X (doC (ansS (nw 3) (tls pre)) (cmd x.toList)).2 F1) (r2:∀g,F1 g→F g∨W.heap.size≤g) (r3:Chg F W W1)
  (s2:Chg G W1 W2) (s3:∀g,G1 g→G g∨W1.heap.size≤g) (u1:Bd W3 wb.heap.size b (ans (nw 3) (tls pre)++T.toList++[10]) G2) (u2:Chg G1 W2 W3) (u3:∀g,G2 g→G1 g∨W2.heap.size≤g):
  W3.heap[D]? =W.heap[D]? ∧W3.heap[D+1]? =W.heap[D+1]? ∧Jn wb X b bn bt D t (pre++[x]) W3:=by
 have z1:=r3.size
 have z2:=s2.size
 have z3:=u2.size
 have hw:=hJ.bel.size
 have keep:∀k,k<W.heap.size→¬F k→¬G k→W3.heap[k]? =W.heap[k]? :=fun k hk hf hg=>by
  rw[u2.block k (by omega) (fun e=>by rcases s3 k e with e | e;exact hg e;omega),s2.block k (by omega) hg,r3.block k hk hf]
 have hnF:∀g,F1 g→¬G g∧g≠bn∧g≠bt∧g≠D∧g≠D+1∧wb.heap.size≤g:=fun g hg=>by
  rcases r2 g hg with e | e
  ·exact h3 g e
  ·have hb:=(Array.getElem?_eq_some_iff.1 hJ.n).1
   have hc:=(Array.getElem?_eq_some_iff.1 hJ.t).1
   refine⟨fun e2=> ?_,by omega,by omega,by omega,by omega,by omega⟩
   have:=hBd.lt g e2;omega
 have hnG:∀g,G1 g→g≠bn∧g≠bt∧g≠D∧g≠D+1∧wb.heap.size≤g:=fun g hg=>by
  rcases s3 g hg with e | e
  ·exact h4 g e
  ·have hb:=(Array.getElem?_eq_some_iff.1 hJ.n).1
   have hc:=(Array.getElem?_eq_some_iff.1 hJ.t).1
   exact⟨by omega,by omega,by omega,by omega,by omega⟩
 have hnG2:∀g,G2 g→g≠bn∧g≠bt∧g≠D∧g≠D+1∧wb.heap.size≤g:=fun g hg=>by
  rcases u3 g hg with e | e
  ·exact hnG g e
  ·have hb:=(Array.getElem?_eq_some_iff.1 hJ.n).1
   have hc:=(Array.getElem?_eq_some_iff.1 hJ.t).1
   exact⟨by omega,by omega,by omega,by omega,by omega⟩
 have hFG1:∀g,F1 g→¬G1 g:=fun g hg e=>by
  rcases s3 g e with e | e
  ·exact(hnF g hg).1 e
  ·have:=r1.lt g hg;omega
 have hFG2:∀g,F1 g→¬G2 g:=fun g hg e=>by
  rcases u3 g e with e | e
  ·exact hFG1 g hg e
  ·have:=r1.lt g hg;omega
 have hA3:At W3 X (doC (ansS (nw 3) (tls pre)) (cmd x.toList)).2 F1:=r1.stay (fun g hg=>by
  rw[u2.block g (by have:=r1.lt g hg;omega) (hFG1 g hg),s2.block g (r1.lt g hg) (hnF g hg).1]) (by omega)
 have hb:=(Array.getElem?_eq_some_iff.1 hJ.n).1
 have hc:=(Array.getElem?_eq_some_iff.1 hJ.t).1
 obtain⟨e1,e2⟩:=ans_app1 (nw 3) (tls pre) x.toList
 have e0:tls (pre++[x])=tls pre++[x.toList]:=by simp
 refine⟨keep D (by omega) (fun e=>(h3 D e).2.2.2.1 rfl) (fun e=>(h4 D e).2.2.1 rfl),keep (D+1) hD (fun e=>(h3 _ e).2.2.2.2.1 rfl) (fun e=>(h4 _ e).2.2.2.1 rfl),⟨F1,G2, ?_, ?_,fun g hg=> ?_,hnG2⟩, ?_, ?_, ?_⟩
 ·rw[e0,e2];exact hA3
 ·rw[e0,e1,←hT,←List.append_assoc];exact u1
 ·exact⟨hFG2 g hg,(hnF g hg).2⟩
 ·rw[keep bn hb (fun e=>(h3 _ e).2.1 rfl) (fun e=>(h4 _ e).1 rfl)];exact hJ.n
 ·rw[keep bt hc (fun e=>(h3 _ e).2.2.1 rfl) (fun e=>(h4 _ e).2.1 rfl)];exact hJ.t
 ·have c1:=r3.below (fun g hg=>(h3 g hg).2.2.2.2.2) hJ.bel hw
  have c2:=s2.below (fun g hg=>(h4 g hg).2.2.2.2) c1 (by omega)
  exact u2.below (fun g hg=>(hnG g hg).2.2.2.2) c2 (by omega)
theorem pre_small {t:ByteArray} (h:t.size≤3000) {pre:List ByteArray} {x:ByteArray} (hp:pre++[x] <+:(lines t.toList).map mk):x.size≤3000∧pre.length≤3000:=by
 have hl:=lines_len _ t.toList (Nat.le_refl _)
 rw[Kb.len_eq] at hl
 have h1:=hp.length_le
 rw[List.length_append,List.length_map,List.length_singleton] at h1
 have hx:x ∈ (lines t.toList).map mk:=hp.subset (by simp)
 obtain⟨y,hy,rfl⟩:=List.mem_map.1 hx
 have h2:=hl.2 y hy
 rw[mk_size]
 omega
theorem run_short (t:ByteArray) (w:World) (h:t.size≤3000) (hE:Kt.ET w) (hL:Lib3 w):Calls Tryz.prog 6 #[.string t] w fun e w'=>e=.returned (.string ⟨(sesT t.toList).toArray⟩)∧Below w.heap.size w w':=by
 have hz:¬(3000:Int)<t.size:=by omega
 have HT:=mkH h
 have HE:=mkH hE
 have HL:=mkH hL
 have HS:Hid (sesT t.toList=ans (nw 3) (lines t.toList)):=by
  unfold Hid sesT;rw[if_neg (by rw[Kb.len_eq];omega)]
 have CN:Calls Tryz.prog 11 #[.int .i64 3] w fun e w'=>∃X F,e=.returned (.tuple #[ptr X,.nilIface])∧At w' X (nw 3) F∧(∀g,F g→w.heap.size≤g)∧Below w.heap.size w w':=Hz.new_yes 3 w (by omega) (by omega)
 clear h hE hL
 refine(callsIn_wide (n:=6)).1 ?_
 refine callsIn_of_wp_marks Tryz.func6 rfl trivial ?_ rfl
 simp only[Tryz.ntmps6,List.size_toArray,List.length_cons,List.length_nil,Nat.reduceAdd,Nat.reduceSub,Array.replicate_succ,Array.replicate_zero,List.push_toArray,List.append_toArray,List.nil_append,List.cons_append]
 gi_wp2_with fail
 refine⟨trivial, ?_⟩
 refine(callsIn_wide.2 CN).mono ?_
 rintro e w1 ⟨X,F,rfl,hA,hF,hb⟩
 have HA:=mkH hA
 have HF:=mkH hF
 have HB:=mkH hb
 clear CN hA hF hb
 gi_wp2_with fail
 refine⟨trivial, ?_⟩
 refine(callsIn_wide.2 (lines_any t _)).mono ?_
 rintro e w2 ⟨rfl,hw2⟩
 have HW2:=mkH hw2
 clear hw2
 gi_wp2_with fail
 obtain⟨Z,hZ⟩:∃Z,Z=w1.heap.size:=⟨_,rfl⟩
 rw[←hZ]
 have HZ:=mkH hZ
 have HZW:Hid (w.heap.size≤Z):=by unfold Hid;rw[hZ];exact HB.out.size
 have HD:Hid (w2.heap.size=Z+3):=by unfold Hid;rw[HW2.out];simp[hZ]
 have hd:=HD.out
 have hzw:=HZW.out
 have HJ0:Hid (Jn w X (Z+1) Z (Z+1+1) w2.heap.size t [] w2):=by
  have a1:At w1 X (nw 3) F:=HA.out
  have b1:Below w1.heap.size w1 w2:=by
   rw[HW2.out]
   exact(((Below.refl _ w1).alloc (Nat.le_refl _) _).alloc (by simp) _).alloc (by simp;omega) _
  have hbd:=Bd.new (w1.alloc (.cells #[.pointer (some ⟨X,0,none⟩)] 30)) w.heap.size (by simp;omega)
  rw[World.size_alloc,←hZ] at hbd
  have hbd2:Bd w2 w.heap.size (Z+1) [] (fun g=>g=Z+1):=by
   rw[HW2.out];exact hbd.below ((Below.refl _ _).alloc (Nat.le_refl _) _)
  have hn:w2.heap[Z]? =some (.cells #[ptr X] 30):=by
   rw[HW2.out,hZ]
   exact(heap_alloc_old _ _ (by simp;omega)).trans ((heap_alloc_old _ _ (by simp)).trans (heap_alloc_new w1 _))
  have ht2:w2.heap[Z+1+1]? =some (.cells #[.string t] 9):=by
   rw[HW2.out]
   have h9:=heap_alloc_new ((w1.alloc (.cells #[.pointer (some ⟨X,0,none⟩)] 30)).alloc (.cells #[.pointer none,.slice none 0 0] 38)) (.cells #[.string t] 9)
   rw[World.size_alloc,World.size_alloc,←hZ] at h9
   exact h9
  refine⟨⟨F,fun g=>g=Z+1,a1.below b1,hbd2,fun g hg=> ?_,fun g hg=> ?_⟩,hn,ht2,La.bel HB.out b1⟩
  ·have h1:=a1.lt g hg
   have h2:=HF.out g hg
   rw[←hZ] at h1
   exact⟨by omega,by omega,by omega,by omega,by omega,h2⟩
  ·subst hg
   exact⟨by omega,by omega,by omega,by omega,by omega⟩
 clear hZ
 refine range_own rfl (by omega) (gf:=28) (lb:=#[.pointer (some ⟨Z+1+1,0,none⟩)]) rfl trivial (enters_of Tryz.func28 (by kernel_rfl) rfl) rfl ((lines t.toList).map mk) (Jn w X (Z+1) Z (Z+1+1) w2.heap.size t) (fun pre W W' h hb=>h.below hb) (fun pre W o h=>h.put (by omega) (by omega) (by omega) o) ?seq HJ0.out
  (fun x=>{ tmps:=#[.string t,undef,.string ⟨#[]⟩,.pointer (some ⟨Z,0,none⟩),.nilIface,.pointer (some ⟨Z+1,0,none⟩),.string x,.string t,.int .i64 t.size,.bool false,.tuple #[ptr X,.nilIface],.tuple #[ptr X,.nilIface],ptr X,.nilIface,.string t,.func (.func 28) #[] #[.pointer (some ⟨Z+1+1,0,none⟩)],.string x,undef,undef,undef,undef,undef,undef],defers:=[] }) ?assign ?body ?done
 case seq=>
  intro l K W hW hKb hKJ hY h0
  exact lines1_in 5 (by omega) t HT.out l (Z+1+1) K W hKb (fun pre W1 h=>HL.out.below (hKJ pre W1 h).bel) (Ic.blk_cell (hKJ [] W h0).t rfl) hY h0
 case assign=>
  intro l x W K hK
  gi_wp2
  exact hK
 case body=>
  rintro pre x W hJ hp hlt
  obtain⟨hx3,hp3⟩:=pre_small HT.out hp
  obtain⟨F1,G,q1,q2,q3,q4⟩:=hJ.ex
  have HJ:=mkH hJ
  have Q:=mkH (And.intro q1 (And.intro q2 (And.intro q3 q4)))
  have HLT:=mkH hlt
  have hok:Ok (ansS (nw 3) (tls pre)):=Ok.all _ ok_nw
  have HAL:Hid ((ans (nw 3) (tls pre)).length≤60003000):=by
   have h1:=ans_len (tls pre) (nw 3) ok_nw
   have h2:(tls pre).length≤3000:=by simpa using hp3
   have h3:(tls pre).length*20001≤3000*20001:=Nat.mul_le_mul_right _ h2
   unfold Hid;omega
  have HDL:Hid ((doC (ansS (nw 3) (tls pre)) (cmd x.toList)).1.length≤20000):=doC_len hok _
  have C:=answer_any F1 w W X (ansS (nw 3) (tls pre)) x W (by omega) ⟨HE.out,HL.out,hJ.bel,fun g hg=>(q3 g hg).2.2.2.2.2⟩ (Nw.start q1) hok
  have c0:=Ic.blk_cell (i:=0) (u:=ptr X) hJ.n rfl
  clear hJ hp hlt hx3 hp3 q1 q2 q3 q4 hok hd hzw hz
  gi_wp2_with fail
  refine⟨trivial, ?_⟩
  refine(CallsIn.inRound _ (callsIn_wide.2 C)).mono ?_
  rintro e W1 ha
  obtain⟨T,F2,rfl,hT,r1,r2,r3,r4⟩:=Jn.step HLT.out (Array.getElem?_eq_some_iff.1 HJ.out.n).1 (Array.getElem?_eq_some_iff.1 HJ.out.t).1 HJ.out.bel Q.out.2.2.1 Q.out.2.2.2 Q.out.2.1 HJ.out.n HJ.out.t ha
  have R:=mkH (And.intro hT (And.intro r1 (And.intro r2 (And.intro r3 r4))))
  have HTS:Hid (T.size≤20000):=by unfold Hid;rw[←Kb.len_eq,hT];exact HDL.out
  have HW1:=z9 (Nat.le_trans HJ.out.bel.size r3.size)
  have CW:=write_any W1 w.heap.size (Z+1) _ G T r4 (by have:=HTS.out;have:=HAL.out;omega) HW1.out
  clear C c0 ha hT r1 r2 r3 r4
  gi_wp2_with fail
  refine⟨trivial, ?_⟩
  refine(CallsIn.inRound _ (callsIn_wide.2 CW)).mono ?_
  rintro e W3 ⟨rfl,G1,s1,s2,s3⟩
  have S:=mkH (And.intro s1 (And.intro s2 s3))
  have CW2:=write_any W3 w.heap.size (Z+1) _ G1 ⟨#[10]⟩ s1 (by have h1:=HTS.out;have h2:=HAL.out;rw[List.length_append,Kb.len_eq,show(⟨#[10]⟩:ByteArray).size=1 from rfl];omega) (Nat.le_trans HW1.out s2.size)
  clear CW s1 s2 s3
  gi_wp2_with fail
  refine⟨trivial, ?_⟩
  refine(CallsIn.inRound _ (callsIn_wide.2 CW2)).mono ?_
  rintro e W5 ⟨rfl,G2,u1,u2,u3⟩
  rw[show(⟨#[10]⟩:ByteArray).toList=[10] by kernel_rfl] at u1
  have U:=mkH (Jn.next HJ.out HLT.out Q.out.2.2.1 Q.out.2.2.2 Q.out.2.1 R.out.1 R.out.2.1 R.out.2.2.1 R.out.2.2.2.1 S.out.2.1 S.out.2.2 u1 u2 u3)
  clear CW2 u1 u2 u3
  gi_wp2_with fail
  exact U.out
 case done=>
  rintro W hJ hK
  obtain⟨F1,G,q1,q2,q3,q4⟩:=hJ.ex
  have hxs:tls ((lines t.toList).map mk)=lines t.toList:=by
   unfold tls;rw[List.map_map]
   conv=>rhs;rw[←List.map_id (lines t.toList)]
   apply List.map_congr_left;intro y _;exact Om.toList_mk y
  rw[hxs] at q2
  have hal:(ans (nw 3) (lines t.toList)).length≤1000000000:=by
   have h1:=ans_len (lines t.toList) (nw 3) ok_nw
   have h2:=(lines_len _ t.toList (Nat.le_refl _)).1
   rw[Kb.len_eq] at h2
   have h3:(lines t.toList).length*20001≤3000*20001:=Nat.mul_le_mul_right _ (by have:=HT.out;omega)
   omega
  have C:=string_any W w.heap.size (Z+1) _ G q2 hal
  have HK:=mkH hK
  have HQ:=mkH (And.intro hJ.bel q4)
  have HWD:Hid (w2.heap.size<W.heap.size):=(Array.getElem?_eq_some_iff.1 hK).1
  obtain⟨A,hA⟩:∃A:ByteArray,A=⟨(ans (nw 3) (lines t.toList)).toArray⟩:=⟨_,rfl⟩
  rw[←hA] at C
  have HAE:=mkH hA
  clear hJ hK q1 q2 q3 q4 hxs hal hA hz hd
  gi_wp2_with fail
  refine⟨trivial, ?_⟩
  refine(callsIn_wide.2 C).mono ?_
  rintro e W1 ⟨rfl,hc⟩
  have hK1:W1.heap[w2.heap.size]? =some (.deferred (some [])):=(hc.block _ HWD.out (fun e=>(HQ.out.2 _ e).2.2.1 rfl)).trans HK.out
  have HK1:=mkH hK1
  have HB1:=z9 (hc.below (fun g hg=>(HQ.out.2 g hg).2.2.2.2) HQ.out.1 HQ.out.1.size)
  clear C hc hK1
  gi_wp2_with fail
  refine⟨by simp,.inl ⟨_,_,rfl,run_takeDeferred HK1.out, ?_⟩⟩
  exact⟨_,results_tmp rfl _ _ _,by rw[HS.out,←HAE.out];rfl,below_put HB1.out (by have:=HD.out;omega) _⟩
theorem run_any (t:ByteArray) (w:World) (hq:Kt.ET w∧Lib3 w) (ht:t.size≤maxLen):Calls Tryz.prog 6 #[.string t] w fun e w'=>e=.returned (.string ⟨(sesT t.toList).toArray⟩)∧Below w.heap.size w w':=by
 by_cases h:t.size≤3000
 ·exact run_short t w h hq.1 hq.2
 ·exact run_long t w (by omega) ht
theorem says:Rw0.RunSays (fun w=>Kt.ET w∧Lib3 w):=⟨fun h hb=>⟨Rx4.et_below h.1 hb,h.2.below hb⟩,fun t w hq ht=>run_any t w hq ht⟩
end Rxa
end Go.Proofs.YtiamefgoeibhhaaGreatDoor
