import Derived.Test.YtiamefgoeibhhaaGreatDoorJ9
import Derived.Test.YtiamefgoeibhhaaGreatDoorH1
import Derived.Test.YtiamefgoeibhhaaGreatDoorS0
import Derived.Test.YtiamefgoeibhhaaGreatDoorQ9
import Derived.Lib.CutLaws
import Derived.Lib.SplitLaws
import Derived.Test.YtiamefgoeibhhaaGreatDoorA0
set_option linter.unusedVariables false
set_option maxRecDepth 100000
set_option maxHeartbeats 8000000
namespace Go.Proofs.YtiamefgoeibhhaaGreatDoor
namespace Dm
open Go.Lib
theorem stands:True:=trivial
end Dm
namespace Rz1
open Cm Om Hm Um Aa Hc
abbrev Tx:=List UInt8
def word:Tx→Option (Tx × Tx)
 | []=>none
 | c::r=>if c=32 then some ([],r) else(word r).map fun p=>(c::p.1,p.2)
def num (s:Tx):Option Nat:=if 4<s.length then none else Dm.refO s
def linesF:Tx→Tx→List Tx
 | cur,[]=>if cur=[] then[] else[cur]
 | cur,c::r=>if c=10 then cur::linesF [] r else linesF (cur++[c]) r
def lines (t:Tx):List Tx:=linesF [] t
def nRange:Tx:=[69,114,114,82,97,110,103,101]
def nSyntax:Tx:=[69,114,114,83,121,110,116,97,120]
def nShape:Tx:=[69,114,114,83,104,97,112,101]
def nFull:Tx:=[69,114,114,70,117,108,108]
def nNone:Tx:=[69,114,114,78,111,110,101]
def nState:Tx:=[69,114,114,83,116,97,116,101]
def nClash:Tx:=[69,114,114,67,108,97,115,104]
def nDeep:Tx:=[69,114,114,68,101,101,112]
def nameE (e:Int):Tx:=if e=1 then nRange else if e=2 then nSyntax else if e=3 then nShape else if e=4 then nFull else if e=5 then nNone else if e=6 then nState else if e=7 then nClash else nDeep
def tOk:Tx:=[111,107]
def tBad:Tx:=[98,97,100]
def tYes:Tx:=[121,101,115]
def tNo:Tx:=[110,111]
def tToo:Tx:=[116,111,111,32,108,111,110,103,10]
def wSame:Tx:=[115,97,109,101]
def wType:Tx:=[116,121,112,101]
def wErase:Tx:=[101,114,97,115,101]
def wCut:Tx:=[99,117,116]
def wFuse:Tx:=[102,117,115,101]
def wSend:Tx:=[115,101,110,100]
def wShow:Tx:=[115,104,111,119]
def wParts:Tx:=[112,97,114,116,115]
def wWho:Tx:=[119,104,111]
def well (e:Int):Tx:=if e=0 then tOk else nameE e
structure Cmd where
 way:Nat
 ev0:Int
 fst:Nat
 snd:Nat
 txt:Tx
def Cmd.type (i k:Nat) (t:Tx):Cmd:=⟨0,0,i,k,t⟩
def Cmd.ev (w:Int) (a b:Nat):Cmd:=⟨1,w,a,b,[]⟩
def Cmd.send (a b:Nat):Cmd:=⟨2,0,a,b,[]⟩
def Cmd.shw (i:Nat):Cmd:=⟨3,0,i,0,[]⟩
def Cmd.parts (i:Nat):Cmd:=⟨4,0,i,0,[]⟩
def Cmd.who (i:Nat):Cmd:=⟨5,0,i,0,[]⟩
def Cmd.same:Cmd:=⟨6,0,0,0,[]⟩
def Cmd.bad:Cmd:=⟨7,0,0,0,[]⟩
def two (s:Tx):Option (Nat × Nat):=(word s).bind fun p=>(num p.1).bind fun a=>(num p.2).map fun b=>(a,b)
def oneC (f:Nat→Cmd) (s:Tx):Cmd:=match num s with
 | some i=>f i
 | none=> .bad
def twoC (f:Nat→Nat→Cmd) (s:Tx):Cmd:=match two s with
 | some p=>f p.1 p.2
 | none=> .bad
def typC (s:Tx):Cmd:=match word s with
 | none=> .bad
 | some (a,r)=>match word r with
  | none=> .bad
  | some (b,t)=>match num a,num b with
   | some i,some k=> .type i k t
   | _,_=> .bad
def cmd (s:Tx):Cmd:=if s=wSame then .same else match word s with
 | none=> .bad
 | some (w,r)=>
  if w=wType then typC r
  else if w=wErase then twoC (.ev 2) r
  else if w=wCut then twoC (.ev 7) r
  else if w=wFuse then twoC (.ev 8) r
  else if w=wSend then twoC .send r
  else if w=wShow then oneC .shw r
  else if w=wParts then oneC .parts r
  else if w=wWho then oneC .who r
  else .bad
def typ:Nt→Int→Int→Tx→Int × Nt
 | N,i,k,[]=>(0,N)
 | N,i,k,c::r=>if evE N (1,i,k,(c.toNat:Int))≠0 then(evE N (1,i,k,(c.toNat:Int)),evS N (1,i,k,(c.toNat:Int))) else typ (evS N (1,i,k,(c.toNat:Int))) i (k+1) r
def sent (N:Nt) (a b:Int):Int × Nt:=
 if evE N (3,a,b,0)≠0 then(evE N (3,a,b,0),evS N (3,a,b,0))
 else(evE (evS N (3,a,b,0)) (4,((evS N (3,a,b,0)).us.length:Int)-1,0,0),evS (evS N (3,a,b,0)) (4,((evS N (3,a,b,0)).us.length:Int)-1,0,0))
def joinW (c:UInt8):List Tx→Tx
 | []=>[]
 | [x]=>x
 | x::y::r=>x++c::joinW c (y::r)
def partsT (S:Dq):Tx:=joinW 124 ((List.range (Sm.heads S.marks).length).map (Sm.sliceB S.book (Sm.heads S.marks)))
def whoT (S:Dq):Tx:=joinW 32 (((Sq1.wrt (Sq1.runs S.book)).take 3).map fun n=>Lib.decDigits n.toNat)
def sameN (N:Nt):Bool:=decide (∀i,i<N.ds.length→(dq N i).book=(dq N 0).book∧(dq N i).marks=(dq N 0).marks)
def doC (N:Nt) (c:Cmd):Tx × Nt:=match c.way with
 | 0=>(well (typ N c.fst c.snd c.txt).1,(typ N c.fst c.snd c.txt).2)
 | 1=>(well (evE N (c.ev0,c.fst,c.snd,0)),evS N (c.ev0,c.fst,c.snd,0))
 | 2=>(well (sent N c.fst c.snd).1,(sent N c.fst c.snd).2)
 | 3=>(if c.fst<N.ds.length then 39::(Bm.text (dq N c.fst).book++[39]) else nRange,N)
 | 4=>(if c.fst<N.ds.length then partsT (dq N c.fst) else nRange,N)
 | 5=>(if c.fst<N.ds.length then whoT (dq N c.fst) else nRange,N)
 | 6=>(if sameN N then tYes else tNo,N)
 | _=>(tBad,N)
theorem doC_type (N:Nt) (i k:Nat) (t:Tx):doC N (.type i k t)=(well (typ N i k t).1,(typ N i k t).2):=rfl
theorem doC_send (N:Nt) (a b:Nat):doC N (.send a b)=(well (sent N a b).1,(sent N a b).2):=rfl
theorem doC_shw (N:Nt) (i:Nat):doC N (.shw i)=(if i<N.ds.length then 39::(Bm.text (dq N i).book++[39]) else nRange,N):=rfl
theorem doC_parts (N:Nt) (i:Nat):doC N (.parts i)=(if i<N.ds.length then partsT (dq N i) else nRange,N):=rfl
theorem doC_who (N:Nt) (i:Nat):doC N (.who i)=(if i<N.ds.length then whoT (dq N i) else nRange,N):=rfl
theorem doC_same (N:Nt):doC N .same=(if sameN N then tYes else tNo,N):=rfl
theorem doC_bad (N:Nt):doC N .bad=(tBad,N):=rfl
def ans:Nt→List Tx→Tx
 | _,[]=>[]
 | N,s::r=>(doC N (cmd s)).1++10::ans (doC N (cmd s)).2 r
def ansS:Nt→List Tx→Nt
 | N,[]=>N
 | N,s::r=>ansS (doC N (cmd s)).2 r
def sesT (t:Tx):Tx:=if 3000<t.length then tToo else ans (nw 3) (lines t)
theorem ans_app:∀(x y:List Tx) (N:Nt),ans N (x++y)=ans N x++ans (ansS N x) y
 | [],y,N=>rfl
 | s::x,y,N=>by
  rw[List.cons_append,ans,ans,ans_app x y,ansS];simp
theorem ansS_app:∀(x y:List Tx) (N:Nt),ansS N (x++y)=ansS (ansS N x) y
 | [],y,N=>rfl
 | s::x,y,N=>by rw[List.cons_append,ansS,ansS,ansS_app x y]
theorem linesF_app (b:Tx):∀(a cur:Tx),linesF cur (a++10::b)=linesF cur (a++[10])++linesF [] b
 | [],cur=>by simp[linesF]
 | c::a,cur=>by
  rw[List.cons_append,List.cons_append,linesF,linesF]
  by_cases h:c=10
  ·rw[if_pos h,if_pos h,linesF_app b a [],List.cons_append]
  ·rw[if_neg h,if_neg h,linesF_app b a _]
theorem lines_app {a:Tx} (b:Tx) (h:a=[]∨a.getLast? =some 10):lines (a++b)=lines a++lines b:=by
 rcases h with rfl | h
 ·rfl
 ·obtain⟨y,rfl⟩:=List.getLast?_eq_some_iff.1 h
  unfold lines
  rw[List.append_assoc,List.cons_append,List.nil_append]
  exact linesF_app b _ _
theorem begins {t:Tx} {k:Nat} (h:k=0∨(t.take k).getLast? =some 10∨t.length≤k) (h3:t.length≤3000):∃r,sesT t=sesT (t.take k)++r:=by
 have hk:(t.take k).length≤3000:=by rw[List.length_take];omega
 unfold sesT
 rw[if_neg (by omega),if_neg (by omega)]
 by_cases hl:t.length≤k
 ·rw[List.take_of_length_le hl];exact⟨[],by simp⟩
 ·have e:=lines_app (a:=t.take k) (t.drop k) (by
   rcases h with rfl | h | h
   ·exact Or.inl rfl
   ·exact Or.inr h
   ·exact absurd h hl)
  rw[List.take_append_drop] at e
  rw[e,ans_app]
  exact⟨_,rfl⟩
structure Ok (N:Nt):Prop where
 gl:Gl N
 three:N.ds.length=3
 none:N.us=[]
theorem ok_nw:Ok (nw 3):=⟨gl_nw (by omega),rfl,rfl⟩
theorem us_ed {N:Nt} {e:Ev} (h:isEd e.1=true):(evS N e).us=N.us:=by
 unfold evS
 rw[if_pos h]
 split
 ·rfl
 ·split<;>rfl
theorem Ok.ed {N:Nt} (h:Ok N) {e:Ev} (he:isEd e.1=true):Ok (evS N e):=
 ⟨(h.gl.ev e).1,(h.gl.ev e).2.trans h.three,(us_ed he).trans h.none⟩
theorem Ok.typ:∀(t:Tx) {N:Nt},Ok N→∀(i k:Int),Ok (typ N i k t).2
 | [],N,h,i,k=>h
 | c::r,N,h,i,k=>by
  unfold Rz1.typ
  have h1:Ok (evS N (1,i,k,(c.toNat:Int))):=h.ed rfl
  split
  ·exact h1
  ·exact Ok.typ r h1 i (k+1)
theorem Ok.sent {N:Nt} (h:Ok N) (a b:Int):Ok (sent N a b).2:=by
 have g1:=h.gl.ev (3,a,b,0)
 have e3:evS N (3,a,b,0)=if out N.ds.length a∨out N.ds.length b then N else if a=b then N else if 100≤N.us.length then N else{ N with us:=N.us++[(b.toNat,packT (lackL (dq N a.toNat).ops (dq N b.toNat).known))] }:=by
  unfold evS;dsimp only;rw[if_neg (by decide),if_pos rfl]
 have e3e:evE N (3,a,b,0)=if out N.ds.length a∨out N.ds.length b then 1 else if a=b then 3 else if 100≤N.us.length then 4 else 0:=by
  unfold evE;dsimp only;rw[if_neg (by decide),if_pos rfl]
 unfold Rz1.sent
 by_cases h1:out N.ds.length a∨out N.ds.length b
 ·rw[if_pos h1] at e3 e3e
  rw[if_pos (by rw[e3e];decide),e3];exact h
 ·rw[if_neg h1] at e3 e3e
  by_cases h2:a=b
  ·rw[if_pos h2] at e3 e3e
   rw[if_pos (by rw[e3e];decide),e3];exact h
  ·have h4:¬100≤N.us.length:=by rw[h.none];simp
   rw[if_neg h2,if_neg h4] at e3 e3e
   rw[if_neg (by rw[e3e];decide)]
   have g2:=g1.1.ev (4,((evS N (3,a,b,0)).us.length:Int)-1,0,0)
   refine⟨g2.1,g2.2.trans (g1.2.trans h.three), ?_⟩
   rw[e3,h.none]
   unfold evS
   dsimp only
   rw[if_neg (by decide),if_neg (by decide),if_pos (by decide),if_neg (by unfold out;simp),if_neg (by decide),if_neg (by decide)]
   rfl
theorem Ok.does {N:Nt} (h:Ok N) (s:Tx):Ok (doC N (cmd s)).2:=by
 have hev:∀w a b,isEd w=true→Ok (evS N (w,a,b,0)):=fun w a b hw=>h.ed hw
 have h2:∀(w:Int) r,isEd w=true→Ok (doC N (twoC (.ev w) r)).2:=fun w r hw=>by
  unfold twoC
  split
  ·exact hev w _ _ hw
  ·exact h
 have hs:∀r,Ok (doC N (twoC .send r)).2:=fun r=>by
  unfold twoC
  split
  ·exact h.sent _ _
  ·exact h
 have h1:∀(f:Nat→Cmd) r,(∀i,(doC N (f i)).2=N)→Ok (doC N (oneC f r)).2:=fun f r hf=>by
  unfold oneC
  split
  ·rw[hf];exact h
  ·exact h
 unfold cmd
 split
 ·exact h
 ·split
  ·exact h
  ·split
   ·unfold typC
    split
    ·exact h
    ·split
     ·exact h
     ·split
      ·exact Ok.typ _ h _ _
      ·exact h
   ·split
    ·exact h2 2 _ rfl
    ·split
     ·exact h2 7 _ rfl
     ·split
      ·exact h2 8 _ rfl
      ·split
       ·exact hs _
       ·split
        ·exact h1 _ _ (fun _=>rfl)
        ·split
         ·exact h1 _ _ (fun _=>rfl)
         ·split
          ·exact h1 _ _ (fun _=>rfl)
          ·exact h
theorem Ok.all:∀(l:List Tx) {N:Nt},Ok N→Ok (ansS N l)
 | [],N,h=>h
 | s::l,N,h=>Ok.all l (h.does s)
end Rz1
namespace Rx1
open Rz1
theorem occ_at (c:UInt8) (s:Tx) (j:Nat):Lib.occAt s [c] j=true↔s[j]? =some c:=by
 unfold Lib.occAt
 rw[←List.head?_drop]
 cases h:s.drop j with
 | nil=>simp[List.isPrefixOf]
 | cons a t=>simp only[List.isPrefixOf,Bool.and_true,beq_iff_eq,List.head?_cons,Option.some.injEq];exact eq_comm
theorem first (c:UInt8) (s:Tx):(Lib.index s [c]= -1∧c ∉ s)∨∃a b,s=a++c::b∧c ∉ a∧Lib.index s [c]=(a.length:Nat):=by
 rcases Lib.index_spec s [c] with⟨h1,h2⟩ | ⟨i,h1,h2,h3,h4⟩
 ·refine Or.inl ⟨h1,fun hm=> ?_⟩
  obtain⟨j,hj,e⟩:=List.getElem_of_mem hm
  have:=h2 j (by omega)
  rw[(occ_at c s j).2 (by rw[List.getElem?_eq_getElem hj,e])] at this
  exact absurd this (by decide)
 ·have h5:=(occ_at c s i).1 h3
  obtain⟨hi,e5⟩:=List.getElem?_eq_some_iff.1 h5
  refine Or.inr ⟨s.take i,s.drop (i+1), ?_, ?_, ?_⟩
  ·rw[←e5,←List.drop_eq_getElem_cons hi,List.take_append_drop]
  ·intro hm
   obtain⟨j,hj,e⟩:=List.getElem_of_mem hm
   have hj2:j<i:=by simp at hj;omega
   have:=h4 j hj2
   rw[(occ_at c s j).2 (by rw[List.getElem?_eq_getElem (by omega)];simp at e;rw[e])] at this
   exact absurd this (by decide)
  ·rw[h1,List.length_take,Nat.min_eq_left h2]
theorem cut_hit {c:UInt8} {a b:Tx} (h:Lib.index (a++c::b) [c]=(a.length:Nat)):Lib.cut (a++c::b) [c]=(a,b,true):=by
 unfold Lib.cut
 rw[h,if_pos (by omega)]
 simp
theorem cut_miss {c:UInt8} {s:Tx} (h:Lib.index s [c]= -1):Lib.cut s [c]=(s,[],false):=by
 unfold Lib.cut
 rw[h,if_neg (by omega)]
theorem lines_miss:∀(s cur:Tx),(10:UInt8) ∉ s→linesF cur s=if cur++s=[] then[] else[cur++s]
 | [],cur,_=>by simp[linesF]
 | c::r,cur,h=>by
  have h1:c≠10:=fun e=>h (by simp[e])
  have h2:(10:UInt8) ∉ r:=fun e=>h (by simp[e])
  rw[linesF,if_neg h1,lines_miss r _ h2,if_neg (by simp),if_neg (by simp)];simp
theorem lines_hit:∀(a b cur:Tx),(10:UInt8) ∉ a→linesF cur (a++10::b)=(cur++a)::linesF [] b
 | [],b,cur,_=>by simp[linesF]
 | c::a,b,cur,h=>by
  have h1:c≠10:=fun e=>h (by simp[e])
  have h2:(10:UInt8) ∉ a:=fun e=>h (by simp[e])
  rw[List.cons_append,linesF,if_neg h1,lines_hit a b _ h2];simp
theorem lines_cut {s:Tx} (h:s≠[]):lines s=(Lib.cut s [10]).1::lines (Lib.cut s [10]).2.1:=by
 rcases first 10 s with⟨h1,h2⟩ | ⟨a,b,rfl,h2,h1⟩
 ·rw[cut_miss h1]
  unfold lines
  rw[lines_miss s [] h2,if_neg (by simpa using h)];simp[linesF]
 ·rw[cut_hit h1]
  unfold lines
  rw[lines_hit a b [] h2];rfl
theorem cut_less {s:Tx} (h:s≠[]) (c:UInt8):(Lib.cut s [c]).2.1.length<s.length:=by
 rcases first c s with⟨h1,h2⟩ | ⟨a,b,rfl,h2,h1⟩
 ·rw[cut_miss h1]
  rcases s with _ | ⟨x,r⟩
  ·exact absurd rfl h
  ·simp
 ·rw[cut_hit h1];simp;omega
theorem cut_le (s:Tx) (c:UInt8):(Lib.cut s [c]).1.length≤s.length∧(Lib.cut s [c]).2.1.length≤s.length:=by
 rcases first c s with⟨h1,h2⟩ | ⟨a,b,rfl,h2,h1⟩
 ·rw[cut_miss h1];simp
 ·rw[cut_hit h1];simp;omega
theorem word_miss:∀{s:Tx},(32:UInt8) ∉ s→word s=none
 | [],_=>rfl
 | c::r,h=>by
  have h1:c≠32:=fun e=>h (by simp[e])
  have h2:(32:UInt8) ∉ r:=fun e=>h (by simp[e])
  rw[word,if_neg h1,word_miss h2];rfl
theorem word_hit:∀{a:Tx} (b:Tx),(32:UInt8) ∉ a→word (a++32::b)=some (a,b)
 | [],b,_=>by simp[word]
 | c::a,b,h=>by
  have h1:c≠32:=fun e=>h (by simp[e])
  have h2:(32:UInt8) ∉ a:=fun e=>h (by simp[e])
  rw[List.cons_append,word,if_neg h1,word_hit b h2];rfl
def head (s:Tx):Tx:=match word s with
 | none=>s
 | some p=>p.1
theorem cut_head (s:Tx):(Lib.cut s [32]).1=head s:=by
 rcases first 32 s with⟨h1,h2⟩ | ⟨a,b,rfl,h2,h1⟩
 ·rw[cut_miss h1];unfold head;rw[word_miss h2]
 ·rw[cut_hit h1];unfold head;rw[word_hit b h2]
def pcs:Nat→Tx→List Tx
 | 0,s=>[s]
 | k+1,s=>match word s with
  | none=>[s]
  | some p=>p.1::pcs k p.2
theorem pcs_miss {s:Tx} (h:word s=none):∀k,pcs k s=[s]
 | 0=>rfl
 | k+1=>by rw[pcs,h]
theorem pcs_hit {s a r:Tx} (h:word s=some (a,r)) (k:Nat):pcs (k+1) s=a::pcs k r:=by rw[pcs,h]
theorem split_pcs:∀(k:Nat) (s:Tx),Lib.splitK [32] 0 k s=pcs k s
 | 0,s=>rfl
 | k+1,s=>by
  rw[Lib.splitK]
  rcases first 32 s with⟨h1,h2⟩ | ⟨a,b,rfl,h2,h1⟩
  ·rw[if_pos (by rw[h1];rfl),pcs_miss (word_miss h2)]
  ·rw[if_neg (by rw[h1];simp),h1,pcs_hit (word_hit b h2),split_pcs k]
   simp
def alls (s:Tx):List Tx:=pcs (Lib.count s [32]) s
theorem alls_miss {s:Tx} (h:word s=none):alls s=[s]:=pcs_miss h _
theorem word_cases (s:Tx):word s=none∨∃a r,word s=some (a,r)∧s=a++32::r:=by
 rcases first 32 s with⟨h1,h2⟩ | ⟨a,b,e,h2,h1⟩
 ·exact Or.inl (word_miss h2)
 ·exact Or.inr ⟨a,b,by rw[e];exact word_hit b h2,e⟩
theorem alls_hit {s a r:Tx} (h:word s=some (a,r)):alls s=a::alls r:=by
 rcases first 32 s with⟨h1,h2⟩ | ⟨a',b,e,h2,h1⟩
 ·rw[word_miss h2] at h;cases h
 ·have h3:word s=some (a',b):=by rw[e];exact word_hit b h2
  rw[h3] at h
  injection h with h
  injection h with ha hb
  subst ha hb
  unfold alls
  have hd:s.drop (a'.length+[(32:UInt8)].length)=b:=by rw[e];simp
  rw[Lib.count_hit (by simp) h1,Nat.add_comm 1,pcs_hit h3,hd]
theorem pcs_few:∀(k m:Nat) (s:Tx),s.length≤m→m≤k→pcs m s=pcs k s
 | k,m,s,h1,h2=>by
  induction m generalizing k s with
  | zero=>
   obtain rfl:s=[]:=List.eq_nil_of_length_eq_zero (by omega)
   rw[pcs_miss rfl,pcs_miss rfl]
  | succ m ih=>
   obtain⟨k,rfl⟩:∃j,k=j+1:=⟨k-1,by omega⟩
   rcases word_cases s with h | ⟨a,r,h,e⟩
   ·rw[pcs_miss h,pcs_miss h]
   ·rw[pcs_hit h,pcs_hit h,ih k r (by rw[e] at h1;simp at h1;omega) (by omega)]
theorem splitN_pcs (n:Nat) (s:Tx):Lib.splitK [32] 0 (min (n+1) (s.length+1)-1) s=pcs n s:=by
 rw[split_pcs]
 by_cases h:n≤s.length
 ·rw[Nat.min_eq_left (by omega)];rfl
 ·rw[Nat.min_eq_right (by omega)];exact pcs_few n s.length s (Nat.le_refl _) (by omega)
theorem dec_blank:∀(s:Tx) (v:Nat),(32:UInt8) ∈ s→Lib.decFrom v s=none
 | [],_,h=>by simp at h
 | c::r,v,h=>by
  rw[Lib.decFrom]
  by_cases hc:c=32
  ·subst hc;rfl
  ·have hr:(32:UInt8) ∈ r:=by
    rcases List.mem_cons.1 h with e | e
    ·exact absurd e.symm hc
    ·exact e
   cases hd:Lib.digitVal c with
   | none=>rfl
   | some e=>exact dec_blank r _ hr
theorem num_blank {s:Tx} (h:(32:UInt8) ∈ s):num s=none:=by
 unfold num
 split
 ·rfl
 ·unfold Dm.refO
  split
  ·rfl
  ·exact dec_blank s 0 h
theorem num_word {s a r:Tx} (h:word s=some (a,r)):num s=none:=by
 rcases word_cases s with h2 | ⟨a',r',h2,e⟩
 ·rw[h2] at h;cases h
 ·exact num_blank (by rw[e];simp)
abbrev Rd:=Option (Tx × Nat × Nat × Tx)
def read0 (w:Tx) (P:List Tx):Rd:=if P.length=1 then some (w,0,0,[]) else none
def read1 (w:Tx) (P:List Tx):Rd:=if P.length=2 then(num (P.getD 1 [])).map fun i=>(w,i,0,[]) else none
def read2 (w:Tx) (P:List Tx):Rd:=if P.length=3 then(num (P.getD 1 [])).bind fun i=>(num (P.getD 2 [])).map fun k=>(w,i,k,[]) else none
def read3 (w:Tx) (P:List Tx):Rd:=if P.length=4 then(num (P.getD 1 [])).bind fun i=>(num (P.getD 2 [])).map fun k=>(w,i,k,P.getD 3 []) else none
abbrev Fm:=Bool × Bool
def form (w:Tx):Option Fm:=
 if w=wType then some (true,true) else if w=wErase∨w=wCut∨w=wFuse∨w=wSend then some (true,false) else if w=wShow∨w=wParts∨w=wWho then some (false,true) else if w=wSame then some (false,false) else none
def rd (s:Tx):Rd:=match form (head s) with
 | none=>none
 | some (false,false)=>read0 (head s) (alls s)
 | some (false,true)=>read1 (head s) (alls s)
 | some (true,false)=>read2 (head s) (alls s)
 | some (true,true)=>read3 (head s) (pcs 3 s)
def cmdR:Rd→Cmd
 | none=> .bad
 | some (w,a,b,t)=>
  if w=wType then .type a b t else if w=wErase then .ev 2 a b else if w=wCut then .ev 7 a b else if w=wFuse then .ev 8 a b else if w=wSend then .send a b
  else if w=wShow then .shw a else if w=wParts then .parts a else if w=wWho then .who a else .same
theorem read0_ne {w s a r:Tx} (h:word s=some (a,r)):read0 w (alls s)=none:=by
 rw[alls_hit h];unfold read0;rw[if_neg]
 rcases word_cases r with h2 | ⟨a2,r2,h2,_⟩
 ·rw[alls_miss h2];simp
 ·rw[alls_hit h2];simp
theorem read1_miss {w s:Tx} (h:word s=none):read1 w (alls s)=none:=by rw[alls_miss h];rfl
theorem read1_hit {w s a r:Tx} (h:word s=some (a,r)):read1 w (alls s)=(num r).map fun i=>(w,i,0,[]):=by
 rw[alls_hit h];unfold read1
 rcases word_cases r with h2 | ⟨a2,r2,h2,_⟩
 ·rw[alls_miss h2];rfl
 ·rw[num_word h2,alls_hit h2]
  rcases word_cases r2 with h3 | ⟨a3,r3,h3,_⟩
  ·rw[alls_miss h3];rfl
  ·rw[alls_hit h3];rw[if_neg (by simp)];rfl
theorem read2_miss {w s:Tx} (h:word s=none):read2 w (alls s)=none:=by rw[alls_miss h];rfl
theorem read2_hit {w s a r:Tx} (h:word s=some (a,r)):read2 w (alls s)=(two r).map fun p=>(w,p.1,p.2,[]):=by
 rw[alls_hit h];unfold read2 two
 rcases word_cases r with h2 | ⟨a2,r2,h2,_⟩
 ·rw[alls_miss h2,h2];rfl
 ·rw[alls_hit h2,h2]
  rcases word_cases r2 with h3 | ⟨a3,r3,h3,_⟩
  ·rw[alls_miss h3,if_pos (by rfl)]
   show(num a2).bind _=Option.map _ ((num a2).bind _)
   cases num a2 with
   | none=>rfl
   | some i=>
    show Option.map _ (num r2)=Option.map _ (Option.map _ (num r2))
    cases num r2<;>rfl
  ·rw[alls_hit h3]
   have hn:num r2=none:=num_word h3
   rw[if_neg (by
    rcases word_cases r3 with h4 | ⟨a4,r4,h4,_⟩
    ·rw[alls_miss h4];simp
    ·rw[alls_hit h4];simp)]
   show none=Option.map _ ((num a2).bind fun i=>Option.map _ (num r2))
   rw[hn]
   cases num a2<;>rfl
theorem read3_miss {w s:Tx} (h:word s=none):read3 w (pcs 3 s)=none:=by rw[pcs_miss h];rfl
theorem read3_hit {s a r:Tx} (h:word s=some (a,r)):cmdR (read3 wType (pcs 3 s))=typC r:=by
 rw[pcs_hit h]
 unfold typC read3
 rcases word_cases r with h2 | ⟨a2,r2,h2,_⟩
 ·rw[pcs_miss h2,h2];rfl
 ·rw[pcs_hit h2,h2]
  dsimp only
  rcases word_cases r2 with h3 | ⟨a3,r3,h3,_⟩
  ·rw[pcs_miss h3,h3];rfl
  ·rw[pcs_hit h3,h3]
   show cmdR (Option.bind (num a2) fun i=>Option.map _ (num a3))=_
   dsimp only
   cases num a2 with
   | none=>rfl
   | some i=>
    cases num a3 with
    | none=>rfl
    | some k=>rfl
theorem cmdR_two (w:Tx) (f:Nat→Nat→Cmd) (hf:∀i k,cmdR (some (w,i,k,[]))=f i k) (r:Tx):cmdR ((two r).map fun p=>(w,p.1,p.2,[]))=twoC f r:=by
 unfold twoC
 cases two r with
 | none=>rfl
 | some p=>exact hf _ _
theorem cmdR_one (w:Tx) (f:Nat→Cmd) (hf:∀i,cmdR (some (w,i,0,[]))=f i) (r:Tx):cmdR ((num r).map fun i=>(w,i,0,[]))=oneC f r:=by
 unfold oneC
 cases num r with
 | none=>rfl
 | some p=>exact hf _
theorem rd_cmd (s:Tx):cmdR (rd s)=cmd s:=by
 unfold rd cmd
 rcases word_cases s with h | ⟨a,r,h,e⟩
 ·have hh:head s=s:=by unfold head;rw[h]
  rw[hh,h]
  by_cases hs:s=wSame
  ·subst hs
   have hf:form wSame=some (false,false):=by kernel_rfl
   rw[hf,if_pos rfl]
   show cmdR (read0 wSame (alls wSame))=_
   rw[alls_miss h];rfl
  ·rw[if_neg hs]
   cases hf:form s with
   | none=>rfl
   | some x=>
    rcases x with⟨_ | _,_ | _⟩
    ·exfalso
     unfold form at hf
     repeat (split at hf;first | (exact absurd hf (by simp)) | skip)
     all_goals first | exact absurd hf (by simp) | contradiction
    ·show cmdR (read1 s (alls s))=_;rw[read1_miss h];rfl
    ·show cmdR (read2 s (alls s))=_;rw[read2_miss h];rfl
    ·show cmdR (read3 s (pcs 3 s))=_;rw[read3_miss h];rfl
 ·have hh:head s=a:=by unfold head;rw[h]
  have hs:s≠wSame:=by
   intro e2;rw[e2,show word wSame=none by decide] at h;cases h
  rw[hh,h,if_neg hs]
  dsimp only
  unfold form
  by_cases h1:a=wType
  ·subst h1;rw[if_pos rfl,if_pos rfl];exact read3_hit h
  rw[if_neg h1,if_neg h1]
  by_cases h2:a=wErase
  ·subst h2;rw[if_pos (Or.inl rfl),if_pos rfl]
   show cmdR (read2 wErase (alls s))=_
   rw[read2_hit h];exact cmdR_two _ _ (fun _ _=>rfl) r
  rw[if_neg h2]
  by_cases h3:a=wCut
  ·subst h3;rw[if_pos (Or.inr (Or.inl rfl)),if_pos rfl]
   show cmdR (read2 wCut (alls s))=_
   rw[read2_hit h];exact cmdR_two _ _ (fun _ _=>rfl) r
  rw[if_neg h3]
  by_cases h4:a=wFuse
  ·subst h4;rw[if_pos (Or.inr (Or.inr (Or.inl rfl))),if_pos rfl]
   show cmdR (read2 wFuse (alls s))=_
   rw[read2_hit h];exact cmdR_two _ _ (fun _ _=>rfl) r
  rw[if_neg h4]
  by_cases h5:a=wSend
  ·subst h5;rw[if_pos (Or.inr (Or.inr (Or.inr rfl))),if_pos rfl]
   show cmdR (read2 wSend (alls s))=_
   rw[read2_hit h];exact cmdR_two _ _ (fun _ _=>rfl) r
  rw[if_neg h5,if_neg (by rintro(e | e | e | e)<;>contradiction)]
  by_cases h6:a=wShow
  ·subst h6;rw[if_pos (Or.inl rfl),if_pos rfl]
   show cmdR (read1 wShow (alls s))=_
   rw[read1_hit h];exact cmdR_one _ _ (fun _=>rfl) r
  rw[if_neg h6]
  by_cases h7:a=wParts
  ·subst h7;rw[if_pos (Or.inr (Or.inl rfl)),if_pos rfl]
   show cmdR (read1 wParts (alls s))=_
   rw[read1_hit h];exact cmdR_one _ _ (fun _=>rfl) r
  rw[if_neg h7]
  by_cases h8:a=wWho
  ·subst h8;rw[if_pos (Or.inr (Or.inr rfl)),if_pos rfl]
   show cmdR (read1 wWho (alls s))=_
   rw[read1_hit h];exact cmdR_one _ _ (fun _=>rfl) r
  rw[if_neg h8,if_neg (by rintro(e | e | e)<;>contradiction)]
  by_cases h9:a=wSame
  ·rw[if_pos h9]
   show cmdR (read0 a (alls s))=_
   rw[read0_ne h];rfl
  ·rw[if_neg h9];rfl
end Rx1
namespace Rz4
open Cm Om Hm Um Aa Hc Rz1
def Eb (e:Int):Prop:=0≤e∧e≤8
theorem eb_chk (p : List UInt8) : Eb (Pm.chk p) := by unfold Pm.chk Eb; repeat' split
                                                      all_goals omega
theorem eb_dot (a b : Int) : Eb (dotE a b) := by unfold dotE Eb; repeat' split
                                                 all_goals omega
theorem eb_if {p:Prop} [Decidable p] {a b:Int} (ha:Eb a) (hb:Eb b):Eb (if p then a else b):=by split<;>assumption
theorem eb_k {k:Int} (h:0≤k∧k≤8:=by omega):Eb k:=h
theorem eb_leaf (x:Bm.Leaf):Eb (Bm.leafE x):=eb_if (eb_chk _) (eb_if eb_k (eb_if eb_k eb_k))
theorem eb_goes:∀(l:List Bm.Leaf) (a:List UInt8),Eb (Bm.goes a l)
 | [],_=>(show Eb 0 from eb_k)
 | x::l,a=>eb_if (eb_leaf x) (eb_if eb_k (eb_goes l _))
theorem eb_book (l:List Bm.Leaf):Eb (Bm.bookE l):=eb_if eb_k (eb_goes l [])
theorem eb_withE (l:List Bm.Leaf) (p:ByteArray):Eb (Bm.withE l p):=eb_if (eb_book l) (eb_chk _)
theorem eb_put (l:List Bm.Leaf) (p:ByteArray):Eb (Bm.putE l p):=eb_if eb_k eb_k
theorem eb_write (l:List Bm.Leaf) (p:ByteArray) (c:Int):Eb (Bm.writeE l p c):=eb_if (eb_withE l p) (eb_if eb_k (eb_if eb_k (eb_put l p)))
theorem eb_strike (l:List Bm.Leaf) (p:ByteArray):Eb (Bm.strikeE l p):=eb_if (eb_withE l p) (eb_put l p)
theorem eb_withM (l:List Mk) (m:Mk):Eb (withM l m):=eb_if eb_k (eb_if eb_k eb_k)
theorem eb_dots (s:List Dt):Eb (dotsE s):=by
 unfold dotsE
 split
 ·exact eb_dot _ _
 ·exact eb_if eb_k eb_k
theorem eb_op (o:Ox):Eb (opE o):=eb_if (eb_dot _ _) (eb_if eb_k (eb_if (eb_chk _) (eb_if eb_k (eb_if eb_k (eb_if eb_k (eb_dots _))))))
theorem eb_do (S:Dq) (o:Ox):Eb (doE S o):=eb_if (eb_write _ _ _) (eb_if (eb_strike _ _) (eb_if (eb_if eb_k (eb_withM _ _)) eb_k))
theorem eb_ap (S:Dq) (o:Ox):Eb (apE S o):=eb_if (eb_op o) (eb_if eb_k (eb_if eb_k (eb_if eb_k (eb_do S o))))
theorem eb_run:∀(L:List Ox) (S:Dq),Eb (runE S L)
 | [],_=>(show Eb 0 from eb_k)
 | o::r,S=>by
  unfold runE
  exact eb_if (eb_ap S o) (eb_run r _)
theorem eb_bet (a b:List UInt8) (w:Int):Eb (Pm.betErr a b w):=by
 unfold Pm.betErr Pm.roomErr Pm.sides Eb
 have h1:=eb_chk a
 have h2:=eb_chk b
 unfold Eb at h1 h2
 repeat' split
 all_goals omega
theorem eb_row (a b:ByteArray) (who:Int):∀k,Eb (rowE a b who k)
 | 0=>(show Eb 0 from eb_k)
 | k+1=>eb_if (eb_row a b who k) (eb_bet _ _ _)
theorem eb_text (t:ByteArray):Eb (textE t):=eb_if eb_k (eb_if eb_k eb_k)
theorem eb_ins (S:Dq) (who off:Int) (t:ByteArray):Eb (insE S who off t):=eb_if eb_k (eb_if (eb_text t) (eb_if eb_k (eb_row _ _ _ _)))
theorem eb_at (S:Dq) (who off:Int):Eb (atE S who off):=eb_if eb_k (eb_if eb_k eb_k)
theorem eb_fus (S:Dq) (who off:Int):Eb (fusE S who off):=eb_if (eb_at S who off) (eb_if eb_k eb_k)
theorem eb_ed (S:Dq) (w:Int) (e:Ev):Eb (edE S w e):=eb_if (eb_if eb_k (eb_ins _ _ _ _)) (eb_if (eb_if eb_k eb_k) (eb_if (eb_at _ _ _) (eb_fus _ _ _)))
theorem eb_opn (S:Dq) (s:ByteArray):Eb (opnE S s):=eb_if (eb_run _ _) eb_k
theorem eb_ev (N:Nt) (e:Ev):Eb (evE N e):=
 eb_if (eb_if eb_k (eb_if (eb_ed _ _ _) (eb_run _ _))) (eb_if (eb_if eb_k (eb_if eb_k (eb_if eb_k eb_k))) (eb_if (eb_if eb_k (eb_if (eb_if eb_k eb_k) (eb_if eb_k (eb_opn _ _)))) eb_k))
theorem eb_typ:∀(t:Tx) (N:Nt) (i k:Int),Eb (typ N i k t).1
 | [],N,i,k=>(show Eb 0 from eb_k)
 | c::r,N,i,k=>by
  unfold typ
  split
  ·dsimp only;exact eb_ev _ _
  ·exact eb_typ r _ _ _
theorem eb_sent (N:Nt) (a b:Int):Eb (sent N a b).1:=by
 unfold sent
 split
 ·dsimp only;exact eb_ev _ _
 ·dsimp only;exact eb_ev _ _
theorem ans_app1 (N:Nt) (p:List Tx) (x:Tx):ans N (p++[x])=ans N p++((doC (ansS N p) (cmd x)).1++[10])∧ansS N (p++[x])=(doC (ansS N p) (cmd x)).2:=by
 rw[ans_app,ansS_app]
 exact⟨rfl,rfl⟩
theorem name_len (e:Int):(nameE e).length≤9:=by
 unfold nameE
 repeat' split
 all_goals decide
theorem joinL (c:UInt8) (m:Nat):∀l:List Tx,(∀x ∈ l,x.length≤m)→(joinW c l).length≤l.length*(m+1)
 | [],_=>by simp[joinW]
 | [x],h=>by have:=h x (by simp);simp only[joinW,List.length_singleton];omega
 | x::y::r,h=>by
  have h1:=h x (by simp)
  have h2:=joinL c m (y::r) (fun z hz=>h z (by simp[hz]))
  rw[joinW,List.length_append,List.length_cons]
  rw[List.length_cons (a:=x),Nat.succ_mul];omega
theorem dq_inv {N:Nt} (h:Ok N) {i:Nat} (hi:i<N.ds.length):Inv (dq N i):=(h.gl.inv i hi).1
theorem text_300 {S:Dq} (I:Inv S):(Bm.text S.book).length≤300:=by
 have h2:=Bm.text_len_le S.book
 have h3:=(Bm.bookE_zero.1 I.book).1
 omega
theorem well_len (e:Int):(well e).length≤20000:=by
 unfold well
 split
 ·decide
 ·have:=name_len e;omega
end Rz4
end Go.Proofs.YtiamefgoeibhhaaGreatDoor
