import Derived.Test.YtiamefgoeibhhaaGreatDoorJ1
import Derived.Test.YtiamefgoeibhhaaGreatDoorJ4
import Derived.Test.YtiamefgoeibhhaaGreatDoorJ2
import Derived.RegionTactic
import Derived.BigRegion
import Derived.Deep.QuietTactic
import Derived.BigQuiet
import Derived.Laws.OwnMore
set_option linter.unusedVariables false
set_option maxRecDepth 100000
set_option maxHeartbeats 8000000
namespace Go.Proofs.YtiamefgoeibhhaaGreatDoor
namespace Sq1
open Bm
abbrev Pr:=Int × Int
def zp:Pr:=(0,0)
def who (x:Leaf):Int:=Pm.whoOf x.1.toList
def lastP (r:List Pr):Pr:=r.getD (r.length-1) zp
def goesOn (r:List Pr) (a:Int):Bool:=decide (r≠[])&&decide ((lastP r).1=a)
def addR (r:List Pr) (a:Int):List Pr:=if goesOn r a=true then r.set (r.length-1) ((lastP r).1,(lastP r).2+1) else r++[(a,1)]
def stepR (r:List Pr) (x:Leaf):List Pr:=if isS x=true then addR r (who x) else r
def runs (l:List Leaf):List Pr:=l.foldl stepR []
def tot:List Int→Int
 | []=>0
 | x::l=>x+tot l
def at8 (y:Pr):Nat:=(y.1-1).toNat
def addW (v:List Int) (y:Pr):List Int:=v.set (at8 y) (v.getD (at8 y) 0+y.2)
def wrt (r:List Pr):List Int:=r.foldl addW [0,0,0,0,0,0,0,0]
theorem snoc {α :Type} (l:List α) (z: α) {k:Nat} (hk:k<l.length):l.take (k+1)=l.take k++[l.getD k z]:=by
 rw[List.take_succ_eq_append_getElem hk,List.getD_eq_getElem?_getD,List.getElem?_eq_getElem hk];rfl
theorem runs_take {l:List Leaf} {k:Nat} (hk:k<l.length):runs (l.take (k+1))=stepR (runs (l.take k)) (l.getD k none0):=by
 rw[snoc l none0 hk];unfold runs;rw[List.foldl_append];rfl
theorem wrt_take {r:List Pr} {k:Nat} (hk:k<r.length):wrt (r.take (k+1))=addW (wrt (r.take k)) (r.getD k zp):=by
 rw[snoc r zp hk];unfold wrt;rw[List.foldl_append];rfl
theorem tot_append:∀a b:List Int,tot (a++b)=tot a+tot b
 | [],b=>by simp[tot]
 | x::a,b=>by rw[List.cons_append,tot,tot,tot_append a b];omega
theorem tot_set:∀(l:List Int) (i:Nat) (x:Int),i<l.length→tot (l.set i x)=tot l-l.getD i 0+x
 | [],i,x,h=>absurd h (by simp)
 | y::l,0,x,h=>by simp[tot];omega
 | y::l,i+1,x,h=>by
  have:=tot_set l i x (by simpa using h)
  rw[List.set_cons_succ,tot,tot,this];simp;omega
theorem tot_le:∀(l:List Int),(∀x ∈ l,0≤x)→∀i,l.getD i 0≤tot l
 | [],_,i=>by simp[tot]
 | y::l,h,i=>by
  have h1:=h y (by simp)
  have h2:=tot_le l (fun x hx=>h x (by simp[hx]))
  have h3:0≤tot l:=by
   have:=h2 l.length
   rwa [List.getD_eq_getElem?_getD,List.getElem?_eq_none (Nat.le_refl _)] at this
  cases i with
  | zero=>simp[tot];omega
  | succ i=>have:=h2 i;simp[tot] at this ⊢;omega
structure Rn (r:List Pr) (n:Nat):Prop where
 who:∀j,j<r.length→1≤(r.getD j zp).1∧(r.getD j zp).1≤8
 many:∀j,j<r.length→1≤(r.getD j zp).2
 sum:tot (r.map (·.2))=n
 apart:∀j,j+1<r.length→(r.getD j zp).1≠(r.getD (j+1) zp).1
theorem Rn.nil:Rn [] 0:=⟨fun j h=>absurd h (by simp),fun j h=>absurd h (by simp),rfl,fun j h=>absurd h (by simp)⟩
theorem getD_set_self {α :Type} (l:List α) (i:Nat) (x z: α) (h:i<l.length):(l.set i x).getD i z=x:=by
 rw[List.getD_eq_getElem?_getD,List.getElem?_set_self h];rfl
theorem getD_set_ne {α :Type} (l:List α) (i j:Nat) (x z: α) (h:i≠j):(l.set i x).getD j z=l.getD j z:=by
 rw[List.getD_eq_getElem?_getD,List.getD_eq_getElem?_getD,List.getElem?_set_ne h]
theorem getD_left {α :Type} (l m:List α) (z: α) {j:Nat} (h:j<l.length):(l++m).getD j z=l.getD j z:=by
 rw[List.getD_eq_getElem?_getD,List.getD_eq_getElem?_getD,List.getElem?_append_left h]
theorem getD_new {α :Type} (l:List α) (x z: α):(l++[x]).getD l.length z=x:=by
 rw[List.getD_eq_getElem?_getD,List.getElem?_append_right (Nat.le_refl _)];simp
theorem Rn.add {r:List Pr} {n:Nat} (h:Rn r n) {a:Int} (h1:1≤a) (h8:a≤8):Rn (addR r a) (n+1):=by
 unfold addR
 by_cases hg:goesOn r a=true
 ·rw[if_pos hg]
  simp only[goesOn,Bool.and_eq_true,decide_eq_true_eq] at hg
  obtain⟨hne,ha⟩:=hg
  have hpos:0<r.length:=List.length_pos_iff.2 hne
  have hlt:r.length-1<r.length:=by omega
  have key:∀j,((r.set (r.length-1) ((lastP r).1,(lastP r).2+1)).getD j zp).1=(r.getD j zp).1:=by
   intro j
   by_cases e:r.length-1=j
   ·subst e;rw[getD_set_self _ _ _ _ hlt];rfl
   ·rw[getD_set_ne _ _ _ _ _ e]
  refine⟨?_, ?_, ?_, ?_⟩
  ·intro j hj;rw[List.length_set] at hj;rw[key];exact h.who j hj
  ·intro j hj
   rw[List.length_set] at hj
   by_cases e:r.length-1=j
   ·subst e;rw[getD_set_self _ _ _ _ hlt]
    have:=h.many _ hlt
    show(1:Int)≤(lastP r).2+1
    unfold lastP;omega
   ·rw[getD_set_ne _ _ _ _ _ e];exact h.many j hj
  ·rw[List.map_set,tot_set _ _ _ (by simpa using hlt),h.sum]
   have:(r.map (·.2)).getD (r.length-1) 0=(lastP r).2:=by
    unfold lastP;rw[List.getD_eq_getElem?_getD,List.getElem?_map,List.getD_eq_getElem?_getD,List.getElem?_eq_getElem hlt];rfl
   rw[this];push_cast;omega
  ·intro j hj;rw[List.length_set] at hj;rw[key,key];exact h.apart j hj
 ·rw[if_neg hg]
  refine⟨?_, ?_, ?_, ?_⟩
  ·intro j hj
   rw[List.length_append] at hj
   by_cases e:j<r.length
   ·rw[getD_left _ _ _ e];exact h.who j e
   ·obtain rfl:j=r.length:=by simp at hj;omega
    rw[getD_new];exact⟨h1,h8⟩
  ·intro j hj
   rw[List.length_append] at hj
   by_cases e:j<r.length
   ·rw[getD_left _ _ _ e];exact h.many j e
   ·obtain rfl:j=r.length:=by simp at hj;omega
    rw[getD_new];exact Int.le_refl _
  ·rw[List.map_append,tot_append,h.sum];simp[tot]
  ·intro j hj
   rw[List.length_append] at hj
   by_cases e:j+1<r.length
   ·rw[getD_left _ _ _ e,getD_left _ _ _ (by omega)];exact h.apart j e
   ·have e2:r.length=j+1:=by simp at hj;omega
    rw[getD_left _ _ _ (by omega),←e2,getD_new]
    intro e3
    apply hg
    have:lastP r=r.getD j zp:=by unfold lastP;rw[e2];rfl
    simp only[goesOn,Bool.and_eq_true,decide_eq_true_eq]
    refine⟨?_,by rw[this];exact e3⟩
    rintro rfl;simp at e2
theorem who_ok {x:Leaf} (h:leafE x=0):1≤who x∧who x≤8:=by
 have hc:=(leafE_zero.1 h).1
 have:Pm.isWho (Pm.whoOf x.1.toList)=true:=by
  unfold Pm.chk at hc
  repeat' split at hc
  all_goals first | (exact absurd hc (by decide)) | simp_all
 unfold Pm.isWho at this
 simpa[who] using this
theorem step_rn {r:List Pr} {n:Nat} {x:Leaf} (h:Rn r n) (hx:leafE x=0):Rn (stepR r x) (if isS x=true then n+1 else n):=by
 unfold stepR
 by_cases e:isS x=true
 ·rw[if_pos e,if_pos e];exact h.add (who_ok hx).1 (who_ok hx).2
 ·rw[if_neg e,if_neg e];exact h
theorem runs_fold:∀(l:List Leaf) (r:List Pr) (n:Nat),Rn r n→(∀x ∈ l,leafE x=0)→Rn (l.foldl stepR r) (n+(text l).length)
 | [],r,n,h,_=>by simpa[text] using h
 | x::l,r,n,h,hl=>by
  rw[List.foldl_cons,text_cons]
  have:=runs_fold l _ _ (step_rn h (hl x (by simp))) (fun y hy=>hl y (by simp[hy]))
  split<;>rename_i e
  ·rw[if_pos e] at this;rw[List.length_cons];rw[show n+((text l).length+1)=n+1+(text l).length by omega];exact this
  ·rw[if_neg e] at this;exact this
theorem runs_ok {l:List Leaf} (hl:∀x ∈ l,leafE x=0):Rn (runs l) (text l).length:=by
 have:=runs_fold l [] 0 Rn.nil hl
 rwa [Nat.zero_add] at this
theorem runs_ok_take {l:List Leaf} (hl:∀x ∈ l,leafE x=0) (k:Nat):Rn (runs (l.take k)) (text (l.take k)).length:=
 runs_ok fun x hx=>hl x (List.mem_of_mem_take hx)
theorem many_pos:∀(r:List Pr),(∀j,j<r.length→1≤(r.getD j zp).2)→(∀x ∈ r.map (·.2),0≤x)∧(r.length:Int)≤tot (r.map (·.2))
 | [],_=>⟨by simp,by simp[tot]⟩
 | y::r,h=>by
  have h0:=h 0 (by simp)
  have h1:=many_pos r (fun j hj=>by have:=h (j+1) (by simpa using hj);simpa using this)
  simp at h0
  refine⟨?_, ?_⟩
  ·intro x hx
   rw[List.map_cons,List.mem_cons] at hx
   rcases hx with rfl | hx
   ·omega
   ·exact h1.1 x hx
  ·rw[List.map_cons,tot,List.length_cons];have:=h1.2;push_cast;omega
theorem Rn.len {r:List Pr} {n:Nat} (h:Rn r n):r.length≤n:=by
 have:=(many_pos r h.many).2;rw[h.sum] at this;omega
theorem Rn.le {r:List Pr} {n:Nat} (h:Rn r n) (j:Nat):(r.getD j zp).2≤n:=by
 have:=tot_le _ (many_pos r h.many).1 j
 rw[h.sum] at this
 by_cases hj:j<r.length
 ·rw[List.getD_eq_getElem?_getD,List.getElem?_map,List.getElem?_eq_getElem hj] at this
  rw[List.getD_eq_getElem?_getD,List.getElem?_eq_getElem hj];exact this
 ·rw[List.getD_eq_getElem?_getD,List.getElem?_eq_none (by omega)]
  show(0:Int)≤n;omega
structure Wn (v:List Int) (n:Int):Prop where
 len:v.length=8
 pos:∀x ∈ v,0≤x
 sum:tot v=n
theorem Wn.start:Wn [0,0,0,0,0,0,0,0] 0:=⟨rfl,by simp,rfl⟩
theorem getD_nn {v:List Int} (h:∀x ∈ v,0≤x) (i:Nat):0≤v.getD i 0:=by
 by_cases hi:i<v.length
 ·rw[List.getD_eq_getElem?_getD,List.getElem?_eq_getElem hi];exact h _ (List.getElem_mem hi)
 ·rw[List.getD_eq_getElem?_getD,List.getElem?_eq_none (by omega)];exact Int.le_refl _
theorem Wn.add {v:List Int} {n:Int} (h:Wn v n) {y:Pr} (h1:1≤y.1) (h8:y.1≤8) (hm:1≤y.2):Wn (addW v y) (n+y.2):=by
 have hlt:at8 y<v.length:=by rw[h.len];unfold at8;omega
 refine⟨by unfold addW;rw[List.length_set];exact h.len, ?_, ?_⟩
 ·intro x hx
  unfold addW at hx
  rcases List.mem_or_eq_of_mem_set hx with hx | rfl
  ·exact h.pos x hx
  ·have:=getD_nn h.pos (at8 y);omega
 ·unfold addW;rw[tot_set _ _ _ hlt,h.sum];omega
theorem wrt_fold:∀(r:List Pr) (v:List Int) (n:Int),Wn v n→(∀j,j<r.length→1≤(r.getD j zp).1∧(r.getD j zp).1≤8)→(∀j,j<r.length→1≤(r.getD j zp).2)→Wn (r.foldl addW v) (n+tot (r.map (·.2)))
 | [],v,n,h,_,_=>by simpa[tot] using h
 | y::r,v,n,h,hw,hm=>by
  rw[List.foldl_cons,List.map_cons,tot]
  have h0:=hw 0 (by simp)
  have h1:=hm 0 (by simp)
  simp at h0 h1
  have:=wrt_fold r _ _ (h.add h0.1 h0.2 h1) (fun j hj=>by have:=hw (j+1) (by simpa using hj);simpa using this) (fun j hj=>by have:=hm (j+1) (by simpa using hj);simpa using this)
  rw[show n+(y.2+tot (r.map (·.2)))=n+y.2+tot (r.map (·.2)) by omega];exact this
theorem Rn.wrt {r:List Pr} {n:Nat} (h:Rn r n):Wn (wrt r) n:=by
 have:=wrt_fold r _ _ Wn.start h.who h.many
 rw[h.sum,Int.zero_add] at this;exact this
theorem getD_take {α :Type} (l:List α) (z: α) {j k:Nat} (h:j<k):(l.take k).getD j z=l.getD j z:=by
 rw[List.getD_eq_getElem?_getD,List.getD_eq_getElem?_getD,List.getElem?_take_of_lt h]
theorem tot_nn:∀(l:List Int),(∀x ∈ l,0≤x)→0≤tot l
 | [],_=>by simp[tot]
 | y::l,h=>by have:=tot_nn l (fun x hx=>h x (by simp[hx]));have:=h y (by simp);rw[tot];omega
theorem tot_take_le {l:List Int} (h:∀x ∈ l,0≤x) (k:Nat):0≤tot (l.take k)∧tot (l.take k)≤tot l:=by
 refine⟨tot_nn _ fun x hx=>h x (List.mem_of_mem_take hx), ?_⟩
 have e:=tot_append (l.take k) (l.drop k)
 rw[List.take_append_drop] at e
 have:=tot_nn (l.drop k) fun x hx=>h x (List.mem_of_mem_drop hx)
 omega
theorem Rn.wrt_take {r:List Pr} {n:Nat} (h:Rn r n) (k:Nat):∃m:Int,Wn (Sq1.wrt (r.take k)) m∧0≤m∧m≤n:=by
 have hw:∀j,j<(r.take k).length→j<r.length∧(r.take k).getD j zp=r.getD j zp:=fun j hj=>by
  rw[List.length_take] at hj;exact⟨by omega,getD_take _ _ (by omega)⟩
 have:=wrt_fold (r.take k) _ _ Wn.start (fun j hj=>by rw[(hw j hj).2];exact h.who j (hw j hj).1) (fun j hj=>by rw[(hw j hj).2];exact h.many j (hw j hj).1)
 rw[Int.zero_add,List.map_take] at this
 have h2:=tot_take_le (many_pos r h.many).1 k
 rw[h.sum] at h2
 exact⟨_,this,h2.1,h2.2⟩
theorem Wn.le {v:List Int} {n:Int} (h:Wn v n) (i:Nat):0≤v.getD i 0∧v.getD i 0≤n:=by
 refine⟨getD_nn h.pos i, ?_⟩
 have:=tot_le v h.pos i;rwa [h.sum] at this
end Sq1
namespace Sq2
open Go.ChangeShapes Go.WideShapes Go.ChangeAt Go.RowKit Ka Kb Sq1
open Na (flatD flatD_append flatD_length flatD_at flatD_one cells2)
open La (bel bel_drew errV_zero errV_ne own_ge own_grow own_below)
theorem wrap_in {x:Int} (h1: -1000000000≤x) (h2:x≤1000000000):IntKind.i64.wrap x=x:=by
 rw[IntKind.wrap_i64];omega
theorem bel_dr {B:Nat} {a w:World} (h:Below B a w):Below B a w.drew:=⟨h.os,h.tape,h.output,h.size,h.block⟩
theorem author_any (s:ByteArray) (w:World) (hs:s.size≤maxLen) (h:Pm.chk s.toList=0):
  Calls Tryz.prog 159 #[.string s] w fun e w'=>e=.returned (.tuple #[.int .i64 (Pm.whoOf s.toList),.nilIface])∧w'=w:=by
 have hz:0<s.size:=by
  have:=(Bm.chk_pos h).1;rw[len_eq] at this;omega
 have H:=z9 h
 clear h
 go_enter Tryz.func159,Tryz.ntmps159
 go_wp2_with (first | (go_at_call 206;refine(check_any _ _ hs).mono ?_;rintro e w' ⟨rfl,rfl⟩;rw[H.out,errV,if_pos rfl]) | (go_at_call 207;refine(authorOf_any _ _ hz hs).mono ?_;rintro e w' ⟨rfl,rfl⟩))
 go_ret2
 exact⟨rfl,rfl⟩
theorem info2:(Tryz.prog.info? 75).map (fun i=>(i.zero,i.size,i.bytes))=some (some (.agg #[.int .i64 0,.int .i64 0]),2,16):=by kernel_rfl
def Own (B:Nat) (w:World) (v:Value) (r:List Pr):Prop:=w.ownsRow B 75 2 v r.length (flatD r)
theorem Own.nil (B:Nat) (w:World):Own B w (.slice none 0 0) []:=World.ownsRow_nil _ _ _ _
theorem Own.shape {B:Nat} {w:World} {v:Value} {r:List Pr} (h:Own B w v r):∃p c,v=.slice p r.length c∧(0<r.length→∃g,p=some ⟨g,0,none⟩∧B≤g):=by
 rcases h.2 with⟨rfl,h0⟩ | ⟨g,cap,cur,rfl,hg,_⟩
 ·exact⟨none,0,by rw[h0],fun h=>by omega⟩
 ·exact⟨_,_,rfl,fun _=>⟨g,rfl,hg⟩⟩
theorem Own.cells {B:Nat} {w:World} {g c n:Nat} {r:List Pr} (h:Own B w (.slice (some ⟨g,0,none⟩) n c) r) (hn:r.length=n) {j:Nat} (hj:j<n):
  w.cell? ⟨g,j*2,none⟩=some (.int .i64 (r.getD j zp).1)∧w.cell? ⟨g,j*2+1,none⟩=some (.int .i64 (r.getD j zp).2):=by
 unfold Own at h
 rw[hn] at h
 have hf:=flatD_at (l:=r) (j:=j) (by omega)
 rw[h.cellAt (j*2) (by omega),h.cellAt (j*2+1) (by omega)]
 exact hf
theorem set_flat:∀(r:List Pr) (j:Nat) (y:Int),j<r.length→(flatD r).set (j*2+1) (.int .i64 y)=flatD (r.set j ((r.getD j zp).1,y))
 | [],j,y,h=>absurd h (by simp)
 | x::r,0,y,h=>by simp[flatD,cells2]
 | x::r,j+1,y,h=>by
  have:=set_flat r j y (by simpa using h)
  have e:flatD (x::r)=.int .i64 x.1:: .int .i64 x.2::flatD r:=by simp[flatD,cells2]
  rw[e,show(j+1)*2+1=(j*2+1)+1+1 by omega,List.set_cons_succ,List.set_cons_succ,this]
  simp[flatD,cells2]
theorem two_new (w:World) (a b:Int) (t:TypeId):∀j u,[Value.int .i64 a,.int .i64 b][j]? =some u→(w.alloc (.cells #[.int .i64 a,.int .i64 b] t)).cell? ((⟨w.heap.size,0,none⟩:Addr).add j)=some u:=by
 intro j u hu
 have h2:(w.alloc (.cells #[.int .i64 a,.int .i64 b] t)).heap[w.heap.size]? =some (.cells #[.int .i64 a,.int .i64 b] t):=heap_alloc_new w _
 rw[Addr.add_lit,Nat.zero_add]
 simp only[World.cell?,h2]
 simpa using hu
theorem Own.more {B:Nat} {w:World} {v:Value} {r:List Pr} {a:Int} (h:w.ownsRow B 75 2 v (r.length+1) (flatD r++[.int .i64 a,.int .i64 1])):Own B w v (r++[(a,1)]):=by
 unfold Own;rw[flatD_append,List.length_append];exact h
theorem lengthened_any (B:Nat) (v:Value) (r:List Pr) (a:Int) (w:World) (h:Own B w v r) (hB:B≤w.heap.size) (hl:r.length≤1048576) (hm:∀j,0≤(r.getD j zp).2∧(r.getD j zp).2≤1048576):
  Calls Tryz.prog 160 #[v,.int .i64 a] w fun e w'=>∃v',e=.returned v'∧Own B w' v' (addR r a)∧Below B w w':=by
 obtain⟨i0,hi,hz0,hz1,hz2⟩:=info_parts info2
 have HO:=z9 h
 obtain⟨p,c,rfl,hp⟩:=h.shape
 obtain⟨n,hn⟩:∃n,n=r.length:=⟨_,rfl⟩
 rw[←hn] at hp hl HO ⊢
 have HN:=z9 hn.symm
 clear h
 by_cases h0:n=0
 ·have HG:Hid (addR r a=r++[(a,1)]):=by
   unfold Hid addR;rw[if_neg];rw[List.eq_nil_of_length_eq_zero (by omega:r.length=0)];simp[goesOn]
  subst h0
  clear hn hp hm
  go_enter Tryz.func160,Tryz.ntmps160
  go_wp2_with (at_builtin;refine wpList_append_own_at _ rfl (.tmp 20) (.tmp 23) 73 rfl B 75 i0 (.agg #[.int .i64 0,.int .i64 0]) 2 16 Tryz.underlying73 hi hz0 hz1 hz2 rfl (by decide) (.slice p 0 c) _ _ rfl (World.ownsRow.alloc HO.out _) ⟨w.heap.size,0,none⟩ 1 1 [.int .i64 a,.int .i64 1] rfl rfl (two_new _ _ _ _) (by simp[Value.oneCell']) (by unfold maxLen;rw[HN.out];omega) (by rw[HN.out];omega) (by simp;omega) ?_;intro v9 w9 hown9 hgrow9 _ hat9;have HO9:Hid (Own B w9 v9 (addR r a)):=(by rw[HG.out];exact Own.more hown9);have HB9:Hid (Below B w w9):=(own_grow HO.out ((Below.refl B w).alloc hB _) hgrow9 (by simp;omega));clear hown9 hgrow9 hat9)
  go_ret
  exact⟨_,rfl,HO9.out,HB9.out⟩
 ·obtain⟨m,rfl⟩:∃m,n=m+1:=⟨n-1,by omega⟩
  obtain⟨g,rfl,hg⟩:=hp (by omega)
  obtain⟨c1,c2⟩:=HO.out.cells HN.out (show m<m+1 by omega)
  have hfr:w.frozen? ⟨g,m*2+1,none⟩=false:=by
   have:=HO.out;unfold Own at this;rw[HN.out] at this;exact this.frozenAt _
  have hmm:=hm m
  have HL:Hid (lastP r=r.getD m zp):=by unfold Hid lastP;rw[HN.out];rfl
  obtain⟨x,hx⟩:∃x,x=r.getD m zp:=⟨_,rfl⟩
  rw[←hx] at c1 c2 hmm HL
  have HX:=z9 hx
  obtain⟨xa,xm⟩:=x
  simp only at c1 c2 hmm
  obtain⟨hm0,hm1⟩:=hmm
  clear hx hm hp hn h0
  cases hq:(xa==a)
  ·have HG:Hid (addR r a=r++[(a,1)]):=by
    unfold Hid addR;rw[if_neg];simp only[goesOn,HL.out];simp at hq ⊢;intro _;exact hq
   have hq2:(xa !=a)=true:=by rw[bne,hq];rfl
   go_enter Tryz.func160,Tryz.ntmps160
   go_wp2_with (at_builtin;refine wpList_append_own_at _ rfl (.tmp 20) (.tmp 23) 73 rfl B 75 i0 (.agg #[.int .i64 0,.int .i64 0]) 2 16 Tryz.underlying73 hi hz0 hz1 hz2 rfl (by decide) (.slice (some ⟨g,0,none⟩) (m+1) c) _ _ rfl (World.ownsRow.alloc HO.out _) ⟨w.heap.size,0,none⟩ 1 1 [.int .i64 a,.int .i64 1] rfl rfl (two_new _ _ _ _) (by simp[Value.oneCell']) (by unfold maxLen;rw[HN.out];omega) (by rw[HN.out];omega) (by simp;omega) ?_;intro v9 w9 hown9 hgrow9 _ hat9;have HO9:Hid (Own B w9 v9 (addR r a)):=(by rw[HG.out];exact Own.more hown9);have HB9:Hid (Below B w w9):=(own_grow HO.out ((Below.refl B w).alloc hB _) hgrow9 (by simp;omega));clear hown9 hgrow9 hat9)
   go_ret
   exact⟨_,rfl,HO9.out,HB9.out⟩
  ·have HG:Hid (addR r a=r.set m (xa,xm+1)):=by
    have e:xa=a:=by simpa using hq
    unfold Hid addR
    rw[if_pos,HN.out,HL.out]; · rfl
    simp only[goesOn,HL.out,e];simp
    rintro rfl;have:=HN.out;simp at this
   have HO2:Hid (Own B (w.setCell ⟨g,m*2+1,none⟩ (.int .i64 (xm+1))) (.slice (some ⟨g,0,none⟩) (m+1) c) (addR r a)):=by
    unfold Hid;rw[HG.out]
    have h1:=HO.out
    unfold Own at h1 ⊢
    rw[List.length_set,HN.out]
    rw[HN.out] at h1
    have h2:=(h1.stored (m*2+1) (.int .i64 (xm+1))).1
    rw[set_flat r m (xm+1) (by rw[HN.out];omega),←HX.out] at h2
    exact h2
   have HB2:Hid (Below B w (w.setCell ⟨g,m*2+1,none⟩ (.int .i64 (xm+1)))):=(Below.refl B w).setCell hg _
   have hq2:(xa !=a)=false:=by rw[bne,hq];rfl
   have hwr:IntKind.i64.wrap (xm+1)=xm+1:=wrap_in (by omega) (by omega)
   go_enter Tryz.func160,Tryz.ntmps160
   go_wp2
   go_region
   go_wp2
   go_ret
   exact⟨_,rfl,HO2.out,bel_dr HB2.out⟩
end Sq2
namespace Sq3
open Go.ChangeShapes Go.WideShapes Go.ChangeAt Go.RowKit Ka Kb Sq1 Sq2
open Bm (Leaf none0 bookE leafE isS text bookE_zero getD_mem)
open La (bel bel_drew errV_zero errV_ne own_ge own_grow own_below LeafsIn)
open Lb (isSeen_any)
open Lc (check_book new_cell bel_new)
def runsR (l:List Leaf):List Pr:=if bookE l=0 then runs l else[]
def wrtR (l:List Leaf):List Int:=if bookE l=0 then wrt (runs l) else[]
theorem text_take_le (l:List Leaf) (k:Nat):(text (l.take k)).length≤l.length:=by
 have h1:=Bm.text_len_le (l.take k);rw[List.length_take] at h1;omega
theorem runs_any (p:Option Addr) (n c:Nat) (l:List Leaf) (w:World) (hl:l.length=n) (h:LeafsIn w p l) (hs:∀x ∈ l,x.1.size≤maxLen) (hn:n≤maxLen):
  Calls Tryz.prog 117 #[.slice p n c] w fun e w'=>∃v,e=.returned (.tuple #[v,errV (bookE l)])∧Hid (Own w.heap.size w' v (runsR l))∧Hid (Below w.heap.size w w'):=by
 have C:=check_book p n c l w hl h hs hn
 unfold maxLen at hn
 by_cases h0:bookE l=0
 ·have HR:Hid (runsR l=runs l):=by unfold Hid runsR;rw[if_pos h0]
  rw[h0,errV_zero] at C ⊢
  obtain⟨hb1,hb2,_⟩:=bookE_zero.1 h0
  have hn3:n≤300:=by omega
  have HE:=z9 hb2
  have HL:=z9 hl
  have HI:=z9 h
  have HS:=z9 hs
  clear hl h hs h0 hb1 hb2
  go_enter Tryz.func117,Tryz.ntmps117
  go_wp2_with fail
  refine C.mono ?_
  rintro e w2 ⟨rfl,hb2⟩
  have HB2:=z9 hb2
  clear hb2 C
  go_wp2_with fail
  go_loopw [5,7,8,9,17] (fun v _ _ _ i wr=>∃(k:Nat),k≤n∧i=.int .i64 k∧Hid (Own w.heap.size wr v (runs (l.take k)))∧Hid (Below w.heap.size w wr)) (fun _ _ _ _ i _=>n-(intOf i).toNat)
  case atStart=>exact⟨0,by omega,rfl,Own.nil _ _,HB2⟩
  case round=>
   clear HB2
   obtain⟨k,hk,rfl,HW,HB⟩:=hrel
   by_cases hlt:k<n
   ·have hltz:(k:Int)<n:=by omega
    obtain⟨b,o,rfl,hc⟩:=HI.out.some (by intro e;have:=HL.out;rw[e] at this;simp at this;omega)
    have hkl:k<l.length:=by rw[HL.out];exact hlt
    have ha:=(hc k hkl).below HB.out (hc k hkl).lt
    have HT:=z9 (runs_take hkl)
    have HRN:=runs_ok_take HE.out k
    have htl:=text_take_le l k
    rw[HL.out] at htl
    have hcx:Pm.chk (l.getD k none0).1.toList=0:=(Bm.leafE_zero.1 (HE.out _ (getD_mem hkl))).1
    have hss:=HS.out _ (getD_mem hkl)
    obtain⟨x,hx⟩:∃x,x=l.getD k none0:=⟨_,rfl⟩
    rw[←hx] at ha HT hcx hss
    obtain⟨sx,nx,bx⟩:=x
    obtain⟨a1,a2,a3⟩:=ha
    clear hc hx
    simp only at a1 a2 a3 hcx hss
    have HC:=z9 hcx
    have C:=isSeen_any sx nx bx (wr.alloc (.cells #[.string sx,.int .i64 nx,.bool bx] 93))
    have HLN:Hid ((runs (l.take k)).length≤1048576):=by have:=HRN.len;unfold Hid;omega
    have HMN:Hid (∀j,0≤((runs (l.take k)).getD j zp).2∧((runs (l.take k)).getD j zp).2≤1048576):=by
     intro j
     have h1:=HRN.le j
     refine⟨?_,by omega⟩
     by_cases hj:j<(runs (l.take k)).length
     ·have:=HRN.many j hj;omega
     ·rw[List.getD_eq_getElem?_getD,List.getElem?_eq_none (by omega)];exact Int.le_refl _
    clear HRN htl hcx
    cases hse:isS (sx,nx,bx)
    ·rw[hse] at C
     have HW2:Hid (Own w.heap.size wr u5 (runs (l.take (k+1)))):=by
      unfold Hid;rw[HT.out];unfold stepR;rw[hse,if_neg (by decide)];exact HW.out
     clear hse
     go_wp2_with fail
     refine C.mono ?_
     rintro e w2 ⟨rfl,hb2⟩
     have HB2:=z9 (bel_new HB.out hb2)
     have HW3:Hid (Own w.heap.size w2 u5 (runs (l.take (k+1)))):=own_below (World.ownsRow.alloc HW2.out _) hb2
     clear hb2 C a1 a2 a3
     go_wp2_with fail
     go_roundw
     case rel=>exact⟨k+1,by omega,by go_num,HW3,HB2⟩
     case measure=>simp[intOf];omega
    ·rw[hse] at C
     have HT2:Hid (runs (l.take (k+1))=addR (runs (l.take k)) (Pm.whoOf sx.toList)):=by
      unfold Hid;rw[HT.out];unfold stepR;rw[hse,if_pos rfl];rfl
     clear hse
     go_wp2_with fail
     refine C.mono ?_
     rintro e w2 ⟨rfl,hb2⟩
     have HB2:=z9 (bel_new HB.out hb2)
     have d1:=(new_cell (x:=(sx,nx,bx)) hb2).1
     simp only at d1
     have HW3:Hid (Own w.heap.size w2 u5 (runs (l.take k))):=own_below (World.ownsRow.alloc HW.out _) hb2
     clear hb2 C a1 a2 a3
     go_wp2_with fail
     refine(author_any sx w2 hss HC.out).mono ?_
     rintro e w3 ⟨rfl,hw⟩
     have hw2:=hw.symm;subst hw2;clear hw
     go_wp2_with fail
     refine(lengthened_any w.heap.size u5 (runs (l.take k)) (Pm.whoOf sx.toList) w2 HW3.out HB2.out.size HLN.out HMN.out).mono ?_
     rintro e w4 ⟨v4,rfl,ho4,hb4⟩
     have HW4:Hid (Own w.heap.size w4 v4 (runs (l.take (k+1)))):=by unfold Hid;rw[HT2.out];exact ho4
     have HB4:=z9 (HB2.out.trans hb4)
     clear ho4 hb4
     go_wp2_with fail
     go_roundw
     case rel=>exact⟨k+1,by omega,by go_num,HW4,HB4⟩
     case measure=>simp[intOf];omega
   ·obtain rfl:k=n:=by omega
    have HW2:Hid (Own w.heap.size wr u5 (runsR l)):=by
     have:=HW.out
     unfold Hid;rw[HR.out]
     rwa [List.take_of_length_le (by rw[HL.out];exact Nat.le_refl _)] at this
    go_wp2_with fail
    go_ret2
    exact⟨_,rfl,HW2,HB⟩
 ·obtain⟨q,hq⟩:∃q,q=bookE l:=⟨_,rfl⟩
  have HR:Hid (runsR l=[]):=by unfold Hid runsR;rw[if_neg h0]
  rw[errV_ne h0,←hq] at C ⊢
  clear hl h hs h0 hq
  go_enter Tryz.func117,Tryz.ntmps117
  go_wp2_with fail
  refine C.mono ?_
  rintro e w2 ⟨rfl,hb2⟩
  have HB2:=z9 hb2
  clear hb2 C
  go_wp2_with fail
  go_ret2
  exact⟨_,rfl,by rw[HR.out];exact Own.nil _ _,HB2⟩
def vi (xs:List Int):List Value:=xs.map (Value.int .i64)
def OwnI (B:Nat) (w:World) (v:Value) (xs:List Int):Prop:=w.ownsRow B 3 1 v xs.length (vi xs)
theorem infoInt:(Tryz.prog.info? 3).map (fun i=>(i.zero,i.size,i.bytes))=some (some (.int .i64 0),1,8):=by kernel_rfl
theorem made8:(madeCells (Value.int .i64 0).cells (8*1)).toList=vi [0,0,0,0,0,0,0,0]:=by kernel_rfl
theorem vi_at {xs:List Int} {j:Nat} (hj:j<xs.length):(vi xs)[j]? =some (.int .i64 (xs.getD j 0)):=by
 unfold vi;rw[List.getElem?_map,List.getElem?_eq_getElem hj,List.getD_eq_getElem?_getD,List.getElem?_eq_getElem hj];rfl
theorem OwnI.cell {B:Nat} {w:World} {g c n:Nat} {xs:List Int} (h:OwnI B w (.slice (some ⟨g,0,none⟩) n c) xs) (hn:xs.length=n) {j:Nat} (hj:j<n):
  w.cell? ⟨g,j,none⟩=some (.int .i64 (xs.getD j 0))∧w.frozen? ⟨g,j,none⟩=false:=by
 unfold OwnI at h
 rw[hn] at h
 exact⟨by rw[h.cellAt j (by omega)];exact vi_at (by omega),h.frozenAt j⟩
theorem OwnI.put {B:Nat} {w:World} {g c n:Nat} {xs:List Int} (h:OwnI B w (.slice (some ⟨g,0,none⟩) n c) xs) (hn:xs.length=n) (j:Nat) (y:Int):
  OwnI B (w.setCell ⟨g,j,none⟩ (.int .i64 y)) (.slice (some ⟨g,0,none⟩) n c) (xs.set j y):=by
 unfold OwnI at h ⊢
 rw[hn] at h
 rw[List.length_set,hn]
 have h2:=(h.stored j (.int .i64 y)).1
 unfold vi at h2 ⊢
 rw[List.map_set];exact h2
theorem OwnI.nil (B:Nat) (w:World):OwnI B w (.slice none 0 0) []:=World.ownsRow_nil _ _ _ _
theorem OwnI.shape {B:Nat} {w:World} {v:Value} {xs:List Int} (h:OwnI B w v xs):∃p c,v=.slice p xs.length c∧(0<xs.length→∃g,p=some ⟨g,0,none⟩∧B≤g):=by
 rcases h.2 with⟨rfl,h0⟩ | ⟨g,cap,cur,rfl,hg,_⟩
 ·exact⟨none,0,by rw[h0],fun h=>by omega⟩
 ·exact⟨_,_,rfl,fun _=>⟨g,rfl,hg⟩⟩
theorem own_mono {w:World} {B C:Nat} {t:TypeId} {z n:Nat} {v:Value} {xs:List Value} (h:w.ownsRow B t z v n xs) (hC:C≤B):w.ownsRow C t z v n xs:=by
 refine⟨h.1, ?_⟩
 rcases h.2 with h0 | ⟨g,cap,cur,h1,h2,h3⟩
 ·exact Or.inl h0
 ·exact Or.inr ⟨g,cap,cur,h1,Nat.le_trans hC h2,h3⟩
theorem box2 (w:World) (a b:Int) (t:TypeId):(w.alloc (.cells #[.int .i64 a,.int .i64 b] t)).cell? ⟨w.heap.size,0,none⟩=some (.int .i64 a)∧(w.alloc (.cells #[.int .i64 a,.int .i64 b] t)).cell? ⟨w.heap.size,1,none⟩=some (.int .i64 b):=by
 have h2:(w.alloc (.cells #[.int .i64 a,.int .i64 b] t)).heap[w.heap.size]? =some (.cells #[.int .i64 a,.int .i64 b] t):=heap_alloc_new w _
 constructor<;>(simp only[World.cell?,h2];rfl)
theorem written_any (p:Option Addr) (n c:Nat) (l:List Leaf) (w:World) (hl:l.length=n) (h:LeafsIn w p l) (hs:∀x ∈ l,x.1.size≤maxLen) (hn:n≤maxLen):
  Calls Tryz.prog 82 #[.slice p n c] w fun e w'=>∃v,e=.returned (.tuple #[v,errV (bookE l)])∧Hid (OwnI w.heap.size w' v (wrtR l))∧Hid (Below w.heap.size w w'):=by
 have C:=runs_any p n c l w hl h hs hn
 by_cases h0:bookE l=0
 ·obtain⟨hb1,hb2,_⟩:=bookE_zero.1 h0
  have HRN:=z9 (runs_ok hb2)
  have htl:(text l).length≤300:=Nat.le_trans (Bm.text_len_le l) hb1
  have HR:Hid (wrtR l=wrt (runs l)):=by unfold Hid wrtR;rw[if_pos h0]
  rw[show runsR l=runs l by unfold runsR;rw[if_pos h0]] at C
  rw[h0,errV_zero] at C ⊢
  obtain⟨i0,hi,hz0,hz1,hz2⟩:=info_parts infoInt
  obtain⟨r,hr⟩:∃r,r=runs l:=⟨_,rfl⟩
  rw[←hr] at C HRN HR
  obtain⟨tn,htn⟩:∃tn,tn=(text l).length:=⟨_,rfl⟩
  rw[←htn] at HRN htl
  clear hl h hs h0 hb1 hb2 hn hr htn
  go_enter Tryz.func82,Tryz.ntmps82
  go_wp2_with fail
  refine C.mono ?_
  rintro e w2 ⟨v2,rfl,HO2,HB2⟩
  clear C
  obtain⟨q2,c2,rfl,hq2⟩:=HO2.out.shape
  obtain⟨m,hm⟩:∃m,m=r.length:=⟨_,rfl⟩
  have HM:=z9 hm.symm
  rw[←hm] at hq2 HO2 ⊢
  have hm3:m≤300:=by have:=HRN.out.len;omega
  have HQ:=z9 hq2
  clear hm hq2
  go_wp2_with (at_make;refine wpList_make_full _ rfl (.const (.int .i64 8)) (.const (.int .i64 8)) 65 rfl w2.heap.size 3 i0 (.int .i64 0) 1 Tryz.underlying65 hi hz0 hz1 .i64 .i64 8 8 8 rfl rfl rfl rfl (by rw[hz2];omega) (by unfold maxLen;omega) (Nat.le_refl _) ?_;intro w3 hown hgrow;have HI:Hid (OwnI w2.heap.size w3 (.slice (some ⟨w2.heap.size,0,none⟩) 8 8) (wrt (r.take 0))):=(by have h9:=hown;rw[made8] at h9;exact h9);have HB3:Hid (Below w2.heap.size w2 w3):=⟨hgrow.os,hgrow.tape,hgrow.output,hgrow.size,fun k hk=>hgrow.block k hk (by intro e;cases e)⟩;clear hown hgrow)
  go_loopw [8,20] (fun _ i wr=>∃(k:Nat),k≤m∧i=.int .i64 k∧Hid (OwnI w2.heap.size wr (.slice (some ⟨w2.heap.size,0,none⟩) 8 8) (wrt (r.take k)))∧Hid (Below w2.heap.size w2 wr)) (fun _ i _=>m-(intOf i).toNat)
  case atStart=>exact⟨0,by omega,rfl,HI,HB3⟩
  case round=>
   clear HI HB3
   obtain⟨k,hk,rfl,HI,HB⟩:=hrel
   by_cases hlt:k<m
   ·have hltz:(k:Int)<m:=by omega
    obtain⟨g,rfl,hg⟩:=HQ.out (by omega)
    have hc2:=HO2.out.cells HM.out hlt
    have hkr:k<r.length:=by rw[HM.out];exact hlt
    have HT:=z9 (wrt_take hkr)
    have hwho:=HRN.out.who k hkr
    have hman:=HRN.out.many k hkr
    have hle:=HRN.out.le k
    obtain⟨M,hWn,hM0,hM1⟩:=HRN.out.wrt_take k
    have e1:=HB.out.cell (World.block_lt_of_cell? _ _ hc2.1)
    have e2:=HB.out.cell (World.block_lt_of_cell? _ _ hc2.2)
    have a1:=e1.trans hc2.1
    have a2:=e2.trans hc2.2
    obtain⟨y,hy⟩:∃y,y=r.getD k zp:=⟨_,rfl⟩
    rw[←hy] at a1 a2 HT hwho hman hle
    obtain⟨ya,ym⟩:=y
    simp only at a1 a2 hwho hman hle
    obtain⟨j,hj⟩:∃j,j=at8 (ya,ym):=⟨_,rfl⟩
    have hj8:j<8:=by rw[hj];unfold at8;simp only;omega
    have hjw:IntKind.i64.wrap (ya-1)=(j:Int):=by rw[wrap_in (by omega) (by omega),hj];unfold at8;simp only;omega
    have HV:Hid (OwnI w2.heap.size (wr.alloc (.cells #[.int .i64 ya,.int .i64 ym] 75)) (.slice (some ⟨w2.heap.size,0,none⟩) 8 8) (wrt (r.take k))):=World.ownsRow.alloc HI.out _
    obtain⟨b1,b2⟩:=box2 wr ya ym 75
    obtain⟨d1,d2⟩:=HV.out.cell hWn.len hj8
    obtain⟨x,hx⟩:∃x,x=(wrt (r.take k)).getD j 0:=⟨_,rfl⟩
    have hxb:=hWn.le j
    rw[←hx] at d1 hxb
    obtain⟨z,hzz⟩:∃z,z=x+ym:=⟨_,rfl⟩
    have hsw:IntKind.i64.wrap (x+ym)=z:=by rw[wrap_in (by omega) (by omega),hzz]
    have HN:Hid (OwnI w2.heap.size ((wr.alloc (.cells #[.int .i64 ya,.int .i64 ym] 75)).setCell ⟨w2.heap.size,j,none⟩ (.int .i64 z)) (.slice (some ⟨w2.heap.size,0,none⟩) 8 8) (wrt (r.take (k+1)))):=by
     unfold Hid;rw[HT.out];unfold addW;rw[←hj,←hx];show OwnI _ _ _ ((wrt (r.take k)).set j (x+ym));rw[←hzz];exact HV.out.put hWn.len j z
    have HBN:Hid (Below w2.heap.size w2 ((wr.alloc (.cells #[.int .i64 ya,.int .i64 ym] 75)).setCell ⟨w2.heap.size,j,none⟩ (.int .i64 z))):=(HB.out.alloc HB.out.size _).setCell (Nat.le_refl _) _
    have hz1':(0:Int)≤(j:Int):=by omega
    have hz2':(j:Int)<8:=by omega
    clear hc2 e1 e2 hwho hman hle hWn hM0 hM1 hy hj hx hxb hzz hkr HI
    go_wp2
    go_region
    generalize hwg:World.setCell _ _ _=wg at HN HBN ⊢
    clear hwg
    go_wp2
    go_roundw
    case rel=>exact⟨k+1,by omega,by go_num,HN.out,bel_dr HBN.out⟩
    case measure=>simp[intOf];omega
   ·obtain rfl:k=m:=by omega
    have HN:Hid (OwnI w.heap.size wr (.slice (some ⟨w2.heap.size,0,none⟩) 8 8) (wrtR l)):=by
     have:=HI.out
     unfold Hid;rw[HR.out]
     rw[List.take_of_length_le (by rw[HM.out];exact Nat.le_refl _)] at this
     exact own_mono this HB2.out.size
    have HBN:=z9 (bel HB2.out HB.out)
    go_wp2_with fail
    go_ret2
    exact⟨_,rfl,HN,HBN⟩
 ·obtain⟨q,hq⟩:∃q,q=bookE l:=⟨_,rfl⟩
  have HR:Hid (wrtR l=[]):=by unfold Hid wrtR;rw[if_neg h0]
  rw[errV_ne h0,←hq] at C ⊢
  clear hl h hs h0 hq
  go_enter Tryz.func82,Tryz.ntmps82
  go_wp2_with fail
  refine C.mono ?_
  rintro e w2 ⟨v2,rfl,_,HB2⟩
  clear C
  go_wp2_with fail
  go_ret2
  exact⟨_,rfl,by rw[HR.out];exact OwnI.nil _ _,HB2⟩
end Sq3
end Go.Proofs.YtiamefgoeibhhaaGreatDoor
