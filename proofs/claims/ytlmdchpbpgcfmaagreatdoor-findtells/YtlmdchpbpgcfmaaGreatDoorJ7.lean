import Derived.Test.YtlmdchpbpgcfmaaGreatDoorJ1
import Derived.Test.YtlmdchpbpgcfmaaGreatDoorJ4
import Derived.Deep.RegionHeld3
import Derived.Deep.QuietTactic
import Derived.BigQuiet
import Derived.Laws.IdiomStrings
import Derived.OwnWalk
import Derived.Maps.AppendAt
import Derived.Laws.Tables
set_option linter.unusedVariables false
set_option maxRecDepth 100000
set_option maxHeartbeats 8000000
/- The plain mathematics of ops: what is wrong with one, its bytes, bytes that are one. No program is named here. -/
namespace Go.Proofs.YtlmdchpbpgcfmaaGreatDoor
namespace Om
open Cm
/- an op: its dot, what it does, its place, its letter, what it saw -/
abbrev Ox:=Dt × Int × ByteArray × Int × List Dt
def oz:Ox:=((0,0),0,ByteArray.empty,0,[])
def isLetter (n:Int):Bool:=decide (32≤n)&&decide (n≤126)
def lawOf (o:Ox):Int:=
 if o.2.1=1∧isLetter o.2.2.2.1=false then 1
 else if(o.2.1≠1∧o.2.2.2.1≠0)∨(o.2.1≠4∧o.2.2.2.2≠[]) then 3
 else if 40<o.2.2.2.2.length then 4 else dotsE o.2.2.2.2
def opE (o:Ox):Int:=
 if dotE o.1.1 o.1.2≠0 then dotE o.1.1 o.1.2
 else if o.2.1<1∨4<o.2.1 then 1
 else if Pm.chk o.2.2.1.toList≠0 then Pm.chk o.2.2.1.toList
 else lawOf o
theorem dotE_iff {a b:Int}:dotE a b=0↔1≤a∧a≤8∧1≤b∧b≤9999:=by
 unfold dotE
 constructor
 ·intro h
  split at h
  ·exact absurd h (by decide)
  ·omega
 ·intro h;rw[if_neg (by omega)]
theorem isLetter_iff {n:Int}:isLetter n=true↔32≤n∧n≤126:=by unfold isLetter;simp
theorem lawOf_zero {o:Ox}:lawOf o=0↔(o.2.1=1→32≤o.2.2.2.1∧o.2.2.2.1≤126)∧(o.2.1≠1→o.2.2.2.1=0)∧(o.2.1≠4→o.2.2.2.2=[])∧o.2.2.2.2.length≤40∧dotsE o.2.2.2.2=0:=by
 obtain⟨⟨a,b⟩,t,p,c,s⟩:=o
 unfold lawOf
 simp only
 by_cases h1:t=1∧isLetter c=false
 ·rw[if_pos h1]
  constructor
  ·intro h;exact absurd h (by decide)
  ·rintro⟨g,_⟩
   have:=isLetter_iff.2 (g h1.1)
   rw[h1.2] at this;cases this
 ·rw[if_neg h1]
  have k1:t=1→32≤c∧c≤126:=by
   intro h
   cases h2:isLetter c
   ·exact absurd ⟨h,h2⟩ h1
   ·exact isLetter_iff.1 h2
  by_cases h2:(t≠1∧c≠0)∨(t≠4∧s≠[])
  ·rw[if_pos h2]
   constructor
   ·intro h;exact absurd h (by decide)
   ·rintro⟨_,g1,g2,_⟩
    rcases h2 with⟨e1,e2⟩ | ⟨e1,e2⟩
    ·exact absurd (g1 e1) e2
    ·exact absurd (g2 e1) e2
  ·rw[if_neg h2]
   have k2:t≠1→c=0:=fun h=>Decidable.byContradiction fun e=>h2 (Or.inl ⟨h,e⟩)
   have k3:t≠4→s=[]:=fun h=>Decidable.byContradiction fun e=>h2 (Or.inr ⟨h,e⟩)
   by_cases h3:40<s.length
   ·rw[if_pos h3]
    constructor
    ·intro h;exact absurd h (by decide)
    ·rintro⟨_,_,_,g,_⟩;omega
   ·rw[if_neg h3]
    exact⟨fun h=>⟨k1,k2,k3,by omega,h⟩,fun h=>h.2.2.2.2⟩
theorem opE_zero {o:Ox}:opE o=0↔dotE o.1.1 o.1.2=0∧(1≤o.2.1∧o.2.1≤4)∧Pm.chk o.2.2.1.toList=0∧lawOf o=0:=by
 unfold opE
 by_cases h1:dotE o.1.1 o.1.2=0
 ·rw[if_neg (by simpa using h1)]
  by_cases h2:o.2.1<1∨4<o.2.1
  ·rw[if_pos h2]
   constructor
   ·intro h;exact absurd h (by decide)
   ·rintro⟨_,g,_⟩;omega
  ·rw[if_neg h2]
   by_cases h3:Pm.chk o.2.2.1.toList=0
   ·rw[if_neg (by simpa using h3)]
    exact⟨fun h=>⟨h1,by omega,h3,h⟩,fun h=>h.2.2.2⟩
   ·rw[if_pos h3]
    exact⟨fun h=>absurd h h3,fun h=>absurd h.2.2.1 h3⟩
 ·rw[if_pos h1]
  exact⟨fun h=>absurd h h1,fun h=>absurd h.1 h1⟩
/- a number as a byte, as two -/
def u8 (n:Int):UInt8:=UInt8.ofNat n.toNat
def b2 (n:Int):List UInt8:=[u8 (n/256),u8 (n%256)]
theorem u8_val {n:Int} (h0:0≤n) (h1:n≤255):((u8 n).toNat:Int)=n:=by
 unfold u8
 rw[UInt8.toNat_ofNat']
 omega
theorem b2_val {n:Int} (h0:0≤n) (h1:n≤65535):((u8 (n/256)).toNat:Int)*256+((u8 (n%256)).toNat:Int)=n:=by
 rw[u8_val (by omega) (by omega),u8_val (by omega) (by omega)]
 omega
def seenB (s:List Dt):List UInt8:=s.flatMap fun d=>u8 d.1::b2 d.2
theorem seenB_cons (d:Dt) (s:List Dt):seenB (d::s)=u8 d.1::u8 (d.2/256)::u8 (d.2%256)::seenB s:=rfl
def tailB (o:Ox):List UInt8:=(if o.2.1=1 then[u8 o.2.2.2.1] else[])++(if o.2.1=4 then u8 o.2.2.2.2.length::seenB o.2.2.2.2 else[])
def frontB (o:Ox):List UInt8:=u8 o.2.1::u8 o.1.1::u8 (o.1.2/256)::u8 (o.1.2%256)::u8 o.2.2.1.size::(o.2.2.1.toList++tailB o)
def sumB (l:List UInt8):Int:=l.foldl (fun a c=>a+(c.toNat:Int)) 0
def bytesB (o:Ox):List UInt8:=frontB o++[u8 (sumB (frontB o)%253)]
theorem toList_mk (l:List UInt8):(⟨l.toArray⟩:ByteArray).toList=l:=by rw[ByteArray.toList_eq]
theorem mk_toList (s:ByteArray):(⟨s.toList.toArray⟩:ByteArray)=s:=by rw[ByteArray.toList_eq]
theorem len_eq (s:ByteArray):s.toList.length=s.size:=by rw[ByteArray.toList_eq];rfl
/- what stands in bytes, if they are an op -/
def threes:Nat→List UInt8→List Dt
 | k+1,a::b::c::r=>((a.toNat:Int),(b.toNat:Int)*256+(c.toNat:Int))::threes k r
 | _,_=>[]
def letterIn (t:Int) (r:List UInt8):Int:=if t=1 then((r.headD 0).toNat:Int) else 0
def seenIn (t:Int) (r:List UInt8):List Dt:=if t=4 then threes (r.headD 0).toNat r.tail else[]
def readB (s:List UInt8):Ox:=
 (((s.getD 1 0).toNat,((s.getD 2 0).toNat:Int)*256+((s.getD 3 0).toNat:Int)),((s.getD 0 0).toNat:Int),⟨((s.drop 5).take (s.getD 4 0).toNat).toArray⟩,
  letterIn ((s.getD 0 0).toNat:Int) (s.drop (5+(s.getD 4 0).toNat)),seenIn ((s.getD 0 0).toNat:Int) (s.drop (5+(s.getD 4 0).toNat)))
theorem threes_back:∀(s:List Dt) (r:List UInt8),(∀d ∈ s,dotE d.1 d.2=0)→threes s.length (seenB s++r)=s
 | [],r,_=>by cases r<;>rfl
 | d::s,r,h=>by
  have h1:=dotE_iff.1 (h d (List.mem_cons_self ..))
  rw[seenB_cons]
  show(((u8 d.1).toNat:Int),((u8 (d.2/256)).toNat:Int)*256+((u8 (d.2%256)).toNat:Int))::threes s.length (seenB s++r)=d::s
  rw[b2_val (by omega) (by omega),threes_back s r (fun x hx=>h x (List.mem_cons_of_mem _ hx))]
  have e:((u8 d.1).toNat:Int)=d.1:=u8_val (by omega) (by omega)
  rw[e]
theorem read_bytes {o:Ox} (h:opE o=0):readB (bytesB o)=o∧5+o.2.2.1.size≤(bytesB o).length∧(bytesB o).getD 4 0=u8 o.2.2.1.size:=by
 obtain⟨h1,h2,h3,h4⟩:=opE_zero.1 h
 obtain⟨g1,g2,g3,g4,g5⟩:=lawOf_zero.1 h4
 obtain⟨⟨a,b⟩,t,p,c,s⟩:=o
 simp only at h1 h2 h3 g1 g2 g3 g4 g5
 have hd:=dotE_iff.1 h1
 have hp:=Bm.chk_pos h3
 have hl:=len_eq p
 have e4:(u8 (p.size:Int)).toNat=p.size:=by
  have:=u8_val (n:=(p.size:Int)) (by omega) (by omega)
  omega
 have eq:bytesB ((a,b),t,p,c,s)=u8 t::u8 a::u8 (b/256)::u8 (b%256)::u8 p.size::(p.toList++(tailB ((a,b),t,p,c,s)++[u8 (sumB (frontB ((a,b),t,p,c,s))%253)])):=by
  unfold bytesB
  show(frontB ((a,b),t,p,c,s))++_=_
  unfold frontB
  simp only[List.cons_append,List.append_assoc]
 obtain⟨z,hz⟩:∃z,z=u8 (sumB (frontB ((a,b),t,p,c,s))%253):=⟨_,rfl⟩
 rw[←hz] at eq
 have et:((u8 t).toNat:Int)=t:=u8_val (by omega) (by omega)
 refine⟨?_, ?_, ?_⟩
 ·rw[eq]
  have d1:(u8 t::u8 a::u8 (b/256)::u8 (b%256)::u8 (p.size:Int)::(p.toList++(tailB ((a,b),t,p,c,s)++[z]))).drop (5+p.size)=tailB ((a,b),t,p,c,s)++[z]:=by
   rw[Nat.add_comm 5 p.size]
   show(p.toList++(tailB ((a,b),t,p,c,s)++[z])).drop p.size=_
   rw[←hl,List.drop_left]
  unfold readB
  simp only[List.getD_cons_zero,List.getD_cons_succ,e4,et,d1]
  have d2:((u8 t::u8 a::u8 (b/256)::u8 (b%256)::u8 (p.size:Int)::(p.toList++(tailB ((a,b),t,p,c,s)++[z]))).drop 5).take p.size=p.toList:=by
   show(p.toList++(tailB ((a,b),t,p,c,s)++[z])).take p.size=_
   rw[←hl,List.take_left]
  rw[d2,mk_toList,b2_val (by omega) (by omega),u8_val (n:=a) (by omega) (by omega)]
  have k1:letterIn t (tailB ((a,b),t,p,c,s)++[z])=c:=by
   unfold letterIn tailB
   by_cases ht:t=1
   ·subst ht
    have:=g1 rfl
    simp only[if_true,List.cons_append,List.headD_cons]
    exact u8_val (by omega) (by omega)
   ·rw[if_neg ht,g2 ht]
  have k2:seenIn t (tailB ((a,b),t,p,c,s)++[z])=s:=by
   unfold seenIn tailB
   by_cases ht:t=4
   ·subst ht
    rw[if_pos rfl]
    simp only[if_true,show((4:Int)=1)=False by simp,if_false,List.nil_append,List.cons_append,List.headD_cons,List.tail_cons]
    have:=u8_val (n:=(s.length:Int)) (by omega) (by omega)
    rw[show(u8 (s.length:Int)).toNat=s.length by omega]
    exact threes_back s [z] (dotsE_zero.1 g5).1
   ·rw[if_neg ht,g3 ht]
  rw[k1,k2]
 ·rw[eq]
  simp only[List.length_cons,List.length_append,hl]
  omega
 ·rw[eq];rfl
/- bytes that are an op -/
def decB (s:List UInt8):Option Ox:=
 if s.length<5∨s.length<5+(s.getD 4 0).toNat then none
 else if opE (readB s)=0∧bytesB (readB s)=s then some (readB s) else none
theorem decB_iff {s:List UInt8} {o:Ox}:decB s=some o↔opE o=0∧bytesB o=s:=by
 unfold decB
 constructor
 ·intro h
  split at h
  ·cases h
  ·split at h
   ·injection h with h;subst h;assumption
   ·cases h
 ·rintro⟨h,rfl⟩
  obtain⟨h1,h2,h3⟩:=read_bytes h
  have hp:=Bm.chk_pos (opE_zero.1 h).2.2.1
  rw[len_eq] at hp
  have e:=u8_val (n:=(o.2.2.1.size:Int)) (by omega) (by omega)
  rw[if_neg (by rw[h3];omega),h1,if_pos ⟨h,rfl⟩]
theorem bytes_inj {a b:Ox} (ha:opE a=0) (hb:opE b=0) (h:bytesB a=bytesB b):a=b:=by
 have h1:=decB_iff.2 ⟨ha,rfl⟩
 have h2:=decB_iff.2 ⟨hb,rfl⟩
 rw[h,h2] at h1
 injection h1 with h1;exact h1.symm
/- many -/
/- so many ops, one behind the other; what is left behind them -/
end Om
end Go.Proofs.YtlmdchpbpgcfmaaGreatDoor
/- Ops that lie in memory: six cells each, the last one what was seen. -/
namespace Go.Proofs.YtlmdchpbpgcfmaaGreatDoor
namespace Oa
open Go.ChangeShapes Go.WideShapes Go.ChangeAt Go.RowKit Cm Ka Kb Na Om
open La (bel bel_drew errV_zero errV_ne own_ge own_grow own_below)
def six (x:Ox) (v:Value):List Value:=[.int .i64 x.1.1,.int .i64 x.1.2,.int .i64 x.2.1,.string x.2.2.1,.int .i64 x.2.2.2.1,v]
def flatO (l:List (Ox × Value)):List Value:=l.flatMap fun y=>six y.1 y.2
theorem flatO_append (a b:List (Ox × Value)):flatO (a++b)=flatO a++flatO b:=by unfold flatO;rw[List.flatMap_append]
theorem flatO_length:∀l:List (Ox × Value),(flatO l).length=l.length*6
 | []=>rfl
 | x::l=>by
  have:=flatO_length l
  unfold flatO at this ⊢
  rw[List.flatMap_cons,List.length_append,this]
  simp[six];omega
theorem flatO_at:∀{l:List (Ox × Value)} {j:Nat} {y:Ox × Value},l[j]? =some y→∀i u,(six y.1 y.2)[i]? =some u→(flatO l)[j*6+i]? =some u
 | [],j,y,h,i,u,hu=>by simp at h
 | x::l,0,y,h,i,u,hu=>by
  simp only[List.getElem?_cons_zero,Option.some.injEq] at h
  subst h
  have hi:i<(six x.1 x.2).length:=(List.getElem?_eq_some_iff.1 hu).1
  unfold flatO
  rw[List.flatMap_cons,Nat.zero_mul,Nat.zero_add,List.getElem?_append_left hi]
  exact hu
 | x::l,j+1,y,h,i,u,hu=>by
  have h2:l[j]? =some y:=by simpa using h
  have ih:=flatO_at h2 i u hu
  have e:∀i,(flatO (x::l))[i+6]? =(flatO l)[i]? :=fun i=>by
   unfold flatO
   rw[List.flatMap_cons,List.getElem?_append_right (by simp[six])]
   simp[six]
  rw[show(j+1)*6+i=j*6+i+6 by omega,e]
  exact ih
/- op j of a row at b, o -/
def OAt (w:World) (b o j:Nat) (x:Ox):Prop:=∃v,(w.cell? ⟨b,o+j*6,none⟩=some (.int .i64 x.1.1)∧w.cell? ⟨b,o+j*6+1,none⟩=some (.int .i64 x.1.2)∧w.cell? ⟨b,o+j*6+2,none⟩=some (.int .i64 x.2.1)∧w.cell? ⟨b,o+j*6+3,none⟩=some (.string x.2.2.1)∧w.cell? ⟨b,o+j*6+4,none⟩=some (.int .i64 x.2.2.2.1)∧w.cell? ⟨b,o+j*6+5,none⟩=some v)∧DtsAt w v x.2.2.2.2
def OpsIn (w:World) (p:Option Addr) (l:List Ox):Prop:=
 l=[]∨∃b o,p=some ⟨b,o,none⟩∧∀j,j<l.length→OAt w b o j (l.getD j oz)
theorem OAt.lt {w:World} {b o j:Nat} {x:Ox} (h:OAt w b o j x):b<w.heap.size:=by
 obtain⟨v,h,_⟩:=h
 exact World.block_lt_of_cell? _ ⟨b,o+j*6,none⟩ h.1
theorem OAt.below {w w':World} {b o j:Nat} {x:Ox} (h:OAt w b o j x) (hb:Below w.heap.size w w'):OAt w' b o j x:=by
 have hB:=h.lt
 obtain⟨v,⟨h0,h1,h2,h3,h4,h5⟩,hd⟩:=h
 exact⟨v,⟨(hb.cell (p:=⟨b,o+j*6,none⟩) hB).trans h0,(hb.cell (p:=⟨b,o+j*6+1,none⟩) hB).trans h1,(hb.cell (p:=⟨b,o+j*6+2,none⟩) hB).trans h2,(hb.cell (p:=⟨b,o+j*6+3,none⟩) hB).trans h3,(hb.cell (p:=⟨b,o+j*6+4,none⟩) hB).trans h4,(hb.cell (p:=⟨b,o+j*6+5,none⟩) hB).trans h5⟩,hd.below hb⟩
theorem OpsIn.below {w w':World} {p:Option Addr} {l:List Ox} (h:OpsIn w p l) (hb:Below w.heap.size w w'):OpsIn w' p l:=by
 rcases h with h | ⟨b,o,hp,hc⟩
 ·exact Or.inl h
 ·exact Or.inr ⟨b,o,hp,fun j hj=>(hc j hj).below hb⟩
theorem OpsIn.some {w:World} {p:Option Addr} {l:List Ox} (h:OpsIn w p l) (hl:l≠[]):∃b o,p=some ⟨b,o,none⟩∧∀j,j<l.length→OAt w b o j (l.getD j oz):=by
 rcases h with h | h
 ·exact absurd h hl
 ·exact h
def OpsAt (w:World) (v:Value) (l:List Ox):Prop:=∃p c,v=.slice p l.length c∧OpsIn w p l∧l.length≤c∧c≤maxLen∧(p=none→c=0)
theorem OpsAt.below {w w':World} {v:Value} {l:List Ox} (h:OpsAt w v l) (hb:Below w.heap.size w w'):OpsAt w' v l:=by
 obtain⟨p,c,h1,h2,h3⟩:=h
 exact⟨p,c,h1,h2.below hb,h3⟩
theorem OpsAt.nil (w:World):OpsAt w (.slice none 0 0) []:=⟨none,0,rfl,Or.inl rfl,Nat.le_refl _,by unfold maxLen;omega,fun _=>rfl⟩
theorem getO_mem {l:List Ox} {j:Nat} (hj:j<l.length):l.getD j oz ∈ l:=by
 rw[List.getD_eq_getElem?_getD,List.getElem?_eq_getElem hj];exact List.getElem_mem hj
/- a row of the call's own, as ops -/
theorem own_ops {w:World} {base:Nat} {t:TypeId} {v:Value} {n:Nat} {l:List (Ox × Value)} (h:w.ownsRow base t 6 v n (flatO l)) (hd:∀y ∈ l,DtsAt w y.2 y.1.2.2.2.2):OpsAt w v (l.map (·.1)):=by
 have hn:l.length=n:=by have:=h.1;rw[flatO_length] at this;omega
 have hm:(l.map (·.1)).length=n:=by rw[List.length_map];exact hn
 rcases h.2 with⟨rfl,h0⟩ | ⟨g,cap,cur,rfl,_,h2,h3,h4,h5,h6⟩
 ·subst h0
  have:l=[]:=List.eq_nil_of_length_eq_zero hn
  subst this
  exact OpsAt.nil w
 ·refine⟨some ⟨g,0,none⟩,cap,by rw[hm],Or.inr ⟨g,0,rfl,fun j hj=> ?_⟩,by rw[hm];exact h3,h4,fun e=>by cases e⟩
  have hj2:j<l.length:=by rwa [List.length_map] at hj
  have key:∀i u,(flatO l)[i]? =some u→w.cell? ⟨g,0+i,none⟩=some u:=by
   intro i u hu
   have hi:i<n*6:=by rw[←hn,←flatO_length];exact(List.getElem?_eq_some_iff.1 hu).1
   rw[←h6,List.getElem?_take_of_lt hi] at hu
   rw[Nat.zero_add]
   simp only[World.cell?,h2]
   simpa using hu
  have e1:(l.map (·.1)).getD j oz=l[j].1:=by
   rw[List.getD_eq_getElem?_getD,List.getElem?_map,List.getElem?_eq_getElem hj2];rfl
  rw[e1]
  have hf:=fun i u=>flatO_at (l:=l) (j:=j) (y:=l[j]) (List.getElem?_eq_getElem hj2) i u
  refine⟨l[j].2,⟨?_, ?_, ?_, ?_, ?_, ?_⟩,hd _ (List.getElem_mem hj2)⟩
  ·have:=key _ _ (hf 0 _ rfl);rwa [show 0+(j*6+0)=0+j*6 by omega] at this
  ·have:=key _ _ (hf 1 _ rfl);rwa [show 0+(j*6+1)=0+j*6+1 by omega] at this
  ·have:=key _ _ (hf 2 _ rfl);rwa [show 0+(j*6+2)=0+j*6+2 by omega] at this
  ·have:=key _ _ (hf 3 _ rfl);rwa [show 0+(j*6+3)=0+j*6+3 by omega] at this
  ·have:=key _ _ (hf 4 _ rfl);rwa [show 0+(j*6+4)=0+j*6+4 by omega] at this
  ·have:=key _ _ (hf 5 _ rfl);rwa [show 0+(j*6+5)=0+j*6+5 by omega] at this
/- an op by value -/
def opV (x:Ox) (v:Value):Value:=.agg #[.int .i64 x.1.1,.int .i64 x.1.2,.int .i64 x.2.1,.string x.2.2.1,.int .i64 x.2.2.2.1,v]
def OpV (w:World) (u:Value) (x:Ox):Prop:=∃v,u=opV x v∧DtsAt w v x.2.2.2.2
theorem OpV.below {w w':World} {u:Value} {x:Ox} (h:OpV w u x) (hb:Below w.heap.size w w'):OpV w' u x:=by
 obtain⟨v,h1,h2⟩:=h
 exact⟨v,h1,h2.below hb⟩
end Oa
end Go.Proofs.YtlmdchpbpgcfmaaGreatDoor
/- What the texts of ops share: cells that stay, numbers that do not wrap, dots one by one. -/
namespace Go.Proofs.YtlmdchpbpgcfmaaGreatDoor
namespace Oz
open Go.ChangeShapes Go.WideShapes Go.ChangeAt Go.RowKit Cm Ka Kb Na Om Oa
open La (bel bel_drew errV_zero errV_ne own_ge own_grow own_below)
theorem keep_cell {W W':World} {p:Addr} {v:Value} (hb:Below W.heap.size W W') (h:W.cell? p=some v):W'.cell? p=some v:=(hb.cell (World.block_lt_of_cell? _ _ h)).trans h
theorem wrap_in {x:Int} (h1: -1000000≤x) (h2:x≤1000000):IntKind.i64.wrap x=x:=by
 rw[IntKind.wrap_i64];omega
theorem bel_new {w wr w2:World} {o:Obj} (h:Below w.heap.size w wr) (hb:Below (wr.alloc o).heap.size (wr.alloc o) w2):Below w.heap.size w w2:=bel (h.alloc h.size o) hb
theorem dotsE_fault:∀{s:List Dt} {k:Nat},k<s.length→(∀j,j<k→dotE (s.getD j noneD).1 (s.getD j noneD).2=0)→dotE (s.getD k noneD).1 (s.getD k noneD).2≠0→dotsE s=dotE (s.getD k noneD).1 (s.getD k noneD).2:=by
 intro s k hk h1 h2
 have key:∀(s:List Dt) (k:Nat),k<s.length→(∀j,j<k→dotE (s.getD j noneD).1 (s.getD j noneD).2=0)→dotE (s.getD k noneD).1 (s.getD k noneD).2≠0→s.find? (fun d=>decide (dotE d.1 d.2≠0))=some (s.getD k noneD):=by
  intro s
  induction s with
  | nil=>intro k hk;simp at hk
  | cons y s ih=>
   intro k hk h1 h2
   cases k with
   | zero=>
    have h3:dotE y.1 y.2≠0:=h2
    rw[List.find?_cons_of_pos (by simpa using h3)];rfl
   | succ k=>
    have h3:dotE y.1 y.2=0:=h1 0 (by omega)
    rw[List.find?_cons_of_neg (by simpa using h3)]
    exact ih k (by simpa using hk) (fun j hj=>h1 (j+1) (by omega)) h2
 unfold dotsE
 rw[key s k hk h1 h2]
theorem all_zero {s:List Dt} (h:∀j,j<s.length→dotE (s.getD j noneD).1 (s.getD j noneD).2=0):∀d ∈ s,dotE d.1 d.2=0:=by
 intro d hd
 obtain⟨j,hj,e⟩:=List.mem_iff_getElem.1 hd
 have:=h j hj
 rw[List.getD_eq_getElem?_getD,List.getElem?_eq_getElem hj] at this
 simp only[Option.getD_some] at this
 rw[e] at this;exact this
theorem dotsE_cases {s:List Dt} (h:∀d ∈ s,dotE d.1 d.2=0):dotsE s=0∨dotsE s=7:=by
 unfold dotsE
 cases hf:s.find? (fun d=>decide (dotE d.1 d.2≠0)) with
 | some d=>
  have h1:=List.mem_of_find?_eq_some hf
  have h2:=List.find?_some hf
  simp only[decide_eq_true_eq] at h2
  exact absurd (h d h1) h2
 | none=>simp only[];split<;>simp
theorem dotsE_seven {s:List Dt} {m:Nat} (h:∀d ∈ s,dotE d.1 d.2=0) (hm:m+1<s.length) (h2:dlt (s.getD m noneD) (s.getD (m+1) noneD)=false):dotsE s=7:=by
 rcases dotsE_cases h with e | e
 ·have hr:=(dotsE_zero.1 e).2
  have h3:=(rise_steps dlt_strict).1 hr m hm (s.getD m noneD) (s.getD (m+1) noneD) (by rw[List.getD_eq_getElem?_getD,List.getElem?_eq_getElem (by omega)];rfl) (by rw[List.getD_eq_getElem?_getD,List.getElem?_eq_getElem hm];rfl)
  rw[h2] at h3;cases h3
 ·exact e
theorem dotsE_ok {s:List Dt} (h:∀d ∈ s,dotE d.1 d.2=0) (h2:∀m,m+1<s.length→dlt (s.getD m noneD) (s.getD (m+1) noneD)=true):dotsE s=0:=by
 refine dotsE_zero.2 ⟨h,(rise_steps dlt_strict).2 fun i hi a b ha hb=> ?_⟩
 have:=h2 i hi
 rw[List.getD_eq_getElem?_getD,List.getD_eq_getElem?_getD,ha,hb] at this
 exact this
/- an op that has just been laid -/
def Six (W:World) (h:Nat) (a b t:Int) (p:ByteArray) (c:Int) (v:Value):Prop:=
 W.cell? ⟨h,0,none⟩=some (.int .i64 a)∧W.cell? ⟨h,1,none⟩=some (.int .i64 b)∧W.cell? ⟨h,2,none⟩=some (.int .i64 t)∧W.cell? ⟨h,3,none⟩=some (.string p)∧W.cell? ⟨h,4,none⟩=some (.int .i64 c)∧W.cell? ⟨h,5,none⟩=some v
theorem six_new (w:World) (a b t:Int) (p:ByteArray) (c:Int) (v:Value) (T:TypeId):Six (w.alloc (.cells #[.int .i64 a,.int .i64 b,.int .i64 t,.string p,.int .i64 c,v] T)) w.heap.size a b t p c v:=by
 have h2:=heap_alloc_new w (.cells #[.int .i64 a,.int .i64 b,.int .i64 t,.string p,.int .i64 c,v] T)
 refine⟨?_, ?_, ?_, ?_, ?_, ?_⟩<;>(simp only[World.cell?,h2];rfl)
theorem Six.below {W W':World} {h:Nat} {a b t:Int} {p:ByteArray} {c:Int} {v:Value} (s:Six W h a b t p c v) (hb:Below W.heap.size W W'):Six W' h a b t p c v:=by
 obtain⟨h0,h1,h2,h3,h4,h5⟩:=s
 exact⟨keep_cell hb h0,keep_cell hb h1,keep_cell hb h2,keep_cell hb h3,keep_cell hb h4,keep_cell hb h5⟩
end Oz
end Go.Proofs.YtlmdchpbpgcfmaaGreatDoor
/- Rows of bytes of the call's own: a byte more, a text more, read as a text. -/
namespace Go.Proofs.YtlmdchpbpgcfmaaGreatDoor
namespace Oc
open Go.ChangeShapes Go.WideShapes Go.ChangeAt Go.RowKit Cm Ka Kb Na Om Oa Oz
open La (bel bel_drew errV_zero errV_ne own_ge own_grow own_below)
def bc (l:List UInt8):List Value:=l.map fun x=>Value.int .u8 (x.toNat:Int)
theorem bc_at {l:List UInt8} {j:Nat} (hj:j<l.length):(bc l)[j]? =some (.int .u8 ((l.getD j 0).toNat:Int)):=by
 rw[bc,List.getElem?_map,List.getElem?_eq_getElem hj,List.getD_eq_getElem?_getD,List.getElem?_eq_getElem hj];rfl
theorem addr_zero (g j:Nat):(⟨g,0,none⟩:Addr).add j=⟨g,j,none⟩:=by
 unfold Addr.add
 by_cases h:j=0<;>simp[h]
/- a row of bytes -/
def Row (w:World) (B:Nat) (v:Value) (l:List UInt8):Prop:=w.ownsRow B 5 1 v l.length (bc l)
theorem Row.nil (w:World) (B:Nat):Row w B (.slice none 0 0) []:=World.ownsRow_nil _ _ _ _
theorem Row.alloc {w:World} {B:Nat} {v:Value} {l:List UInt8} (h:Row w B v l) (o:Obj):Row (w.alloc o) B v l:=World.ownsRow.alloc h o
theorem Row.below {w w2:World} {B:Nat} {v:Value} {l:List UInt8} (h:Row w B v l) (hb:Below w.heap.size w w2):Row w2 B v l:=own_below h hb
theorem Row.slice {w:World} {B:Nat} {v:Value} {l:List UInt8} (h:Row w B v l):∃p c,v=.slice p l.length c∧(l≠[]→∃g,p=some ⟨g,0,none⟩∧B≤g)∧∀g,p=some ⟨g,0,none⟩→∀j,j<l.length→w.cell? ⟨g,j,none⟩=some (.int .u8 ((l.getD j 0).toNat:Int)):=by
 have hh:=h
 obtain⟨_,h2⟩:=h
 rcases h2 with⟨e,e0⟩ | ⟨g,cap,cur,rfl,hg,_⟩
 ·refine⟨none,0,by rw[e,e0],fun hne=>absurd (List.eq_nil_of_length_eq_zero e0) hne,fun g hg=>by cases hg⟩
 ·refine⟨some ⟨g,0,none⟩,cap,rfl,fun _=>⟨g,rfl,hg⟩,fun g2 e j hj=> ?_⟩
  injection e with e
  injection e with e
  subst e
  have:=World.ownsRow.cells hh (g:=g) rfl j _ (bc_at hj)
  rwa [addr_zero] at this
theorem Row.shape {w:World} {B:Nat} {v:Value} {l:List UInt8} (h:Row w B v l):∃p n c,v=.slice p n c∧Hid (n=l.length):=by
 obtain⟨p,c,rfl,_⟩:=h.slice
 exact⟨p,_,c,rfl,rfl⟩
/- some bytes more behind a row -/
/- one byte more: its own block has just been laid -/
/- a text as bytes, just laid -/
theorem text_new (w:World) (s:ByteArray) (C:Nat) (f:Nat × Nat) (j:Nat) (hj:j<s.toList.length):
  (w.alloc (.cells (bytesRow s C) 5 f)).cell? ⟨w.heap.size,j,none⟩=some (.int .u8 ((s.toList.getD j 0).toNat:Int)):=by
 have hb:(w.alloc (.cells (bytesRow s C) 5 f)).heap[w.heap.size]? =some (.cells (bytesRow s C) 5 f):=heap_alloc_new w _
 have hl:=Om.len_eq s
 have hj2:j<s.data.size:=by rw[hl] at hj;exact hj
 simp only[World.cell?,hb]
 rw[List.getD_eq_getElem?_getD,List.getElem?_eq_getElem hj]
 simp only[bytesRow,Array.getElem?_append,Array.size_map,ByteArray.toList_eq,Array.getElem_toList]
 rw[if_pos hj2,Array.getElem?_map,Array.getElem?_eq_getElem hj2]
 rfl
end Oc
end Go.Proofs.YtlmdchpbpgcfmaaGreatDoor
/- Blocks of the call's own that are written field by field; two bytes of a text as a number. -/
namespace Go.Proofs.YtlmdchpbpgcfmaaGreatDoor
namespace Og
open Go.ChangeShapes Go.WideShapes Go.ChangeAt Go.RowKit Cm Ka Kb Na Om Oa Oz Oc
open La (bel bel_drew errV_zero errV_ne own_ge own_grow own_below)
/- only block g has been written -/
structure Only (g:Nat) (w w':World):Prop where
 os:w'.os=w.os
 tape:w'.tape=w.tape
 output:w'.output=w.output
 size:w'.heap.size=w.heap.size
 block:∀k,k≠g→w'.heap[k]? =w.heap[k]?
theorem Only.below {g B:Nat} {w w':World} (h:Only g w w') (hB:B≤g):Below B w w':=⟨h.os,h.tape,h.output,Nat.le_of_eq h.size.symm,fun k hk=>h.block k (by omega)⟩
theorem Only.cell {g:Nat} {w w':World} (h:Only g w w') {p:Addr} (hp:p.block≠g):w'.cell? p=w.cell? p:=World.cell?_of_block (w:=w) (h.block p.block hp)
/- a store into one field -/
/- a store of a whole block -/
/- the number that two bytes of a text are -/
end Og
end Go.Proofs.YtlmdchpbpgcfmaaGreatDoor
/- What stands in a text, by its bytes: the plain facts that a reading wants. -/
namespace Go.Proofs.YtlmdchpbpgcfmaaGreatDoor
namespace Oi
open Go.ChangeShapes Go.WideShapes Go.ChangeAt Go.RowKit Cm Ka Kb Na Om Oa Oz Oc Og
open La (bel bel_drew errV_zero errV_ne own_ge own_grow own_below)
theorem mk_eq {a b:ByteArray} (h:a.toList=b.toList):a=b:=by rw[←mk_toList a,←mk_toList b,h]
/- what a row of dots owns stays while its block stays -/
theorem own_same {w w':World} {base:Nat} {t:TypeId} {z:Nat} {v:Value} {n:Nat} {xs:List Value} (h:w.ownsRow base t z v n xs) (hs:∀k,base≤k→k<w.heap.size→w'.heap[k]? =w.heap[k]?):w'.ownsRow base t z v n xs:=by
 refine⟨h.1, ?_⟩
 rcases h.2 with h0 | ⟨g,cap,cur,h1,h2,h3,h4⟩
 ·exact Or.inl h0
 ·refine Or.inr ⟨g,cap,cur,h1,h2, ?_,h4⟩
  have hg:g<w.heap.size:=by
   rcases Nat.lt_or_ge g w.heap.size with e | e
   ·exact e
   ·rw[Array.getElem?_eq_none e] at h3;cases h3
  rw[hs g h2 hg];exact h3
theorem set_block (w:World) (p:Addr) (v:Value) (k:Nat) (h:k≠p.block):(w.setCell p v).heap[k]? =w.heap[k]? :=Below.heap_setCell _ _ _ _ h
theorem own_at {w w':World} {base:Nat} {t:TypeId} {z:Nat} {v:Value} {n:Nat} {xs:List Value} (h:w.ownsRow base t z v n xs) (hs:∀k,base≤k→k<w.heap.size→w'.heap[k]? =w.heap[k]?):w'.ownsRow base t z v n xs:=own_same h hs
theorem own_shape {w:World} {base:Nat} {t:TypeId} {z:Nat} {v:Value} {n:Nat} {xs:List Value} (h:w.ownsRow base t z v n xs):∃p N c,v=.slice p N c∧Hid (N=n):=by
 rcases h.2 with⟨e,e0⟩ | ⟨g,cap,cur,h1,_⟩
 ·exact⟨none,0,0,e,e0.symm⟩
 ·exact⟨_,_,_,h1,rfl⟩
/- an op that stays while the blocks from B on, as far as they go now, stay -/
theorem infoD:(Tryz.prog.info? 72).map (fun i=>(i.zero,i.size,i.bytes))=some (some (.agg #[.int .i64 0,.int .i64 0]),2,16):=by kernel_rfl
end Oi
end Go.Proofs.YtlmdchpbpgcfmaaGreatDoor
/- What the laws ask of package op: each function's answer, at all inputs. -/
namespace Go.Proofs.YtlmdchpbpgcfmaaGreatDoor
namespace Ov
open Go.ChangeShapes Go.WideShapes Go.ChangeAt Go.RowKit Cm Ka Kb Na Om Oa Oz Oc Og Oi
open La (bel bel_drew errV_zero errV_ne own_ge own_grow own_below)
def CheckSays:Prop:=∀(a b t:Int) (p:ByteArray) (c:Int) (v:Value) (s:List Dt) (w:World),DtsAt w v s→p.size≤maxLen→
 Calls Tryz.prog 110 #[.agg #[.int .i64 a,.int .i64 b,.int .i64 t,.string p,.int .i64 c,v]] w fun e w'=>e=.returned (errV (opE ((a,b),t,p,c,s)))∧Below w.heap.size w w'
end Ov
end Go.Proofs.YtlmdchpbpgcfmaaGreatDoor
