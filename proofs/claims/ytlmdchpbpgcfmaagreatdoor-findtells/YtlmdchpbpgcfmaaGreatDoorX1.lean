import Derived.Test.YtlmdchpbpgcfmaaGreatDoorJ10
import Derived.Test.YtlmdchpbpgcfmaaGreatDoorK4
import Derived.Test.YtlmdchpbpgcfmaaGreatDoorK1
import Derived.Test.YtlmdchpbpgcfmaaGreatDoorK2
import Derived.Test.YtlmdchpbpgcfmaaGreatDoorK3
set_option linter.unusedVariables false
set_option maxRecDepth 100000
set_option maxHeartbeats 8000000
/- The reference's doc in memory: what lies there, which blocks are its own, and what its Apply's stores leave. -/
namespace Go.Proofs.YtlmdchpbpgcfmaaGreatDoor
namespace Xp
open Go.ChangeShapes Go.WideShapes Go.ChangeAt Go.RowKit Cm Ka Kb Na Om Oa Oz Oc Og Oi Hm Ia Ib Ic Idc Ie
open La (bel bel_drew errV_zero errV_ne own_ge own_grow own_below Lies)
open Lj (BookAt BookNew)
/- the blocks that are written again -/
def Wn (E gk:Nat) (vo:Value) (g:Nat):Prop:=g=E∨g=gk∨vo.ownBlock=some g
def Gn (F:Nat→Prop) (E gk:Nat) (vo:Value) (g:Nat):Prop:=F g∧¬Wn E gk vo g
structure RefMem (B:Nat→Prop) (w:World) (E gk:Nat) (vb vm vo:Value) (S:Dq) (F:Nat→Prop):Prop where
 blk:w.heap[E]? =some (.cells #[vb,vm,.slice (some ⟨gk,0,none⟩) 8 8,vo] 118)
 kn:∃cur:Array Value,w.heap[gk]? =some (.cells cur 3 (0,0))∧cur.toList=S.known.map (Value.int .i64)
 book:BookAt w vb S.book
 bookG:In (Gn F E gk vo) vb
 marks:MksAt w vm S.marks
 marksG:In (Gn F E gk vo) vm
 ops:OpsOwn w B vo S.ops
 wr:∀g,Wn E gk vo g→F g
 lt:∀g,F g→¬B g∧g<w.heap.size
 old:∀g,B g→g<w.heap.size
theorem RefMem.stay {B:Nat→Prop} {w w':World} {E gk:Nat} {vb vm vo:Value} {S:Dq} {F:Nat→Prop} (h:RefMem B w E gk vb vm vo S F) (hs:∀g,F g∨B g→w'.heap[g]? =w.heap[g]?) (hz:w.heap.size≤w'.heap.size):RefMem B w' E gk vb vm vo S F:=by
 have hG:Stay (Gn F E gk vo) w w':=fun g hg=>hs g (Or.inl hg.1)
 obtain⟨cur,k1,k2⟩:=h.kn
 exact⟨by rw[hs _ (Or.inl (h.wr _ (Or.inl rfl)))];exact h.blk,⟨cur,by rw[hs _ (Or.inl (h.wr _ (Or.inr (Or.inl rfl))))];exact k1,k2⟩,book_stay h.book h.bookG hG,h.bookG,marks_stay h.marks h.marksG hG,h.marksG,ops_stay h.ops (fun g hg=>hs g (Or.inl (h.wr g (Or.inr (Or.inr hg))))) (fun g hg=>hs g (Or.inr hg)),h.wr,fun g hg=>⟨(h.lt g hg).1,Nat.lt_of_lt_of_le (h.lt g hg).2 hz⟩,fun g hg=>Nat.lt_of_lt_of_le (h.old g hg) hz⟩
theorem RefMem.below {B:Nat→Prop} {w w':World} {E gk:Nat} {vb vm vo:Value} {S:Dq} {F:Nat→Prop} (h:RefMem B w E gk vb vm vo S F) (hb:Below w.heap.size w w'):RefMem B w' E gk vb vm vo S F:=
 h.stay (fun g hg=>hb.block g (by rcases hg with e | e;exact(h.lt g e).2;exact h.old g e)) hb.size
theorem blk_ne {w:World} {g k:Nat} {c d:Array Value} {t u:TypeId} (h:w.heap[g]? =some (.cells c t (0,0))) (h2:w.heap[k]? =some (.cells d u (0,0))) (hn:t≠u):g≠k:=fun e=>by
 rw[e,h2] at h
 injection h with h
 injection h with _ h _
 exact hn h.symm
def RefAt (B:Nat→Prop) (w:World) (E:Nat) (S:Dq) (F:Nat→Prop):Prop:=Inv S∧∃gk vb vm vo,RefMem B w E gk vb vm vo S F
theorem RefAt.inv {B:Nat→Prop} {w:World} {E:Nat} {S:Dq} {F:Nat→Prop} (h:RefAt B w E S F):Inv S:=h.1
theorem RefAt.lt {B:Nat→Prop} {w:World} {E:Nat} {S:Dq} {F:Nat→Prop} (h:RefAt B w E S F):∀g,F g→¬B g∧g<w.heap.size:=by
 obtain⟨_,gk,vb,vm,vo,h⟩:=h;exact h.lt
theorem RefAt.below {B:Nat→Prop} {w w':World} {E:Nat} {S:Dq} {F:Nat→Prop} (h:RefAt B w E S F) (hb:Below w.heap.size w w'):RefAt B w' E S F:=by
 obtain⟨I,gk,vb,vm,vo,h⟩:=h;exact⟨I,gk,vb,vm,vo,h.below hb⟩
theorem RefAt.chg {B:Nat→Prop} {w w':World} {E:Nat} {S:Dq} {F H:Nat→Prop} (h:RefAt B w E S F) (hc:Chg H w w') (hB:∀g,H g→¬B g) (hd:∀g,F g→¬H g):RefAt B w' E S F:=by
 obtain⟨I,gk,vb,vm,vo,h⟩:=h
 refine⟨I,gk,vb,vm,vo,h.stay (fun g hg=> ?_) hc.size⟩
 rcases hg with e | e
 ·exact hc.block g (h.lt g e).2 (hd g e)
 ·exact hc.block g (h.old g e) (fun e9=>hB g e9 e)
theorem RefAt.old {B:Nat→Prop} {w:World} {E:Nat} {S:Dq} {F:Nat→Prop} (h:RefAt B w E S F):∀g,B g→g<w.heap.size:=by
 obtain⟨_,gk,vb,vm,vo,h⟩:=h;exact h.old
theorem RefAt.more {B C:Nat→Prop} {w:World} {E:Nat} {S:Dq} {F:Nat→Prop} (h:RefAt B w E S F) (hs:∀g,B g→C g) (hC:∀g,C g→g<w.heap.size∧¬F g):RefAt C w E S F:=by
 obtain⟨I,gk,vb,vm,vo,h⟩:=h
 obtain⟨L,o1,o2,o3⟩:=h.ops
 exact⟨I,gk,vb,vm,vo,h.blk,h.kn,h.book,h.bookG,h.marks,h.marksG,⟨L,o1,o2,fun y hy=>⟨(o3 y hy).1,(o3 y hy).2.mono hs⟩⟩,h.wr,fun g hg=>⟨fun e=>(hC g e).2 hg,(h.lt g hg).2⟩,fun g hg=>(hC g hg).1⟩
/- what Apply leaves -/
def RPost (B:Nat→Prop) (w:World) (E:Nat) (S:Dq) (F:Nat→Prop) (o:Ox) (e:Ending) (w':World):Prop:=
 e=.returned (.tuple #[.bool (isNew S o),.int .i64 (apE S o)])∧∃F',RefAt B w' E (apS S o) F'∧Chg F w w'∧∀g,F' g→F g∨w.heap.size≤g
theorem RPost.no {B:Nat→Prop} {w w':World} {E:Nat} {S:Dq} {F:Nat→Prop} {o:Ox} {k:Int} (h:RefAt B w E S F) (hn:isNew S o=false) (he:apE S o=k) (hb:Below w.heap.size w w'):RPost B w E S F o (.returned (.tuple #[.bool false,.int .i64 k])) w':=by
 refine⟨by rw[hn,he],F, ?_,Chg.ofBelow hb F,fun g hg=>Or.inl hg⟩
 unfold apS
 rw[hn]
 exact h.below hb
/- the book, the marks and what is known are stored -/
def st3 (w:World) (E gk i:Nat) (vb vm:Value) (n:Int):World:=((w.setCell ⟨E,0,none⟩ vb).setCell ⟨E,1,none⟩ vm).setCell ⟨gk,i,none⟩ (.int .i64 n)
def News' (F:Nat→Prop) (w w':World) (g:Nat):Prop:=F g∨(w.heap.size≤g∧g<w'.heap.size)
theorem ref_st3 {B:Nat→Prop} {w w7:World} {E gk i:Nat} {vb vm vo vb' vm':Value} {S:Dq} {F:Nat→Prop} {Bk:List Bm.Leaf} {Mx:List Mk} {n:Int} (h:RefMem B w E gk vb vm vo S F) (hb:Below w.heap.size w w7)
  (h1:BookAt w7 vb' Bk) (i1:In (Gn (News' F w w7) E gk vo) vb') (h2:MksAt w7 vm' Mx) (i2:In (Gn (News' F w w7) E gk vo) vm'):
  RefMem B (st3 w7 E gk i vb' vm' n) E gk vb' vm' vo ⟨Bk,Mx,S.known.set i n,S.ops⟩ (News' F w w7)∧Chg F w (st3 w7 E gk i vb' vm' n):=by
 have h7:=h.below hb
 obtain⟨cur,k1,k2⟩:=h7.kn
 have hEk:E≠gk:=blk_ne h7.blk k1 (by decide)
 have oth:∀g,g≠E→g≠gk→(st3 w7 E gk i vb' vm' n).heap[g]? =w7.heap[g]? :=fun g e1 e2=>by
  unfold st3;rw[set_block _ _ _ _ e2,set_block _ _ _ _ e1,set_block _ _ _ _ e1]
 have hs:Stay (Gn (News' F w w7) E gk vo) w7 (st3 w7 E gk i vb' vm' n):=fun g hg=>oth g (fun e=>hg.2 (Or.inl e)) (fun e=>hg.2 (Or.inr (Or.inl e)))
 have hz:(st3 w7 E gk i vb' vm' n).heap.size=w7.heap.size:=by unfold st3;rw[set_size,set_size,set_size]
 obtain⟨L,o1,o2,o3⟩:=h7.ops
 refine⟨⟨?_, ?_,book_stay h1 i1 hs,i1,marks_stay h2 i2 hs,i2,⟨L,o1,own_stay o2 (fun g hg=> ?_),fun y hy=>⟨dots_stay (o3 y hy).1 (o3 y hy).2 (fun g hg=> ?_),(o3 y hy).2⟩⟩,fun g hg=>Or.inl (h.wr g hg),fun g hg=> ?_,fun g hg=>by rw[hz];exact h7.old g hg⟩, ?_⟩
 ·show(st3 w7 E gk i vb' vm' n).heap[E]? =_
  unfold st3
  rw[set_block _ _ _ _ hEk,set_heap (set_heap h7.blk)];rfl
 ·refine⟨cur.setIfInBounds i (.int .i64 n), ?_, ?_⟩
  ·unfold st3
   refine set_heap ?_
   rw[set_block _ _ _ _ hEk.symm,set_block _ _ _ _ hEk.symm];exact k1
  ·rw[Array.toList_setIfInBounds,k2,List.map_set]
 ·obtain⟨_,cur2,hc⟩:=own_lt o2 g hg
  exact oth g (blk_ne hc h7.blk (by decide)) (blk_ne hc k1 (by decide))
 ·have hE:=(h.lt _ (h.wr _ (Or.inl rfl))).1
  have hK:=(h.lt _ (h.wr _ (Or.inr (Or.inl rfl)))).1
  exact oth g (fun e=>hE (e▸hg)) (fun e=>hK (e▸hg))
 ·rw[hz]
  rcases hg with e | e
  ·exact⟨(h.lt g e).1,(h7.lt g e).2⟩
  ·exact⟨fun e9=>by have:=h.old g e9;omega,e.2⟩
 ·exact(((Chg.ofBelow hb F).setCell (p:=⟨E,0,none⟩) (h.wr _ (Or.inl rfl)) _).setCell (p:=⟨E,1,none⟩) (h.wr _ (Or.inl rfl)) _).setCell (p:=⟨gk,i,none⟩) (h.wr _ (Or.inr (Or.inl rfl))) _
/- one op more -/
theorem ref_ops {B:Nat→Prop} {w w1 w2:World} {E gk:Nat} {vb vm vo v9 vs:Value} {S:Dq} {F:Nat→Prop} {o:Ox} {L:List (Ox × Value)} (h:RefMem B w E gk vb vm vo S F) (hL:L.map (·.1)=S.ops) (hLd:∀y ∈ L,DtsAt w y.2 y.1.2.2.2.2∧In B y.2) (hb:Below w.heap.size w w1)
  (hd:DtsAt w vs o.2.2.2.2) (hi:In B vs) (hg:w1.grownBy w2 vo.ownBlock) (hr:w2.ownsRow 0 75 6 v9 (S.ops.length+1) (flatO (L++[(o,vs)]))) (hl:v9.ownBlock=vo.ownBlock∨v9.ownBlock=some w1.heap.size):
  RefMem B (w2.setCell ⟨E,3,none⟩ v9) E gk vb vm v9 { S with ops:=S.ops++[o] } (News' F w w2)∧Chg F w (w2.setCell ⟨E,3,none⟩ v9):=by
 have h1:=h.below hb
 obtain⟨L0,p1,p2,p3⟩:=h1.ops
 obtain⟨cur,k1,k2⟩:=h1.kn
 have hvo:∀g,vo.ownBlock=some g→∃cur,w1.heap[g]? =some (.cells cur 75 (0,0)):=fun g hgg=>(own_lt p2 g hgg).2
 have hDne:∀g,vo.ownBlock=some g→g≠E:=fun g hgg=>by
  obtain⟨cur2,hc⟩:=hvo g hgg
  exact blk_ne hc h1.blk (by decide)
 have hKne:∀g,vo.ownBlock=some g→g≠gk:=fun g hgg=>by
  obtain⟨cur2,hc⟩:=hvo g hgg
  exact blk_ne hc k1 (by decide)
 have hEk:E≠gk:=blk_ne h1.blk k1 (by decide)
 have oth:∀g,g<w1.heap.size→g≠E→vo.ownBlock≠some g→(w2.setCell ⟨E,3,none⟩ v9).heap[g]? =w1.heap[g]? :=fun g hgl hne hnv=>by
  rw[set_block _ _ _ _ hne];exact hg.block g hgl (fun e=>hnv e.symm)
 have hE2:w2.heap[E]? =some (.cells #[vb,vm,.slice (some ⟨gk,0,none⟩) 8 8,vo] 118):=by
  rw[hg.block _ (Array.getElem?_eq_some_iff.1 h1.blk).1 (fun e=>hDne E e.symm rfl)];exact h1.blk
 have hz1:=hb.size
 have hz2:=hg.size
 have hEl:=h.lt _ (h.wr _ (Or.inl rfl))
 have hKl:=h.lt _ (h.wr _ (Or.inr (Or.inl rfl)))
 have hs:Stay (Gn F E gk vo) w1 (w2.setCell ⟨E,3,none⟩ v9):=fun g hgg=>oth g (h1.lt g hgg.1).2 (fun e=>hgg.2 (Or.inl e)) (fun e=>hgg.2 (Or.inr (Or.inr e)))
 have hsB:Stay B w1 (w2.setCell ⟨E,3,none⟩ v9):=fun g hgg=>by
  exact oth g (by have:=h.old g hgg;omega) (fun e=>hEl.1 (e▸hgg)) (fun e=>(h.lt g (h.wr g (Or.inr (Or.inr e)))).1 hgg)
 have hmono:∀g,Gn F E gk vo g→Gn (News' F w w2) E gk v9 g:=fun g hgg=>⟨Or.inl hgg.1,fun e=>by
  rcases e with e | e | e
  ·exact hgg.2 (Or.inl e)
  ·exact hgg.2 (Or.inr (Or.inl e))
  ·rcases hl with e2 | e2
   ·exact hgg.2 (Or.inr (Or.inr (e2▸e)))
   ·rw[e] at e2;injection e2 with e2
    have:=(h.lt g hgg.1).2;omega⟩
 refine⟨⟨?_,⟨cur, ?_,k2⟩,book_stay h1.book h1.bookG hs,h1.bookG.mono hmono,marks_stay h1.marks h1.marksG hs,h1.marksG.mono hmono, ?_,fun g hgg=> ?_,fun g hgg=> ?_,fun g hgg=>by rw[set_size];have:=h.old g hgg;omega⟩, ?_⟩
 ·rw[set_heap hE2];rfl
 ·rw[oth gk (by omega) hEk.symm (fun e=>hKne gk e rfl)];exact k1
 ·refine⟨L++[(o,vs)],by rw[List.map_append,hL];rfl, ?_,fun y hy=> ?_⟩
  ·rw[List.length_append]
   refine own_stay hr fun g hgg=>set_block _ _ _ _ ?_
   obtain⟨_,cur2,hc⟩:=own_lt hr g hgg
   exact blk_ne hc hE2 (by decide)
  ·rcases List.mem_append.1 hy with hy | hy
   ·exact⟨dots_stay ((hLd y hy).1.below hb) (hLd y hy).2 hsB,(hLd y hy).2⟩
   ·rw[List.mem_singleton.1 hy]
    exact⟨dots_stay (hd.below hb) hi hsB,hi⟩
 ·rcases hgg with e | e | e
  ·exact Or.inl (h.wr g (Or.inl e))
  ·exact Or.inl (h.wr g (Or.inr (Or.inl e)))
  ·rcases hl with e2 | e2
   ·exact Or.inl (h.wr g (Or.inr (Or.inr (e2▸e))))
   ·have hlt:=(own_lt hr g e).1
    rw[e] at e2;injection e2 with e2
    exact Or.inr ⟨by omega,hlt⟩
 ·rw[set_size]
  rcases hgg with e | e
  ·exact⟨(h.lt g e).1,by have:=(h.lt g e).2;omega⟩
  ·exact⟨fun e9=>by have:=h.old g e9;omega,e.2⟩
 ·refine(Chg.ofBelow hb F).trans ?_
  have c1:Chg F w1 w2:=Chg.grown hg fun g e=>h.wr g (Or.inr (Or.inr e))
  exact c1.setCell (p:=⟨E,3,none⟩) (h.wr _ (Or.inl rfl)) _
/- Apply's end -/
theorem ref_end {B:Nat→Prop} {w w8 w9 w10:World} {E gk:Nat} {vb vm vo v9 vs:Value} {S:Dq} {F F1:Nat→Prop} {o:Ox} {L:List (Ox × Value)} (I:Inv S) (hnew:isNew S o=true) (hc8:Chg F w w8) (hF1:∀g,F1 g→F g∨w.heap.size≤g)
  (h8:RefMem B w8 E gk vb vm vo ⟨doB S o,doM S o,S.known.set (o.1.1-1).toNat o.1.2,S.ops⟩ F1) (hL:L.map (·.1)=S.ops) (hLd:∀y ∈ L,DtsAt w8 y.2 y.1.2.2.2.2∧In B y.2) (hb:Below w8.heap.size w8 w9)
  (hd:DtsAt w8 vs o.2.2.2.2) (hi:In B vs) (hg:w9.grownBy w10 vo.ownBlock) (hr:w10.ownsRow 0 75 6 v9 (S.ops.length+1) (flatO (L++[(o,vs)]))) (hl:v9.ownBlock=vo.ownBlock∨v9.ownBlock=some w9.heap.size):
  RPost B w E S F o (.returned (.tuple #[.bool true,.int .i64 0])) (w10.setCell ⟨E,3,none⟩ v9):=by
 obtain⟨r1,r2⟩:=ref_ops h8 hL hLd hb hd hi hg hr hl
 obtain⟨e0,hk,hfew,hdo⟩:=isNew_iff.1 hnew
 have hap:apE S o=0:=by
  unfold apE
  rw[if_neg (by simpa using e0),if_neg (by omega),if_neg (by omega),if_neg (by omega)]
  exact hdo
 have hz:=hc8.size
 refine⟨by rw[hnew,hap],News' F1 w8 w10, ?_,hc8.next r2 hF1,fun g hgg=> ?_⟩
 ·unfold apS
  rw[hnew,if_pos rfl]
  exact⟨inv_next I hnew,gk,vb,vm,v9,r1⟩
 ·rcases hgg with e | e
  ·exact hF1 g e
  ·exact Or.inr (by omega)
end Xp
end Go.Proofs.YtlmdchpbpgcfmaaGreatDoor
/- What the reference's doc answers: New and Apply. -/
namespace Go.Proofs.YtlmdchpbpgcfmaaGreatDoor
namespace Xq
open Go.ChangeShapes Go.WideShapes Go.ChangeAt Go.RowKit Cm Ka Kb Na Om Oa Oz Oc Og Oi Hm Ia Ib Ic Idc Ie Xp
open La (bel bel_drew errV_zero errV_ne own_ge own_grow own_below Lies)
open Lj (BookAt BookNew)
theorem infoR:(Tryz.prog.info? 75).map (fun i=>(i.zero,i.size,i.bytes))=some (some (.agg #[.int .i64 0,.int .i64 0,.int .i64 0,.string ⟨#[]⟩,.int .i64 0,.slice none 0 0]),6,72):=by kernel_rfl
theorem mid_same {W W':World} {h:Nat} {a b t:Int} {p:ByteArray} {c:Int} {v:Value} (s:Six W h a b t p c v) (hs:W'.heap[h]? =W.heap[h]?):Six W' h a b t p c v:=by
 obtain⟨h0,h1,h2,h3,h4,h5⟩:=s
 exact⟨(cell_stay hs).trans h0,(cell_stay hs).trans h1,(cell_stay hs).trans h2,(cell_stay hs).trans h3,(cell_stay hs).trans h4,(cell_stay hs).trans h5⟩
/- the reference's write and strike are the document's, of a book and a place that are right -/
theorem wr_eq {l:List Bm.Leaf} {p:ByteArray} (hb:Bm.bookE l=0) (hp:Pm.chk p.toList=0) (c:Int):Bm.writeE l p c=Bm.wrE l p c∧Bm.writeL l p c=Me.wrL l p c:=by
 have h0:Bm.withE l p=0:=by unfold Bm.withE;simp[hb,hp]
 have h1:Bm.writeE l p c=Bm.wrE l p c:=by unfold Bm.writeE;rw[if_neg (by simpa using h0)]
 exact⟨h1,by unfold Bm.writeL Me.wrL;rw[h1]⟩
theorem st_eq {l:List Bm.Leaf} {p:ByteArray} (hb:Bm.bookE l=0) (hp:Pm.chk p.toList=0):Bm.strikeE l p=Bm.putE l p∧Bm.strikeL l p=Me.stL l p:=by
 have h0:Bm.withE l p=0:=by unfold Bm.withE;simp[hb,hp]
 have h1:Bm.strikeE l p=Bm.putE l p:=by unfold Bm.strikeE;rw[if_neg (by simpa using h0)]
 exact⟨h1,by unfold Bm.strikeL Me.stL;rw[h1]⟩
/- a new one -/
theorem ref_new {B:Nat→Prop} {w w1:World} (hB:∀g,B g→g<w.heap.size) (ho:w1.ownsRow w.heap.size 3 1 (.slice (some ⟨w.heap.size,0,none⟩) 8 8) 8 (List.replicate 8 (.int .i64 0))) (hb:Below w.heap.size w w1):
  ∃F,RefAt B (w1.alloc (.cells #[.slice none 0 0,.slice none 0 0,.slice (some ⟨w.heap.size,0,none⟩) 8 8,.slice none 0 0] 118)) w1.heap.size d0 F∧(∀g,F g→w.heap.size≤g)∧
   Below w.heap.size w (w1.alloc (.cells #[.slice none 0 0,.slice none 0 0,.slice (some ⟨w.heap.size,0,none⟩) 8 8,.slice none 0 0] 118)):=by
 have hlt:w.heap.size<w1.heap.size:=(own_lt ho w.heap.size rfl).1
 have hz:=hb.size
 obtain⟨_,e | ⟨g,cap,cur,e,_,hc,_,_,hsz,htk⟩⟩:=id ho
 ·cases e.1
 ·injection e with e1 e2 e3
  injection e1 with e1
  injection e1 with e1
  subst e3
  have hbb:Below w1.heap.size w1 (w1.alloc (.cells #[.slice none 0 0,.slice none 0 0,.slice (some ⟨w.heap.size,0,none⟩) 8 8,.slice none 0 0] 118)):=(Below.refl _ w1).alloc (Nat.le_refl _) _
  have hlen:cur.toList.length=8:=by simpa using hsz
  have hcur:cur.toList=List.replicate 8 (.int .i64 0):=by
   have h9:=htk
   rw[List.take_of_length_le (by rw[hlen];simp)] at h9
   exact h9
  refine⟨fun x=>x=w1.heap.size∨x=w.heap.size,⟨inv_zero,w.heap.size,.slice none 0 0,.slice none 0 0,.slice none 0 0,⟨heap_alloc_new w1 _,⟨cur, ?_,by rw[hcur];rfl⟩,Lj.BookAt.nil _,In.nil _,MksAt.nil _,In.nil _,⟨[],rfl,World.ownsRow_nil _ _ _ _,fun y hy=>(by cases hy)⟩,fun x hx=> ?_,fun x hx=> ?_,fun x hx=>by have:=hB x hx;have:=hbb.size;omega⟩⟩,fun x hx=> ?_,bel hb hbb⟩
  ·rw[hbb.block _ hlt,e1];exact hc
  ·rcases hx with hx | hx | hx
   ·exact Or.inl hx
   ·exact Or.inr hx
   ·cases hx
  ·have hs9:(w1.alloc (.cells #[.slice none 0 0,.slice none 0 0,.slice (some ⟨w.heap.size,0,none⟩) 8 8,.slice none 0 0] 118)).heap.size=w1.heap.size+1:=by simp
   rcases hx with hx | hx<;>(rw[hs9];exact⟨fun e9=>by have:=hB x e9;omega,by omega⟩)
  ·rcases hx with hx | hx<;>omega
theorem made8:(madeCells (Value.int .i64 0).cells (8*1)).toList=List.replicate 8 (.int .i64 0):=by kernel_rfl
theorem new_ref (B:Nat→Prop) (w:World) (hB:∀g,B g→g<w.heap.size):Calls Tryz.prog 30 #[] w fun e w'=>∃E F,e=.returned (.pointer (some ⟨E,0,none⟩))∧RefAt B w' E d0 F∧(∀g,F g→w.heap.size≤g)∧Below w.heap.size w w':=by
 obtain⟨i0,hi,hz0,hz1,hz2⟩:=info_parts Za.infoInt
 have HBB:=z9 hB
 clear hB
 go_enter Tryz.func30,Tryz.ntmps30
 go_wp2_with (at_make;refine wpList_make_full _ rfl (.const (.int .i64 8)) (.const (.int .i64 8)) 39 rfl w.heap.size 3 i0 (.int .i64 0) 1 Tryz.underlying39 hi hz0 hz1 .i64 .i64 8 8 8 rfl rfl rfl rfl (by rw[hz2];omega) (by unfold maxLen;omega) (Nat.le_refl _) ?_;intro w1 hown hgrow;have HO:Hid (w1.ownsRow w.heap.size 3 1 (.slice (some ⟨w.heap.size,0,none⟩) 8 8) 8 (List.replicate 8 (.int .i64 0))):=(made8▸hown);have HB:Hid (Below w.heap.size w w1):=⟨hgrow.os,hgrow.tape,hgrow.output,hgrow.size,fun k hk=>hgrow.block k hk (by intro e;cases e)⟩;clear hown hgrow)
 go_ret
 obtain⟨F,r1,r2,r3⟩:=ref_new HBB.out HO.out HB.out
 exact⟨_,F,rfl,r1,r2,r3⟩
theorem ap_wrong (B:Nat→Prop) (E:Nat) (S:Dq) (F:Nat→Prop) (a b t:Int) (p:ByteArray) (c:Int) (vs:Value) (s:List Dt) (w:World) (h:RefAt B w E S F) (hd:DtsAt w vs s) (hi:In B vs) (hp:p.size≤maxLen) (k:Int) (ho:opE ((a,b),t,p,c,s)=k) (h0:k≠0):
  Calls Tryz.prog 31 #[.pointer (some ⟨E,0,none⟩),.agg #[.int .i64 a,.int .i64 b,.int .i64 t,.string p,.int .i64 c,vs]] w (RPost B w E S F ((a,b),t,p,c,s)):=by
 have HAT:=z9 h
 obtain⟨I,gk,vb,vm,vo,hm⟩:=h
 have HB1:Hid (Below w.heap.size w (w.alloc (.cells #[.int .i64 a,.int .i64 b,.int .i64 t,.string p,.int .i64 c,vs] 75))):=(Below.refl _ w).alloc (Nat.le_refl _) _
 have H6:=z9 (six_new w a b t p c vs 75)
 have COp:Hid (∀W,Below w.heap.size w W→Calls Tryz.prog 61 #[.agg #[.int .i64 a,.int .i64 b,.int .i64 t,.string p,.int .i64 c,vs]] W fun e w'=>e=.returned (.int .i64 (opE ((a,b),t,p,c,s)))∧Below W.heap.size W w'):=fun W hb=>Ob.op_ref a b t p c vs s W hp (hd.below hb)
 have HN:Hid (isNew S ((a,b),t,p,c,s)=false):=by unfold Hid isNew;rw[ho,decide_eq_false h0];rfl
 have HE:Hid (apE S ((a,b),t,p,c,s)=k):=by unfold Hid apE;rw[ho,if_pos h0]
 rw[ho] at COp
 have h0b:(k==0)=false:=by simpa using h0
 have h0c:(k !=0)=true:=by simpa using h0
 clear hd hi hp ho hm I
 go_enter Tryz.func31,Tryz.ntmps31
 obtain⟨o0,o1,o2,o3,o4,o5⟩:=H6.out
 go_wp2_with fail
 refine(COp.out _ HB1.out).mono ?_
 rintro e w2 ⟨rfl,hb2⟩
 have HB2:=z9 (bel HB1.out hb2)
 clear hb2 COp
 go_wp2_with fail
 go_ret2
 exact RPost.no HAT.out HN.out HE.out HB2.out
theorem ap_known (B:Nat→Prop) (E:Nat) (S:Dq) (F:Nat→Prop) (a b t:Int) (p:ByteArray) (c:Int) (vs:Value) (s:List Dt) (w:World) (h:RefAt B w E S F) (hd:DtsAt w vs s) (hi:In B vs) (hp:p.size≤maxLen) (ho:opE ((a,b),t,p,c,s)=0) (hkn:b≤kn S a):
  Calls Tryz.prog 31 #[.pointer (some ⟨E,0,none⟩),.agg #[.int .i64 a,.int .i64 b,.int .i64 t,.string p,.int .i64 c,vs]] w (RPost B w E S F ((a,b),t,p,c,s)):=by
 have HAT:=z9 h
 obtain⟨I,gk,vb,vm,vo,hm⟩:=h
 have HB1:Hid (Below w.heap.size w (w.alloc (.cells #[.int .i64 a,.int .i64 b,.int .i64 t,.string p,.int .i64 c,vs] 75))):=(Below.refl _ w).alloc (Nat.le_refl _) _
 have H6:=z9 (six_new w a b t p c vs 75)
 have COp:Hid (∀W,Below w.heap.size w W→Calls Tryz.prog 61 #[.agg #[.int .i64 a,.int .i64 b,.int .i64 t,.string p,.int .i64 c,vs]] W fun e w'=>e=.returned (.int .i64 (opE ((a,b),t,p,c,s)))∧Below W.heap.size W w'):=fun W hb=>Ob.op_ref a b t p c vs s W hp (hd.below hb)
 have HN:Hid (isNew S ((a,b),t,p,c,s)=false):=by
  unfold Hid
  cases h9:isNew S ((a,b),t,p,c,s)
  ·rfl
  ·have h8:=isNew_iff.1 h9;obtain⟨e1,e2,e3,e4⟩:=h8;simp only at e2;omega
 have HE:Hid (apE S ((a,b),t,p,c,s)=0):=by unfold Hid apE;rw[if_neg (by simpa using ho)];simp only;rw[if_pos hkn]
 rw[ho] at COp
 obtain⟨d1,d2,d3,d4⟩:=dotE_iff.1 (opE_zero.1 ho).1
 simp only at d1 d2 d3 d4
 obtain⟨q,hq⟩:∃q,q=kn S a:=⟨_,rfl⟩
 have hk8:a.toNat-1<8:=by omega
 have hka:(a-1).toNat=a.toNat-1:=by omega
 have HKA:=z9 hka
 have HKN:Hid (∀W,Below w.heap.size w W→W.cell? ⟨gk,a.toNat-1,none⟩=some (.int .i64 q)):=fun W hb=>by
  obtain⟨cur,k1,k2⟩:=(hm.below hb).kn
  refine blk_cell k1 ?_
  have hkl:a.toNat-1<S.known.length:=by rw[I.klen];exact hk8
  rw[←Array.getElem?_toList,k2,List.getElem?_map,List.getElem?_eq_getElem hkl,hq]
  unfold kn
  rw[hka,List.getD_eq_getElem?_getD,List.getElem?_eq_getElem hkl];rfl
 obtain⟨po,no,co,hvo⟩:∃p n c,vo=.slice p n c:=by obtain⟨L,_,e,_⟩:=hm.ops;obtain⟨p,n,c,e2,_⟩:=own_shape e;exact⟨p,n,c,e2⟩
 obtain⟨pb,nb,cb,hvb⟩:∃p n c,vb=.slice p n c:=by obtain⟨p,c,e,_⟩:=hm.book;exact⟨_,_,_,e⟩
 obtain⟨pm,nm,cm,hvm⟩:∃p n c,vm=.slice p n c:=by obtain⟨p,c,e,_⟩:=hm.marks;exact⟨_,_,_,e⟩
 have HNO:Hid (no=S.ops.length):=by
  obtain⟨L,_,e,_⟩:=hm.ops
  obtain⟨p,n,c,e2,e3⟩:=own_shape e
  rw[hvo] at e2
  injection e2 with _ e2 _
  exact e2.trans e3.out
 have HMM:=z9 hm
 subst hvo hvb hvm
 have HBL:Hid (∀W,Below w.heap.size w W→W.heap[E]? =some (.cells #[.slice pb nb cb,.slice pm nm cm,.slice (some ⟨gk,0,none⟩) 8 8,.slice po no co] 118)):=fun W hb=>(hm.below hb).blk
 have hi0:0≤a-1:=by omega
 have hi1:a-1<8:=by omega
 rw[←hq] at hkn
 clear hd hi hp ho hm I hq hk8 hka
 go_enter Tryz.func31,Tryz.ntmps31
 obtain⟨o0,o1,o2,o3,o4,o5⟩:=H6.out
 go_wp2_with fail
 refine(COp.out _ HB1.out).mono ?_
 rintro e w2 ⟨rfl,hb2⟩
 have HB2:=z9 (bel HB1.out hb2)
 obtain⟨o0,o1,o2,o3,o4,o5⟩:=H6.out.below hb2
 have HS2:=z9 (H6.out.below hb2)
 have x2:=blk_cell (HBL.out w2 HB2.out) (i:=2) (u:=.slice (some ⟨gk,0,none⟩) 8 8) rfl
 have xk:=HKN.out w2 HB2.out
 clear hb2 COp H6 HB1
 go_wp2_with fail
 have hwr:IntKind.i64.wrap (a-1)=a-1:=wrap_in (by omega) (by omega)
 go_quiet (fail)
 generalize hwq:World.drewN _ _=wq
 have HBq:Hid (Below w.heap.size w wq):=by rw[←hwq];exact bel_drew HB2.out _
 have HSq:Hid (Six wq w.heap.size a b t p c vs):=by rw[←hwq];exact HS2.out
 clear hwq o0 o1 o2 o3 o4 o5 x2 xk HS2
 obtain⟨o0,o1,o2,o3,o4,o5⟩:=HSq.out
 go_wp2_with fail
 go_ret2
 exact RPost.no HAT.out HN.out HE.out HBq.out
theorem ap_state (B:Nat→Prop) (E:Nat) (S:Dq) (F:Nat→Prop) (a b t:Int) (p:ByteArray) (c:Int) (vs:Value) (s:List Dt) (w:World) (h:RefAt B w E S F) (hd:DtsAt w vs s) (hi:In B vs) (hp:p.size≤maxLen) (ho:opE ((a,b),t,p,c,s)=0) (hkn:kn S a<b-1):
  Calls Tryz.prog 31 #[.pointer (some ⟨E,0,none⟩),.agg #[.int .i64 a,.int .i64 b,.int .i64 t,.string p,.int .i64 c,vs]] w (RPost B w E S F ((a,b),t,p,c,s)):=by
 have HAT:=z9 h
 obtain⟨I,gk,vb,vm,vo,hm⟩:=h
 have HB1:Hid (Below w.heap.size w (w.alloc (.cells #[.int .i64 a,.int .i64 b,.int .i64 t,.string p,.int .i64 c,vs] 75))):=(Below.refl _ w).alloc (Nat.le_refl _) _
 have H6:=z9 (six_new w a b t p c vs 75)
 have COp:Hid (∀W,Below w.heap.size w W→Calls Tryz.prog 61 #[.agg #[.int .i64 a,.int .i64 b,.int .i64 t,.string p,.int .i64 c,vs]] W fun e w'=>e=.returned (.int .i64 (opE ((a,b),t,p,c,s)))∧Below W.heap.size W w'):=fun W hb=>Ob.op_ref a b t p c vs s W hp (hd.below hb)
 have HN:Hid (isNew S ((a,b),t,p,c,s)=false):=by
  unfold Hid
  cases h9:isNew S ((a,b),t,p,c,s)
  ·rfl
  ·have h8:=isNew_iff.1 h9;obtain⟨e1,e2,e3,e4⟩:=h8;simp only at e2;omega
 have HE:Hid (apE S ((a,b),t,p,c,s)=6):=by unfold Hid apE;rw[if_neg (by simpa using ho)];simp only;rw[if_neg (by omega),if_pos hkn]
 rw[ho] at COp
 obtain⟨d1,d2,d3,d4⟩:=dotE_iff.1 (opE_zero.1 ho).1
 simp only at d1 d2 d3 d4
 obtain⟨q,hq⟩:∃q,q=kn S a:=⟨_,rfl⟩
 have hk8:a.toNat-1<8:=by omega
 have hka:(a-1).toNat=a.toNat-1:=by omega
 have HKA:=z9 hka
 have HKN:Hid (∀W,Below w.heap.size w W→W.cell? ⟨gk,a.toNat-1,none⟩=some (.int .i64 q)):=fun W hb=>by
  obtain⟨cur,k1,k2⟩:=(hm.below hb).kn
  refine blk_cell k1 ?_
  have hkl:a.toNat-1<S.known.length:=by rw[I.klen];exact hk8
  rw[←Array.getElem?_toList,k2,List.getElem?_map,List.getElem?_eq_getElem hkl,hq]
  unfold kn
  rw[hka,List.getD_eq_getElem?_getD,List.getElem?_eq_getElem hkl];rfl
 obtain⟨po,no,co,hvo⟩:∃p n c,vo=.slice p n c:=by obtain⟨L,_,e,_⟩:=hm.ops;obtain⟨p,n,c,e2,_⟩:=own_shape e;exact⟨p,n,c,e2⟩
 obtain⟨pb,nb,cb,hvb⟩:∃p n c,vb=.slice p n c:=by obtain⟨p,c,e,_⟩:=hm.book;exact⟨_,_,_,e⟩
 obtain⟨pm,nm,cm,hvm⟩:∃p n c,vm=.slice p n c:=by obtain⟨p,c,e,_⟩:=hm.marks;exact⟨_,_,_,e⟩
 have HNO:Hid (no=S.ops.length):=by
  obtain⟨L,_,e,_⟩:=hm.ops
  obtain⟨p,n,c,e2,e3⟩:=own_shape e
  rw[hvo] at e2
  injection e2 with _ e2 _
  exact e2.trans e3.out
 have HMM:=z9 hm
 subst hvo hvb hvm
 have HBL:Hid (∀W,Below w.heap.size w W→W.heap[E]? =some (.cells #[.slice pb nb cb,.slice pm nm cm,.slice (some ⟨gk,0,none⟩) 8 8,.slice po no co] 118)):=fun W hb=>(hm.below hb).blk
 have hi0:0≤a-1:=by omega
 have hi1:a-1<8:=by omega
 rw[←hq] at hkn
 have hkn2:¬b≤q:=by omega
 clear hd hi hp ho hm I hq hk8 hka
 go_enter Tryz.func31,Tryz.ntmps31
 obtain⟨o0,o1,o2,o3,o4,o5⟩:=H6.out
 go_wp2_with fail
 refine(COp.out _ HB1.out).mono ?_
 rintro e w2 ⟨rfl,hb2⟩
 have HB2:=z9 (bel HB1.out hb2)
 obtain⟨o0,o1,o2,o3,o4,o5⟩:=H6.out.below hb2
 have HS2:=z9 (H6.out.below hb2)
 have x2:=blk_cell (HBL.out w2 HB2.out) (i:=2) (u:=.slice (some ⟨gk,0,none⟩) 8 8) rfl
 have xk:=HKN.out w2 HB2.out
 clear hb2 COp H6 HB1
 go_wp2_with fail
 have hwr:IntKind.i64.wrap (a-1)=a-1:=wrap_in (by omega) (by omega)
 go_quiet (fail)
 generalize hwq:World.drewN _ _=wq
 have HBq:Hid (Below w.heap.size w wq):=by rw[←hwq];exact bel_drew HB2.out _
 have HSq:Hid (Six wq w.heap.size a b t p c vs):=by rw[←hwq];exact HS2.out
 clear hwq o0 o1 o2 o3 o4 o5 x2 xk HS2
 obtain⟨o0,o1,o2,o3,o4,o5⟩:=HSq.out
 go_wp2_with fail
 go_ret2
 exact RPost.no HAT.out HN.out HE.out HBq.out
theorem ap_full (B:Nat→Prop) (E:Nat) (S:Dq) (F:Nat→Prop) (a b t:Int) (p:ByteArray) (c:Int) (vs:Value) (s:List Dt) (w:World) (h:RefAt B w E S F) (hd:DtsAt w vs s) (hi:In B vs) (hp:p.size≤maxLen) (ho:opE ((a,b),t,p,c,s)=0) (hkn:kn S a+1=b) (hf:400≤S.ops.length):
  Calls Tryz.prog 31 #[.pointer (some ⟨E,0,none⟩),.agg #[.int .i64 a,.int .i64 b,.int .i64 t,.string p,.int .i64 c,vs]] w (RPost B w E S F ((a,b),t,p,c,s)):=by
 have HAT:=z9 h
 obtain⟨I,gk,vb,vm,vo,hm⟩:=h
 have HB1:Hid (Below w.heap.size w (w.alloc (.cells #[.int .i64 a,.int .i64 b,.int .i64 t,.string p,.int .i64 c,vs] 75))):=(Below.refl _ w).alloc (Nat.le_refl _) _
 have H6:=z9 (six_new w a b t p c vs 75)
 have COp:Hid (∀W,Below w.heap.size w W→Calls Tryz.prog 61 #[.agg #[.int .i64 a,.int .i64 b,.int .i64 t,.string p,.int .i64 c,vs]] W fun e w'=>e=.returned (.int .i64 (opE ((a,b),t,p,c,s)))∧Below W.heap.size W w'):=fun W hb=>Ob.op_ref a b t p c vs s W hp (hd.below hb)
 have HN:Hid (isNew S ((a,b),t,p,c,s)=false):=by
  unfold Hid
  cases h9:isNew S ((a,b),t,p,c,s)
  ·rfl
  ·have h8:=isNew_iff.1 h9;obtain⟨e1,e2,e3,e4⟩:=h8;simp only at e2;omega
 have HE:Hid (apE S ((a,b),t,p,c,s)=4):=by unfold Hid apE;rw[if_neg (by simpa using ho)];simp only;rw[if_neg (by omega),if_neg (by omega),if_pos hf]
 rw[ho] at COp
 obtain⟨d1,d2,d3,d4⟩:=dotE_iff.1 (opE_zero.1 ho).1
 simp only at d1 d2 d3 d4
 obtain⟨q,hq⟩:∃q,q=kn S a:=⟨_,rfl⟩
 have hk8:a.toNat-1<8:=by omega
 have hka:(a-1).toNat=a.toNat-1:=by omega
 have HKA:=z9 hka
 have HKN:Hid (∀W,Below w.heap.size w W→W.cell? ⟨gk,a.toNat-1,none⟩=some (.int .i64 q)):=fun W hb=>by
  obtain⟨cur,k1,k2⟩:=(hm.below hb).kn
  refine blk_cell k1 ?_
  have hkl:a.toNat-1<S.known.length:=by rw[I.klen];exact hk8
  rw[←Array.getElem?_toList,k2,List.getElem?_map,List.getElem?_eq_getElem hkl,hq]
  unfold kn
  rw[hka,List.getD_eq_getElem?_getD,List.getElem?_eq_getElem hkl];rfl
 obtain⟨po,no,co,hvo⟩:∃p n c,vo=.slice p n c:=by obtain⟨L,_,e,_⟩:=hm.ops;obtain⟨p,n,c,e2,_⟩:=own_shape e;exact⟨p,n,c,e2⟩
 obtain⟨pb,nb,cb,hvb⟩:∃p n c,vb=.slice p n c:=by obtain⟨p,c,e,_⟩:=hm.book;exact⟨_,_,_,e⟩
 obtain⟨pm,nm,cm,hvm⟩:∃p n c,vm=.slice p n c:=by obtain⟨p,c,e,_⟩:=hm.marks;exact⟨_,_,_,e⟩
 have HNO:Hid (no=S.ops.length):=by
  obtain⟨L,_,e,_⟩:=hm.ops
  obtain⟨p,n,c,e2,e3⟩:=own_shape e
  rw[hvo] at e2
  injection e2 with _ e2 _
  exact e2.trans e3.out
 have HMM:=z9 hm
 subst hvo hvb hvm
 have HBL:Hid (∀W,Below w.heap.size w W→W.heap[E]? =some (.cells #[.slice pb nb cb,.slice pm nm cm,.slice (some ⟨gk,0,none⟩) 8 8,.slice po no co] 118)):=fun W hb=>(hm.below hb).blk
 have hi0:0≤a-1:=by omega
 have hi1:a-1<8:=by omega
 rw[←hq] at hkn
 have hkn2:¬b≤q:=by omega
 have hkn3:¬q<b-1:=by omega
 have hfz:(400:Int)≤no:=by have:=HNO.out;omega
 clear hd hi hp ho hm I hq hk8 hka hf
 go_enter Tryz.func31,Tryz.ntmps31
 obtain⟨o0,o1,o2,o3,o4,o5⟩:=H6.out
 go_wp2_with fail
 refine(COp.out _ HB1.out).mono ?_
 rintro e w2 ⟨rfl,hb2⟩
 have HB2:=z9 (bel HB1.out hb2)
 obtain⟨o0,o1,o2,o3,o4,o5⟩:=H6.out.below hb2
 have HS2:=z9 (H6.out.below hb2)
 have x2:=blk_cell (HBL.out w2 HB2.out) (i:=2) (u:=.slice (some ⟨gk,0,none⟩) 8 8) rfl
 have xk:=HKN.out w2 HB2.out
 clear hb2 COp H6 HB1
 go_wp2_with fail
 have hwr:IntKind.i64.wrap (a-1)=a-1:=wrap_in (by omega) (by omega)
 go_quiet (fail)
 generalize hwq:World.drewN _ _=wq
 have HBq:Hid (Below w.heap.size w wq):=by rw[←hwq];exact bel_drew HB2.out _
 have HSq:Hid (Six wq w.heap.size a b t p c vs):=by rw[←hwq];exact HS2.out
 clear hwq o0 o1 o2 o3 o4 o5 x2 xk HS2
 obtain⟨o0,o1,o2,o3,o4,o5⟩:=HSq.out
 have x3:=blk_cell (HBL.out wq HBq.out) (i:=3) (u:=.slice po no co) rfl
 go_wp2_with fail
 go_ret2
 exact RPost.no HAT.out HN.out HE.out HBq.out
end Xq
end Go.Proofs.YtlmdchpbpgcfmaaGreatDoor
