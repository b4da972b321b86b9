import Derived.Test.YtjcemlmlfoilmaaGreatDoorJ10
import Derived.Test.YtjcemlmlfoilmaaGreatDoorK3
import Derived.Test.YtjcemlmlfoilmaaGreatDoorK1
set_option linter.unusedVariables false
set_option maxRecDepth 100000
set_option maxHeartbeats 8000000
namespace Go.Proofs.YtjcemlmlfoilmaaGreatDoor
open Cm Na Om Oi Hm Ia
open Go.Proofs.Tryz (prog)
namespace Xp
open Oa Ie
open Lj (BookAt)
def Wn (E gk:Nat) (vo:Value) (g:Nat):Prop:=g=E∨g=gk∨vo.ownBlock=some g
def Gn (F:Nat→Prop) (E gk:Nat) (vo:Value) (g:Nat):Prop:=F g∧¬Wn E gk vo g
structure RefMem (B:Nat→Prop) (w:World) (E gk:Nat) (vb vm vo:Value) (S:Dq) (F:Nat→Prop):Prop where
 blk:w.heap[E]? =some (.cells #[vb,vm,.slice (some ⟨gk,0,none⟩) 8 8,vo] 52)
 kn:∃cur:Array Value,w.heap[gk]? =some (.cells cur 3 (0,0))∧cur.toList=S.known.map (Value.int .i64)
 book:BookAt w vb S.book
 bookG:In (Gn F E gk vo) vb
 marks:MksAt w vm S.marks
 marksG:In (Gn F E gk vo) vm
 ops:oU w B vo S.ops
 wr:∀g,Wn E gk vo g→F g
 lt:∀g,F g→¬B g∧g<w.heap.size
 old:∀g,B g→g<w.heap.size
variable {B F:Nat->Prop}{w w':World}{E gk:Nat}{vb vm vo v9 vs:Value}{S:Dq}{o:Ox}{L:List (Ox × Value)}
theorem RefMem.stay(h:RefMem B w E gk vb vm vo S F)(hs:∀g,F g\/B g->w'.heap[g]? =w.heap[g]?)(hz:w.heap.size<=w'.heap.size):RefMem B w' E gk vb vm vo S F:=by
 have a:Stay (Gn F E gk vo) w w':=fun g hg=>hs g (qH hg.1)
 obtain⟨b,c,d⟩:=h.kn;exact⟨by rw[hs _ (qH (h.wr _ (qH rfl)))];exact h.blk,⟨b,by rw[hs _ (qH (h.wr _ (qF (qH rfl))))];exact c,d⟩,cR h.book h.bookG a,h.bookG,cI h.marks h.marksG a,h.marksG,aBA h.ops (fun g hg=>hs g (qH (h.wr g (qF (qF hg))))) (fun g hg=>hs g (qF hg)),h.wr,fun g hg=>⟨(h.lt g hg).1,jE (h.lt g hg).2 hz⟩,fun g hg=>jE (h.old g hg) hz⟩
theorem RefMem.below(h:RefMem B w E gk vb vm vo S F)(hb:zB w w'):RefMem B w' E gk vb vm vo S F:=
 h.stay (fun g hg=>hb.block g (by rcases hg with e | e;exact(h.lt g e).2;exact h.old g e)) hb.size
theorem blk_ne{g k:Nat}{c d:Array Value}{t u:TypeId}(h:w.heap[g]? =some (.cells c t (0,0)))(h2:w.heap[k]? =some (.cells d u (0,0)))(hn:t≠u):g≠k:=fun e=>by
 rw[e,h2] at h
 injection h with h
 injection h with _ h _
 exact hn h.symm
def RefAt (B:Nat→Prop) (w:World) (E:Nat) (S:Dq) (F:Nat→Prop):Prop:=Inv S∧∃gk vb vm vo,RefMem B w E gk vb vm vo S F
theorem RefAt.inv(h:RefAt B w E S F):Inv S:=h.1
theorem RefAt.lt{B:Nat->Prop}{w:World}{E:Nat}{S:Dq}{F:Nat->Prop}(h:RefAt B w E S F):∀g,F g->¬B g/\g<w.heap.size:=by
 obtain⟨_,a,b,c,d,h⟩:=h;exact h.lt
theorem RefAt.below{B:Nat->Prop}{w w':World}{E:Nat}{S:Dq}{F:Nat->Prop}(h:RefAt B w E S F)(hb:zB w w'):RefAt B w' E S F:=by
 obtain⟨I,a,b,c,d,h⟩:=h;exact⟨I,a,b,c,d,h.below hb⟩
theorem RefAt.old{B:Nat->Prop}{w:World}{E:Nat}{S:Dq}{F:Nat->Prop}(h:RefAt B w E S F):∀g,B g->g<w.heap.size:=by
 obtain⟨_,a,b,c,d,h⟩:=h;exact h.old
theorem RefAt.more{C:Nat->Prop}(h:RefAt B w E S F)(hs:∀g,B g->C g)(hC:∀g,C g->g<w.heap.size/\¬F g):RefAt C w E S F:=by
 obtain⟨I,b,c,d,f,h⟩:=h;obtain⟨L,i,j,a⟩:=h.ops;exact⟨I,b,c,d,f,h.blk,h.kn,h.book,h.bookG,h.marks,h.marksG,⟨L,i,j,fun y hy=>⟨(a y hy).1,(a y hy).2.mono hs⟩⟩,h.wr,fun g hg=>⟨fun e=>(hC g e).2 hg,(h.lt g hg).2⟩,fun g hg=>(hC g hg).1⟩
def RPost (B:Nat→Prop) (w:World) (E:Nat) (S:Dq) (F:Nat→Prop) (o:Ox) (e:Ending) (w':World):Prop:=
 e=.returned (.tuple #[.bool (isNew S o),.int .i64 (apE S o)])∧∃F',RefAt B w' E (apS S o) F'∧Chg F w w'∧∀g,F' g→F g∨w.heap.size≤g
theorem RPost.no{k:Int}(h:RefAt B w E S F)(hn:isNew S o=false)(he:apE S o=k)(hb:zB w w'):RPost B w E S F o (.returned (.tuple #[.bool false,.int .i64 k])) w':=by
 refine⟨by rw[hn,he],F, ?_,Chg.ofBelow hb F,fun g hg=>qH hg⟩;unfold apS;rw[hn];exact h.below hb
def st3 (w:World) (E gk i:Nat) (vb vm:Value) (n:Int):World:=((w.setCell ⟨E,0,none⟩ vb).setCell ⟨E,1,none⟩ vm).setCell ⟨gk,i,none⟩ (.int .i64 n)
def News' (F:Nat→Prop) (w w':World) (g:Nat):Prop:=F g∨(w.heap.size≤g∧g<w'.heap.size)
theorem nD{w7:World}{i:Nat}{vb' vm':Value}{Bk:List Bm.Leaf}{Mx:List Mk}{n:Int}(h:RefMem B w E gk vb vm vo S F)(hb:zB w w7)(h1:BookAt w7 vb' Bk)(i1:In (Gn (News' F w w7) E gk vo) vb')(h2:MksAt w7 vm' Mx)(i2:In (Gn (News' F w w7) E gk vo) vm'):
  RefMem B (st3 w7 E gk i vb' vm' n) E gk vb' vm' vo ⟨Bk,Mx,S.known.set i n,S.ops⟩ (News' F w w7)/\Chg F w (st3 w7 E gk i vb' vm' n):=by
 have b:=h.below hb;obtain⟨k,f,r⟩:=b.kn;have c:=blk_ne b.blk f (by decide)
 have d:∀g,g≠E->g≠gk->(st3 w7 E gk i vb' vm' n).heap[g]? =w7.heap[g]? :=fun g e1 e2=>by
  unfold st3;rw[set_block _ _ _ _ e2,set_block _ _ _ _ e1,set_block _ _ _ _ e1]
 have l:Stay (Gn (News' F w w7) E gk vo) w7 (st3 w7 E gk i vb' vm' n):=fun g hg=>d g (fun e=>hg.2 (qH e)) (fun e=>hg.2 (qF (qH e)))
 have m:(st3 w7 E gk i vb' vm' n).heap.size=w7.heap.size:=by unfold st3;rw[set_size,set_size,set_size]
 obtain⟨L,s,o,j⟩:=b.ops;refine⟨⟨?_, ?_,cR h1 i1 l,i1,cI h2 i2 l,i2,⟨L,s,aP o (fun g hg=> ?_),fun y hy=>⟨bI (j y hy).1 (j y hy).2 (fun g hg=> ?_),(j y hy).2⟩⟩,fun g hg=>qH (h.wr g hg),fun g hg=> ?_,fun g hg=>by rw[m];exact b.old g hg⟩, ?_⟩
 ·show(st3 w7 E gk i vb' vm' n).heap[E]? =_
  unfold st3;rw[set_block _ _ _ _ c,set_heap (set_heap b.blk)];rfl
 ·refine⟨k.setIfInBounds i (zI n), ?_, ?_⟩
  ·unfold st3;refine set_heap ?_;rw[set_block _ _ _ _ c.symm,set_block _ _ _ _ c.symm];exact f
  ·rw[Array.toList_setIfInBounds,r,List.map_set]
 ·obtain⟨_,t,q⟩:=aL o g hg;exact d g (blk_ne q b.blk (by decide)) (blk_ne q f (by decide))
 ·have v:=(h.lt _ (h.wr _ (qH rfl))).1;exact d g (fun e=>v (e▸hg)) (fun e=>((h.lt _ (h.wr _ (qF (qH rfl)))).1) (e▸hg))
 ·rw[m];rcases hg with e | e
  ·exact⟨(h.lt g e).1,(b.lt g e).2⟩
  ·exact⟨fun e9=>by have:=h.old g e9;omega,e.2⟩
 ·exact(((Chg.ofBelow hb F).setCell (p:=(zA E)) (h.wr _ (qH rfl)) _).setCell (p:=⟨E,1,none⟩) (h.wr _ (qH rfl)) _).setCell (p:=⟨gk,i,none⟩) (h.wr _ (qF (qH rfl))) _
theorem aHH{w1 w2:World}(h:RefMem B w E gk vb vm vo S F)(hL:L.map (·.1)=S.ops)(hLd:∀y ∈ L,DtsAt w y.2 y.1.2.2.2.2/\In B y.2)(hb:zB w w1)(hd:DtsAt w vs o.2.2.2.2)(hi:In B vs)(hg:w1.grownBy w2 vo.ownBlock)(hr:w2.ownsRow 0 97 6 v9 (S.ops.length+1) (flatO (L++[(o,vs)])))(hl:v9.ownBlock=vo.ownBlock\/v9.ownBlock=some w1.heap.size):
  RefMem B (w2.setCell ⟨E,3,none⟩ v9) E gk vb vm v9 { S with ops:=S.ops++[o] } (News' F w w2)/\Chg F w (w2.setCell ⟨E,3,none⟩ v9):=by
 have a:=h.below hb;obtain⟨I,J,z,K⟩:=a.ops;obtain⟨d,n,A⟩:=a.kn;have k:∀g,vo.ownBlock=some g->∃d,w1.heap[g]? =some (.cells d 97 (0,0)):=fun g hgg=>(aL z g hgg).2
 have q:∀g,vo.ownBlock=some g->g≠E:=fun g hgg=>by
  obtain⟨f,i⟩:=k g hgg;exact blk_ne i a.blk (by decide)
 have r:∀g,vo.ownBlock=some g->g≠gk:=fun g hgg=>by
  obtain⟨f,i⟩:=k g hgg;exact blk_ne i n (by decide)
 have s:=blk_ne a.blk n (by decide)
 have j:∀g,g<w1.heap.size->g≠E->vo.ownBlock≠some g->(w2.setCell ⟨E,3,none⟩ v9).heap[g]? =w1.heap[g]? :=fun g hgl hne hnv=>by
  rw[set_block _ _ _ _ hne];exact hg.block g hgl (fun e=>hnv e.symm)
 have l:w2.heap[E]? =some (.cells #[vb,vm,.slice (some (zA gk)) 8 8,vo] 52):=by
  rw[hg.block _ (qG.1 a.blk).1 (fun e=>q E e.symm rfl)];exact a.blk
 have D:=hb.size;have G:=hg.size;have H:=h.lt _ (h.wr _ (qF (qH rfl)));have t:Stay (Gn F E gk vo) w1 (w2.setCell ⟨E,3,none⟩ v9):=fun g hgg=>j g (a.lt g hgg.1).2 (fun e=>hgg.2 (qH e)) (fun e=>hgg.2 (qF (qF e)))
 have m:Stay B w1 (w2.setCell ⟨E,3,none⟩ v9):=fun g hgg=>by
  exact j g (by have:=h.old g hgg;omega) (fun e=>(h.lt _ (h.wr _ (qH rfl))).1 (e▸hgg)) (fun e=>(h.lt g (h.wr g (qF (qF e)))).1 hgg)
 have c:∀g,Gn F E gk vo g->Gn (News' F w w2) E gk v9 g:=fun g hgg=>⟨qH hgg.1,fun e=>by
  rcases e with e | e | e
  ·exact hgg.2 (qH e)
  ·exact hgg.2 (qF (qH e))
  ·rcases hl with e2 | e2
   ·exact hgg.2 (qF (qF (e2▸e)))
   ·rw[e] at e2;injection e2 with e2
    have:=(h.lt g hgg.1).2;omega⟩
 refine⟨⟨?_,⟨d, ?_,A⟩,cR a.book a.bookG t,a.bookG.mono c,cI a.marks a.marksG t,a.marksG.mono c, ?_,fun g hgg=> ?_,fun g hgg=> ?_,fun g hgg=>by rw[set_size];have:=h.old g hgg;omega⟩, ?_⟩
 ·rw[set_heap l];rfl
 ·rw[j gk (by omega) s.symm (fun e=>r gk e rfl)];exact n
 ·refine⟨L++[(o,vs)],by rw[xL,hL];rfl, ?_,fun y hy=> ?_⟩
  ·rw[qE];refine aP hr fun g hgg=>set_block _ _ _ _ ?_
   obtain⟨_,f,i⟩:=aL hr g hgg;exact blk_ne i l (by decide)
  ·rcases jB.1 hy with hy | hy
   ·exact⟨bI ((hLd y hy).1.below hb) (hLd y hy).2 m,(hLd y hy).2⟩
   ·rw[qP.1 hy];exact⟨bI (hd.below hb) hi m,hi⟩
 ·rcases hgg with e | e | e
  ·exact qH (h.wr g (qH e))
  ·exact qH (h.wr g (qF (qH e)))
  ·rcases hl with e2 | e2
   ·exact qH (h.wr g (qF (qF (e2▸e))))
   ·have v:=(aL hr g e).1;rw[e] at e2;injection e2 with e2
    exact qF ⟨by omega,v⟩
 ·rw[set_size];rcases hgg with e | e
  ·exact⟨(h.lt g e).1,by have:=(h.lt g e).2;omega⟩
  ·exact⟨fun e9=>by have:=h.old g e9;omega,e.2⟩
 ·refine(Chg.ofBelow hb F).trans ?_;have C:=Chg.grown hg fun g e=>h.wr g (qF (qF e))
  exact C.setCell (p:=⟨E,3,none⟩) (h.wr _ (qH rfl)) _
theorem oG{w8 w9 w10:World}{F1:Nat->Prop}(I:Inv S)(hnew:isNew S o=true)(hc8:Chg F w w8)(hF1:∀g,F1 g->F g\/w.heap.size<=g)(h8:RefMem B w8 E gk vb vm vo ⟨doB S o,doM S o,S.known.set (o.1.1-1).toNat o.1.2,S.ops⟩ F1)(hL:L.map (·.1)=S.ops)(hLd:∀y ∈ L,DtsAt w8 y.2 y.1.2.2.2.2/\In B y.2)(hb:zB w8 w9)(hd:DtsAt w8 vs o.2.2.2.2)(hi:In B vs)(hg:w9.grownBy w10 vo.ownBlock)(hr:w10.ownsRow 0 97 6 v9 (S.ops.length+1) (flatO (L++[(o,vs)])))(hl:v9.ownBlock=vo.ownBlock\/v9.ownBlock=some w9.heap.size):
  RPost B w E S F o (.returned (.tuple #[.bool true,.int .i64 0])) (w10.setCell ⟨E,3,none⟩ v9):=by
 obtain⟨c,d⟩:=aHH h8 hL hLd hb hd hi hg hr hl;obtain⟨f,i,h,a⟩:=aZ.1 hnew
 have b:apE S o=0:=by
  unfold apE;rw[if_neg (by simpa using f),if_neg (by omega),if_neg (by omega),if_neg (by omega)];exact a
 have j:=hc8.size;refine⟨by rw[hnew,b],News' F1 w8 w10, ?_,hc8.next d hF1,fun g hgg=> ?_⟩
 ·unfold apS;rw[hnew,if_pos rfl];exact⟨inv_next I hnew,gk,vb,vm,v9,c⟩
 ·rcases hgg with e | e
  ·exact hF1 g e
  ·exact qF (by omega)
end Xp
namespace Xq
open Go.RowKit Oz Ic Xp
open La (bel aC)
open Lj (BookAt)
theorem aAL:(prog.info? 97).map (fun i=>(i.zero,i.size,i.bytes))=some (some (.agg #[.int .i64 0,.int .i64 0,.int .i64 0,.string ⟨#[]⟩,.int .i64 0,.slice none 0 0]),6,72):=by kernel_rfl
theorem cB{W W':World}{h:Nat}{a b t:Int}{p:ByteArray}{c:Int}{v:Value}(s:Six W h a b t p c v)(hs:W'.heap[h]? =W.heap[h]?):Six W' h a b t p c v:=by
 obtain⟨d,e,f,g,i,j⟩:=s;exact⟨(aM hs).trans d,(aM hs).trans e,(aM hs).trans f,(aM hs).trans g,(aM hs).trans i,(aM hs).trans j⟩
variable {l:List Bm.Leaf}(B:Nat->Prop)(E:Nat)(S:Dq)(F:Nat->Prop)(a b t:Int)(p:ByteArray)(c:Int)(w:World)(vs:Value)(s:List Dt)
theorem aIr{p:ByteArray}(hb:Bm.bookE l=0)(hp:Pm.chk p.toList=0)(c:Int):Bm.writeE l p c=Bm.wrE l p c/\Bm.writeL l p c=Me.wrL l p c:=by
 have b:Bm.withE l p=0:=by unfold Bm.withE;simp[hb,hp]
 have a:Bm.writeE l p c=Bm.wrE l p c:=by unfold Bm.writeE;rw[if_neg (by simpa using b)]
 exact⟨a,by unfold Bm.writeL Me.wrL;rw[a]⟩
theorem aIn{p:ByteArray}(hb:Bm.bookE l=0)(hp:Pm.chk p.toList=0):Bm.strikeE l p=Bm.putE l p/\Bm.strikeL l p=Me.stL l p:=by
 have b:Bm.withE l p=0:=by unfold Bm.withE;simp[hb,hp]
 have a:Bm.strikeE l p=Bm.putE l p:=by unfold Bm.strikeE;rw[if_neg (by simpa using b)]
 exact⟨a,by unfold Bm.strikeL Me.stL;rw[a]⟩
theorem aH7{B:Nat->Prop}{w w1:World}(hB:∀g,B g->g<w.heap.size)(ho:w1.ownsRow w.heap.size 3 1 (.slice (some ⟨w.heap.size,0,none⟩) 8 8) 8 (List.replicate 8 (.int .i64 0)))(hb:zB w w1):
  ∃F,RefAt B (w1.alloc (.cells #[.slice none 0 0,.slice none 0 0,.slice (some ⟨w.heap.size,0,none⟩) 8 8,.slice none 0 0] 52)) w1.heap.size d0 F/\(∀g,F g->w.heap.size<=g)/\
   zB w (w1.alloc (.cells #[.slice none 0 0,.slice none 0 0,.slice (some ⟨w.heap.size,0,none⟩) 8 8,.slice none 0 0] 52)):=by
 have h:w.heap.size<w1.heap.size:=(aL ho w.heap.size rfl).1;have p:=hb.size;obtain⟨_,e | ⟨g,o,b,e,_,n,_,_,i,j⟩⟩:=id ho
 ·cases e.1
 ·injection e with e1 e2 e3
  injection e1 with e1
  injection e1 with e1
  subst e3;have c:zB w1 (w1.alloc (.cells #[.slice none 0 0,.slice none 0 0,.slice (some ⟨w.heap.size,0,none⟩) 8 8,.slice none 0 0] 52)):=(qD _ w1).alloc (qC _) _;have d:b.toList.length=8:=by simpa using i
  have f:b.toList=List.replicate 8 (zI 0):=by
   have k:=j;rw[qW (by rw[d];simp)] at k;exact k
  refine⟨fun x=>x=w1.heap.size\/x=w.heap.size,⟨inv_zero,w.heap.size,.slice none 0 0,.slice none 0 0,.slice none 0 0,⟨heap_alloc_new w1 _,⟨b, ?_,by rw[f];rfl⟩,Lj.BookAt.nil _,In.nil _,MksAt.nil _,In.nil _,⟨[],rfl,jT _ _ _ _,fun y hy=>(by cases hy)⟩,fun x hx=> ?_,fun x hx=> ?_,fun x hx=>by have:=hB x hx;have:=c.size;omega⟩⟩,fun x hx=> ?_,bel hb c⟩
  ·rw[c.block _ h,e1];exact n
  ·rcases hx with hx | hx | hx
   ·exact qH hx
   ·exact qF hx
   ·cases hx
  ·have l:(w1.alloc (.cells #[.slice none 0 0,.slice none 0 0,.slice (some ⟨w.heap.size,0,none⟩) 8 8,.slice none 0 0] 52)).heap.size=w1.heap.size+1:=by simp
   rcases hx with hx | hx<;>(rw[l];exact⟨fun e9=>by have:=hB x e9;omega,by omega⟩)
  ·rcases hx with hx | hx<;>omega
theorem aGg:(madeCells (Value.int .i64 0).cells (8*1)).toList=List.replicate 8 (.int .i64 0):=by kernel_rfl
theorem aHr(hB:∀g,B g->g<w.heap.size):Calls prog 21 #[] w fun e w'=>∃E F,e=.returned (.pointer (some ⟨E,0,none⟩))/\RefAt B w' E d0 F/\(∀g,F g->w.heap.size<=g)/\zB w w':=by
 obtain⟨f,h,a,b,c⟩:=info_parts Za.aAr;have d:=z9 hB;clear hB;go_in;go_wp2_with (at_make;refine wpList_make_full _ rfl (.const (zI 8)) (.const (zI 8)) 49 rfl w.heap.size 3 f z0 1 Tryz.underlying49 h a b .i64 .i64 8 8 8 rfl rfl rfl rfl (by rw[c];omega) (by unfold maxLen;omega) (qC _) ?_;intro w1 hown hgrow;have i:Hid (w1.ownsRow w.heap.size 3 1 (.slice (some (zW w)) 8 8) 8 (List.replicate 8 z0)):=(aGg▸hown);have j:Hid (zB w w1):=⟨hgrow.os,hgrow.tape,hgrow.output,hgrow.size,fun k hk=>hgrow.block k hk (by intro e;cases e)⟩;clear hown hgrow);go_ret;obtain⟨F,l,m,n⟩:=aH7 d.out i.out j.out;exact⟨_,F,rfl,l,m,n⟩
theorem aF4(w:World)(h:RefAt B w E S F)(hd:DtsAt w vs s)(hi:In B vs)(hp:p.size<=maxLen)(k:Int)(ho:opE ((a,b),t,p,c,s)=k)(h0:k≠0):
  Calls prog 71 #[.pointer (some ⟨E,0,none⟩),.agg #[.int .i64 a,.int .i64 b,.int .i64 t,.string p,.int .i64 c,vs]] w (RPost B w E S F ((a,b),t,p,c,s)):=by
 have i:=z9 h;obtain⟨I,z,A,C,D,l⟩:=h;have f:Hid (zB w (w.alloc (.cells #[zI a,zI b,zI t,.string p,zI c,vs] 97))):=(qD _ w).alloc (qC _) _;have m:=z9 (aT w a b t p c vs 97);have d:Hid (∀W,zB w W->Calls prog 91 #[.agg #[zI a,zI b,zI t,.string p,zI c,vs]] W fun e w'=>e=.returned (zI (opE ((a,b),t,p,c,s)))/\zB W w'):=fun W hb=>Ob.dR a b t p c vs s W hp (hd.below hb)
 have n:Hid (isNew S ((a,b),t,p,c,s)=false):=by unfold Hid isNew;rw[ho,decide_eq_false h0];rfl
 have o:Hid (apE S ((a,b),t,p,c,s)=k):=by unfold Hid apE;rw[ho,if_pos h0]
 rw[ho] at d;have r:(k==0)=false:=by simpa using h0
 have v:(k !=0)=true:=by simpa using h0
 clear hd hi hp ho l I;go_in;obtain⟨G,H,J,K,L,M⟩:=m.out;go_wp2_with fail;refine(d.out _ f.out).mono ?_;rintro e w2 ⟨rfl,g⟩;have j:=z9 (bel f.out g);clear g d;go_wp2_with fail;go_ret2;exact RPost.no i.out n.out o.out j.out
theorem aBf(w:World)(h:RefAt B w E S F)(hd:DtsAt w vs s)(hi:In B vs)(hp:p.size<=maxLen)(ho:opE ((a,b),t,p,c,s)=0)(hkn:b<=kn S a):
  Calls prog 71 #[.pointer (some ⟨E,0,none⟩),.agg #[.int .i64 a,.int .i64 b,.int .i64 t,.string p,.int .i64 c,vs]] w (RPost B w E S F ((a,b),t,p,c,s)):=by
 have R:=z9 h;obtain⟨I,H,vb,vm,vo,f⟩:=h;have k:Hid (zB w (w.alloc (.cells #[zI a,zI b,zI t,.string p,zI c,vs] 97))):=(qD _ w).alloc (qC _) _;have y:=z9 (aT w a b t p c vs 97);have l:Hid (∀W,zB w W->Calls prog 91 #[.agg #[zI a,zI b,zI t,.string p,zI c,vs]] W fun e w'=>e=.returned (zI (opE ((a,b),t,p,c,s)))/\zB W w'):=fun W hb=>Ob.dR a b t p c vs s W hp (hd.below hb)
 have HN:Hid (isNew S ((a,b),t,p,c,s)=false):=by
  unfold Hid;cases h9:isNew S ((a,b),t,p,c,s)
  ·rfl
  ·have h8:=aZ.1 h9;obtain⟨e1,g,T,e4⟩:=h8;simp only at g;omega
 have HE:Hid (apE S ((a,b),t,p,c,s)=0):=by unfold Hid apE;rw[if_neg (by simpa using ho)];simp only;rw[if_pos hkn]
 rw[ho] at l;obtain⟨d1,d2,d3,d4⟩:=bH.1 (aO.1 ho).1;simp only at d1 d2 d3 d4;obtain⟨q,J⟩:=zx (kn S a);have z:a.toNat-1<8:=by omega
 have m:(a-1).toNat=a.toNat-1:=by omega
 have a0:=z9 m
 have U:Hid (∀W,zB w W->W.cell? ⟨H,a.toNat-1,none⟩=some (zI q)):=fun W hb=>by
  obtain⟨a1,k1,k2⟩:=(f.below hb).kn;refine aB k1 ?_;have A:a.toNat-1<S.known.length:=by rw[I.klen];exact z
  rw[<-kJ,k2,qT,qB A,J];unfold kn;rw[m,qA,qB A];rfl
 obtain⟨po,V,co,C⟩:∃p n c,vo=.slice p n c:=by obtain⟨L,_,e,_⟩:=f.ops;obtain⟨p,n,c,g,_⟩:=aG e;exact⟨p,n,c,g⟩
 obtain⟨pb,nb,cb,X⟩:∃p n c,vb=.slice p n c:=by obtain⟨p,c,e,_⟩:=f.book;exact⟨_,_,_,e⟩
 obtain⟨pm,nm,cm,Y⟩:∃p n c,vm=.slice p n c:=by obtain⟨p,c,e,_⟩:=f.marks;exact⟨_,_,_,e⟩
 have a2:Hid (V=S.ops.length):=by
  obtain⟨L,_,e,_⟩:=f.ops;obtain⟨p,n,c,g,T⟩:=aG e;rw[C] at g;injection g with _ g _
  exact g.trans T.out
 have a3:=z9 f;subst C X Y;have Z:Hid (∀W,zB w W->W.heap[E]? =some (.cells #[.slice pb nb cb,.slice pm nm cm,.slice (some (zA H)) 8 8,.slice po V co] 52)):=fun W hb=>(f.below hb).blk
 have a4:0<=a-1:=by omega
 have a5:a-1<8:=by omega
 rw[<-J] at hkn;clear hd hi hp ho f I J z m;go_in;obtain⟨K,M,N,O,P,Q⟩:=y.out;go_wp2_with fail;refine(l.out _ k.out).mono ?_;rintro e w2 ⟨rfl,j⟩;have o:=z9 (bel k.out j);obtain⟨K,M,N,O,P,Q⟩:=y.out.below j;have G:=z9 (y.out.below j);have x2:=aB (Z.out w2 o.out) (i:=2) (u:=.slice (some (zA H)) 8 8) rfl;have xk:=U.out w2 o.out;clear j l y k;go_wp2_with fail;have a6:IntKind.i64.wrap (a-1)=a-1:=bG (by omega) (by omega);go_quiet (fail)
 generalize r:World.drewN _ _=wq;have aa:Hid (zB w wq):=by rw[<-r];exact aC o.out _
 have ab:Hid (Six wq w.heap.size a b t p c vs):=by rw[<-r];exact G.out
 clear r K M N O P Q x2 xk G;obtain⟨K,M,N,O,P,Q⟩:=ab.out;go_wp2_with fail;go_ret2;exact RPost.no R.out HN.out HE.out aa.out
theorem aGd(w:World)(h:RefAt B w E S F)(hd:DtsAt w vs s)(hi:In B vs)(hp:p.size<=maxLen)(ho:opE ((a,b),t,p,c,s)=0)(hkn:kn S a<b-1):
  Calls prog 71 #[.pointer (some ⟨E,0,none⟩),.agg #[.int .i64 a,.int .i64 b,.int .i64 t,.string p,.int .i64 c,vs]] w (RPost B w E S F ((a,b),t,p,c,s)):=by
 have R:=z9 h;obtain⟨I,H,vb,vm,vo,f⟩:=h;have k:Hid (zB w (w.alloc (.cells #[zI a,zI b,zI t,.string p,zI c,vs] 97))):=(qD _ w).alloc (qC _) _;have y:=z9 (aT w a b t p c vs 97);have l:Hid (∀W,zB w W->Calls prog 91 #[.agg #[zI a,zI b,zI t,.string p,zI c,vs]] W fun e w'=>e=.returned (zI (opE ((a,b),t,p,c,s)))/\zB W w'):=fun W hb=>Ob.dR a b t p c vs s W hp (hd.below hb)
 have HN:Hid (isNew S ((a,b),t,p,c,s)=false):=by
  unfold Hid;cases h9:isNew S ((a,b),t,p,c,s)
  ·rfl
  ·have h8:=aZ.1 h9;obtain⟨e1,g,T,e4⟩:=h8;simp only at g;omega
 have HE:Hid (apE S ((a,b),t,p,c,s)=6):=by unfold Hid apE;rw[if_neg (by simpa using ho)];simp only;rw[if_neg (by omega),if_pos hkn]
 rw[ho] at l;obtain⟨d1,d2,d3,d4⟩:=bH.1 (aO.1 ho).1;simp only at d1 d2 d3 d4;obtain⟨q,J⟩:=zx (kn S a);have z:a.toNat-1<8:=by omega
 have m:(a-1).toNat=a.toNat-1:=by omega
 have a2:=z9 m
 have U:Hid (∀W,zB w W->W.cell? ⟨H,a.toNat-1,none⟩=some (zI q)):=fun W hb=>by
  obtain⟨a3,k1,k2⟩:=(f.below hb).kn;refine aB k1 ?_;have A:a.toNat-1<S.known.length:=by rw[I.klen];exact z
  rw[<-kJ,k2,qT,qB A,J];unfold kn;rw[m,qA,qB A];rfl
 obtain⟨po,V,co,C⟩:∃p n c,vo=.slice p n c:=by obtain⟨L,_,e,_⟩:=f.ops;obtain⟨p,n,c,g,_⟩:=aG e;exact⟨p,n,c,g⟩
 obtain⟨pb,nb,cb,X⟩:∃p n c,vb=.slice p n c:=by obtain⟨p,c,e,_⟩:=f.book;exact⟨_,_,_,e⟩
 obtain⟨pm,nm,cm,Y⟩:∃p n c,vm=.slice p n c:=by obtain⟨p,c,e,_⟩:=f.marks;exact⟨_,_,_,e⟩
 have a4:Hid (V=S.ops.length):=by
  obtain⟨L,_,e,_⟩:=f.ops;obtain⟨p,n,c,g,T⟩:=aG e;rw[C] at g;injection g with _ g _
  exact g.trans T.out
 have a5:=z9 f;subst C X Y;have Z:Hid (∀W,zB w W->W.heap[E]? =some (.cells #[.slice pb nb cb,.slice pm nm cm,.slice (some (zA H)) 8 8,.slice po V co] 52)):=fun W hb=>(f.below hb).blk
 have a6:0<=a-1:=by omega
 have a7:a-1<8:=by omega
 rw[<-J] at hkn;have ax:¬b<=q:=by omega
 clear hd hi hp ho f I J z m;go_in;obtain⟨K,M,N,O,P,Q⟩:=y.out;go_wp2_with fail;refine(l.out _ k.out).mono ?_;rintro e w2 ⟨rfl,j⟩;have o:=z9 (bel k.out j);obtain⟨K,M,N,O,P,Q⟩:=y.out.below j;have G:=z9 (y.out.below j);have x2:=aB (Z.out w2 o.out) (i:=2) (u:=.slice (some (zA H)) 8 8) rfl;have xk:=U.out w2 o.out;clear j l y k;go_wp2_with fail;have a8:IntKind.i64.wrap (a-1)=a-1:=bG (by omega) (by omega);go_quiet (fail)
 generalize r:World.drewN _ _=wq;have aa:Hid (zB w wq):=by rw[<-r];exact aC o.out _
 have ab:Hid (Six wq w.heap.size a b t p c vs):=by rw[<-r];exact G.out
 clear r K M N O P Q x2 xk G;obtain⟨K,M,N,O,P,Q⟩:=ab.out;go_wp2_with fail;go_ret2;exact RPost.no R.out HN.out HE.out aa.out
theorem aH4(w:World)(h:RefAt B w E S F)(hd:DtsAt w vs s)(hi:In B vs)(hp:p.size<=maxLen)(ho:opE ((a,b),t,p,c,s)=0)(hkn:kn S a+1=b)(hf:400<=S.ops.length):
  Calls prog 71 #[.pointer (some ⟨E,0,none⟩),.agg #[.int .i64 a,.int .i64 b,.int .i64 t,.string p,.int .i64 c,vs]] w (RPost B w E S F ((a,b),t,p,c,s)):=by
 have V:=z9 h;obtain⟨I,M,vb,vm,vo,f⟩:=h;have k:Hid (zB w (w.alloc (.cells #[zI a,zI b,zI t,.string p,zI c,vs] 97))):=(qD _ w).alloc (qC _) _;have y:=z9 (aT w a b t p c vs 97);have l:Hid (∀W,zB w W->Calls prog 91 #[.agg #[zI a,zI b,zI t,.string p,zI c,vs]] W fun e w'=>e=.returned (zI (opE ((a,b),t,p,c,s)))/\zB W w'):=fun W hb=>Ob.dR a b t p c vs s W hp (hd.below hb)
 have HN:Hid (isNew S ((a,b),t,p,c,s)=false):=by
  unfold Hid;cases h9:isNew S ((a,b),t,p,c,s)
  ·rfl
  ·have h8:=aZ.1 h9;obtain⟨e1,g,X,e4⟩:=h8;simp only at g;omega
 have HE:Hid (apE S ((a,b),t,p,c,s)=4):=by unfold Hid apE;rw[if_neg (by simpa using ho)];simp only;rw[if_neg (by omega),if_neg (by omega),if_pos hf]
 rw[ho] at l;obtain⟨d1,d2,d3,d4⟩:=bH.1 (aO.1 ho).1;simp only at d1 d2 d3 d4;obtain⟨q,N⟩:=zx (kn S a);have A:a.toNat-1<8:=by omega
 have m:(a-1).toNat=a.toNat-1:=by omega
 have a4:=z9 m
 have Y:Hid (∀W,zB w W->W.cell? ⟨M,a.toNat-1,none⟩=some (zI q)):=fun W hb=>by
  obtain⟨a5,k1,k2⟩:=(f.below hb).kn;refine aB k1 ?_;have C:a.toNat-1<S.known.length:=by rw[I.klen];exact A
  rw[<-kJ,k2,qT,qB C,N];unfold kn;rw[m,qA,qB C];rfl
 obtain⟨Z,z,co,D⟩:∃p n c,vo=.slice p n c:=by obtain⟨L,_,e,_⟩:=f.ops;obtain⟨p,n,c,g,_⟩:=aG e;exact⟨p,n,c,g⟩
 obtain⟨pb,nb,cb,ab⟩:∃p n c,vb=.slice p n c:=by obtain⟨p,c,e,_⟩:=f.book;exact⟨_,_,_,e⟩
 obtain⟨pm,nm,cm,ac⟩:∃p n c,vm=.slice p n c:=by obtain⟨p,c,e,_⟩:=f.marks;exact⟨_,_,_,e⟩
 have ad:Hid (z=S.ops.length):=by
  obtain⟨L,_,e,_⟩:=f.ops;obtain⟨p,n,c,g,X⟩:=aG e;rw[D] at g;injection g with _ g _
  exact g.trans X.out
 have a6:=z9 f;subst D ab ac;have H:Hid (∀W,zB w W->W.heap[E]? =some (.cells #[.slice pb nb cb,.slice pm nm cm,.slice (some (zA M)) 8 8,.slice Z z co] 52)):=fun W hb=>(f.below hb).blk
 have a7:0<=a-1:=by omega
 have a8:a-1<8:=by omega
 rw[<-N] at hkn;have az:¬b<=q:=by omega
 have a0:¬q<b-1:=by omega
 have a9:(400:Int)<=z:=by have:=ad.out;omega
 clear hd hi hp ho f I N A m hf;go_in;obtain⟨O,P,Q,R,T,U⟩:=y.out;go_wp2_with fail;refine(l.out _ k.out).mono ?_;rintro e w2 ⟨rfl,j⟩;have o:=z9 (bel k.out j);obtain⟨O,P,Q,R,T,U⟩:=y.out.below j;have J:=z9 (y.out.below j);have x2:=aB (H.out w2 o.out) (i:=2) (u:=.slice (some (zA M)) 8 8) rfl;have xk:=Y.out w2 o.out;clear j l y k;go_wp2_with fail;have ba:IntKind.i64.wrap (a-1)=a-1:=bG (by omega) (by omega);go_quiet (fail)
 generalize r:World.drewN _ _=wq;have K:Hid (zB w wq):=by rw[<-r];exact aC o.out _
 have ae:Hid (Six wq w.heap.size a b t p c vs):=by rw[<-r];exact J.out
 clear r O P Q R T U x2 xk J;obtain⟨O,P,Q,R,T,U⟩:=ae.out;have x3:=aB (H.out wq K.out) (i:=3) (u:=.slice Z z co) rfl;go_wp2_with fail;go_ret2;exact RPost.no V.out HN.out HE.out K.out
end Xq
end Go.Proofs.YtjcemlmlfoilmaaGreatDoor
