import Derived.Test.YtlmdchpbpgcfmaaGreatDoorJ3
import Derived.Test.YtlmdchpbpgcfmaaGreatDoorJ6
import Derived.Test.YtlmdchpbpgcfmaaGreatDoorJ7
import Derived.Test.YtlmdchpbpgcfmaaGreatDoorJ9
import Derived.Maps.OwnSet
import Derived.Test.YtlmdchpbpgcfmaaGreatDoorJ8
import Derived.Deep.RegionHeld3
import Derived.Deep.RegionWith
import Derived.RegionTactic
import Derived.BigRegion
import Derived.Test.YtlmdchpbpgcfmaaGreatDoorJ5
set_option linter.unusedSimpArgs false
set_option linter.unusedVariables false
set_option maxRecDepth 100000
set_option maxHeartbeats 8000000
/- Docs in memory: what lies there, which blocks are a doc's own, and that it stays while other blocks are written. -/
namespace Go.Proofs.YtlmdchpbpgcfmaaGreatDoor
namespace Ia
open Go.ChangeShapes Go.WideShapes Go.ChangeAt Go.RowKit Cm Ka Kb Na Om Oa Oz Oc Og Oi Hm
open La (bel bel_drew errV_zero errV_ne own_ge own_grow own_below Lies)
open Lj (BookAt BookNew)
/- a slice lies in blocks of G, or it is empty; blocks of G are as they were -/
def In (G:Nat→Prop) (v:Value):Prop:=∀(a:Addr) (n c:Nat),v=.slice (some a) n c→0<n→G a.block
def Stay (G:Nat→Prop) (w w':World):Prop:=∀g,G g→w'.heap[g]? =w.heap[g]?
theorem In.mono {G H:Nat→Prop} {v:Value} (h:In G v) (hs:∀g,G g→H g):In H v:=fun a n c e hn=>hs _ (h a n c e hn)
theorem In.nil (G:Nat→Prop):In G (.slice none 0 0):=fun a n c e _=>by cases e
theorem In.loc {B:Nat} {v:Value} (h:Lies B v):In (fun g=>B≤g) v:=h
/- w' is w but for blocks of F, and new ones -/
structure Chg (F:Nat→Prop) (w w':World):Prop where
 os:w'.os=w.os
 tape:w'.tape=w.tape
 output:w'.output=w.output
 size:w.heap.size≤w'.heap.size
 block:∀g,g<w.heap.size→¬F g→w'.heap[g]? =w.heap[g]?
theorem Chg.refl (F:Nat→Prop) (w:World):Chg F w w:=⟨rfl,rfl,rfl,Nat.le_refl _,fun _ _ _=>rfl⟩
theorem Chg.trans {F:Nat→Prop} {a b c:World} (h:Chg F a b) (k:Chg F b c):Chg F a c:=
 ⟨k.os.trans h.os,k.tape.trans h.tape,k.output.trans h.output,Nat.le_trans h.size k.size,fun g hg hf=>(k.block g (Nat.lt_of_lt_of_le hg h.size) hf).trans (h.block g hg hf)⟩
/- .. where the second step's blocks are those of the first one's, or new -/
theorem Chg.next {F H:Nat→Prop} {a b c:World} (h:Chg F a b) (k:Chg H b c) (hH:∀g,H g→F g∨a.heap.size≤g):Chg F a c:=
 ⟨k.os.trans h.os,k.tape.trans h.tape,k.output.trans h.output,Nat.le_trans h.size k.size,fun g hg hf=>(k.block g (Nat.lt_of_lt_of_le hg h.size) (fun hh=>by rcases hH g hh with e | e;exact hf e;omega)).trans (h.block g hg hf)⟩
theorem Chg.mono {F H:Nat→Prop} {a b:World} (h:Chg F a b) (hs:∀g,F g→H g):Chg H a b:=⟨h.os,h.tape,h.output,h.size,fun g hg hf=>h.block g hg (fun hh=>hf (hs g hh))⟩
theorem Chg.ofBelow {w w':World} (h:Below w.heap.size w w') (F:Nat→Prop):Chg F w w':=⟨h.os,h.tape,h.output,h.size,fun g hg _=>h.block g hg⟩
theorem Chg.below {F:Nat→Prop} {B:Nat} {w0 w w':World} (h:Chg F w w') (hF:∀g,F g→B≤g) (hb:Below B w0 w) (hB:B≤w.heap.size):Below B w0 w':=
 hb.trans ⟨h.os,h.tape,h.output,h.size,fun g hg=>h.block g (Nat.lt_of_lt_of_le hg hB) (fun e=>by have:=hF g e;omega)⟩
theorem Chg.stay {F G:Nat→Prop} {w w':World} (h:Chg F w w') (hG:∀g,G g→g<w.heap.size∧¬F g):Stay G w w':=fun g hg=>h.block g (hG g hg).1 (hG g hg).2
theorem Chg.grown {F:Nat→Prop} {w w':World} {r:Option Nat} (h:w.grownBy w' r) (hr:∀g,r=some g→F g):Chg F w w':=
 ⟨h.os,h.tape,h.output,h.size,fun g hg hf=>h.block g hg (fun e=>hf (hr g e.symm))⟩
theorem Chg.setCell {F:Nat→Prop} {w0 w:World} (h:Chg F w0 w) {p:Addr} (hp:F p.block) (v:Value):Chg F w0 (w.setCell p v):=
 ⟨h.os,h.tape,h.output,by rw[show(w.setCell p v).heap.size=w.heap.size by simp];exact h.size,fun g hg hf=>by rw[Oi.set_block w p v g (fun e=>hf (e▸hp))];exact h.block g hg hf⟩
theorem cell_stay {w w':World} {b q:Nat} (h:w'.heap[b]? =w.heap[b]?):w'.cell? ⟨b,q,none⟩=w.cell? ⟨b,q,none⟩:=World.cell?_of_block (w:=w) h
theorem book_stay {G:Nat→Prop} {w w':World} {v:Value} {l:List Bm.Leaf} (h:BookAt w v l) (hi:In G v) (hs:Stay G w w'):BookAt w' v l:=by
 obtain⟨p,c,rfl,hl,h3⟩:=h
 refine⟨p,c,rfl, ?_,h3⟩
 rcases hl with e | ⟨b,o,rfl,hc⟩
 ·exact Or.inl e
 ·by_cases e:l=[]
  ·exact Or.inl e
  ·have hg:=hs b (hi _ _ _ rfl (List.length_pos_iff.2 e))
   refine Or.inr ⟨b,o,rfl,fun j hj=> ?_⟩
   obtain⟨h1,h2,h3⟩:=hc j hj
   exact⟨(cell_stay hg).trans h1,(cell_stay hg).trans h2,(cell_stay hg).trans h3⟩
theorem marks_stay {G:Nat→Prop} {w w':World} {v:Value} {l:List Mk} (h:MksAt w v l) (hi:In G v) (hs:Stay G w w'):MksAt w' v l:=by
 obtain⟨p,c,rfl,hl,h3⟩:=h
 refine⟨p,c,rfl, ?_,h3⟩
 rcases hl with e | ⟨b,o,rfl,hc⟩
 ·exact Or.inl e
 ·by_cases e:l=[]
  ·exact Or.inl e
  ·have hg:=hs b (hi _ _ _ rfl (List.length_pos_iff.2 e))
   refine Or.inr ⟨b,o,rfl,fun j hj=> ?_⟩
   obtain⟨h1,h2,h3⟩:=hc j hj
   exact⟨(cell_stay hg).trans h1,(cell_stay hg).trans h2,(cell_stay hg).trans h3⟩
theorem dots_stay {G:Nat→Prop} {w w':World} {v:Value} {l:List Dt} (h:DtsAt w v l) (hi:In G v) (hs:Stay G w w'):DtsAt w' v l:=by
 obtain⟨p,c,rfl,hl,h3⟩:=h
 refine⟨p,c,rfl, ?_,h3⟩
 rcases hl with e | ⟨b,o,rfl,hc⟩
 ·exact Or.inl e
 ·by_cases e:l=[]
  ·exact Or.inl e
  ·have hg:=hs b (hi _ _ _ rfl (List.length_pos_iff.2 e))
   refine Or.inr ⟨b,o,rfl,fun j hj=> ?_⟩
   obtain⟨h1,h2⟩:=hc j hj
   exact⟨(cell_stay hg).trans h1,(cell_stay hg).trans h2⟩
/- what is known: a row of ints -/
def KnAt (w:World) (v:Value) (l:List Int):Prop:=∃p c,v=.slice p l.length c∧Za.IntsIn w p l
theorem KnAt.below {w w':World} {v:Value} {l:List Int} (h:KnAt w v l) (hb:Below w.heap.size w w'):KnAt w' v l:=by
 obtain⟨p,c,h1,h2⟩:=h
 exact⟨p,c,h1,h2.below hb⟩
theorem known_stay {G:Nat→Prop} {w w':World} {v:Value} {l:List Int} (h:KnAt w v l) (hi:In G v) (hs:Stay G w w'):KnAt w' v l:=by
 obtain⟨p,c,rfl,hl⟩:=h
 refine⟨p,c,rfl, ?_⟩
 rcases hl with e | ⟨b,o,rfl,hc⟩
 ·exact Or.inl e
 ·by_cases e:l=[]
  ·exact Or.inl e
  ·have hg:=hs b (hi _ _ _ rfl (List.length_pos_iff.2 e))
   exact Or.inr ⟨b,o,rfl,fun j hj=>(cell_stay hg).trans (hc j hj)⟩
/- a row of the call's own stays with its block -/
theorem own_stay {w w':World} {base:Nat} {t:TypeId} {z:Nat} {v:Value} {n:Nat} {xs:List Value} (h:w.ownsRow base t z v n xs) (hs:∀g,v.ownBlock=some g→w'.heap[g]? =w.heap[g]?):w'.ownsRow base t z v n xs:=by
 refine⟨h.1, ?_⟩
 rcases h.2 with h0 | ⟨g,cap,cur,h1,h2,h3,h4⟩
 ·exact Or.inl h0
 ·exact Or.inr ⟨g,cap,cur,h1,h2,by rw[hs g (by rw[h1];rfl)];exact h3,h4⟩
theorem own_lt {w:World} {base:Nat} {t:TypeId} {z:Nat} {v:Value} {n:Nat} {xs:List Value} (h:w.ownsRow base t z v n xs):∀g,v.ownBlock=some g→g<w.heap.size∧∃cur,w.heap[g]? =some (.cells cur t (0,0)):=by
 intro g hg
 refine⟨(h.lt g hg).2, ?_⟩
 rcases h.2 with⟨e,_⟩ | ⟨g',cap,cur,e,_,h3,_⟩
 ·rw[e] at hg;cases hg
 ·rw[e] at hg;injection hg with hg;rw[←hg];exact⟨cur,h3⟩
theorem own_base {w:World} {base:Nat} {t:TypeId} {z:Nat} {v:Value} {n:Nat} {xs:List Value} (h:w.ownsRow base t z v n xs):w.ownsRow 0 t z v n xs:=by
 refine⟨h.1, ?_⟩
 rcases h.2 with h0 | ⟨g,cap,cur,h1,h2,h3⟩
 ·exact Or.inl h0
 ·exact Or.inr ⟨g,cap,cur,h1,Nat.zero_le _,h3⟩
/- the ops as they came: a row of the doc's own; what they saw lies in blocks of G -/
def OpsOwn (w:World) (G:Nat→Prop) (v:Value) (l:List Ox):Prop:=∃L:List (Ox × Value),L.map (·.1)=l∧w.ownsRow 0 75 6 v l.length (flatO L)∧∀y ∈ L,DtsAt w y.2 y.1.2.2.2.2∧In G y.2
theorem ops_stay {G:Nat→Prop} {w w':World} {v:Value} {l:List Ox} (h:OpsOwn w G v l) (hv:∀g,v.ownBlock=some g→w'.heap[g]? =w.heap[g]?) (hs:Stay G w w'):OpsOwn w' G v l:=by
 obtain⟨L,h1,h2,h3⟩:=h
 exact⟨L,h1,own_stay h2 hv,fun y hy=>⟨dots_stay (h3 y hy).1 (h3 y hy).2 hs,(h3 y hy).2⟩⟩
theorem OpsOwn.at{G:Nat→Prop} {w:World} {v:Value} {l:List Ox} (h:OpsOwn w G v l):OpsAt w v l:=by
 obtain⟨L,h1,h2,h3⟩:=h
 rw[←h1]
 rw[←h1,List.length_map] at h2
 exact own_ops h2 (fun y hy=>(h3 y hy).1)
/- what joins saw that is still to come: dots, and the places at which they were seen -/
abbrev Ent:=Dt × Value × List ByteArray
abbrev pr (e:MapEntry):Value × Value:=(e.key,e.val)
abbrev pm (x:Ent):Value × Value:=(aggD x.1,x.2.1)
/- its entries' stamps are apart, and below its clock -/
def Born (es:List MapEntry) (clock:Nat):Prop:=(∀e ∈ es,e.born<clock)∧(es.map (·.born)).Nodup
def MapAt (w:World) (B:Nat) (M:List Ent):Prop:=∃es clock,w.heap[B]? =some (.map es clock)∧es.toList.map pr=M.map pm∧Born es.toList clock
def RowS (w:World) (v:Value) (l:List ByteArray):Prop:=w.ownsRow 0 9 1 v l.length (l.map Value.string)
def getV (M:List Ent) (d:Dt):Value:=match M.find? (fun x=>decide (x.1=d)) with | some x=>x.2.1 | none=> .slice none 0 0
def getJ (M:List Ent) (d:Dt):List ByteArray:=match M.find? (fun x=>decide (x.1=d)) with | some x=>x.2.2 | none=>[]
/- where the parts of a doc lie -/
structure Mem where
 D:Nat
 vb:Value
 vm:Value
 vk:Value
 vo:Value
 B:Nat
 M:List Ent
/- the blocks that are written again -/
def Wr (m:Mem) (g:Nat):Prop:=g=m.D∨g=m.B∨m.vo.ownBlock=some g∨∃x ∈ m.M,x.2.1.ownBlock=some g
structure DocMem (w:World) (m:Mem) (S:Dq) (G:Nat→Prop):Prop where
 blk:w.heap[m.D]? =some (.cells #[m.vb,m.vm,m.vk,m.vo,.map (some m.B)] 109)
 book:BookAt w m.vb S.book
 bookG:In G m.vb
 marks:MksAt w m.vm S.marks
 marksG:In G m.vm
 known:KnAt w m.vk S.known
 knownG:In G m.vk
 ops:OpsOwn w G m.vo S.ops
 map:MapAt w m.B m.M
 rows:∀x ∈ m.M,RowS w x.2.1 x.2.2
 apart:m.M.Pairwise fun x y=>∀g,x.2.1.ownBlock=some g→y.2.1.ownBlock≠some g
 lt:∀g,G g→g<w.heap.size
 off:∀g,G g→¬Wr m g
theorem DocMem.wr_lt {w:World} {m:Mem} {S:Dq} {G:Nat→Prop} (h:DocMem w m S G):∀g,Wr m g→g<w.heap.size:=by
 rintro g (rfl | rfl | hg | ⟨x,hx,hg⟩)
 ·exact(Array.getElem?_eq_some_iff.1 h.blk).1
 ·obtain⟨es,clock,hb,_⟩:=h.map;exact(Array.getElem?_eq_some_iff.1 hb).1
 ·obtain⟨L,_,h2,_⟩:=h.ops;exact(own_lt h2 g hg).1
 ·exact(own_lt (h.rows x hx) g hg).1
theorem DocMem.stay {w w':World} {m:Mem} {S:Dq} {G:Nat→Prop} (h:DocMem w m S G) (hs:Stay (fun g=>G g∨Wr m g) w w') (hz:w.heap.size≤w'.heap.size):DocMem w' m S G:=by
 have hG:Stay G w w':=fun g hg=>hs g (Or.inl hg)
 refine⟨by rw[hs _ (Or.inr (Or.inl rfl))];exact h.blk,book_stay h.book h.bookG hG,h.bookG,marks_stay h.marks h.marksG hG,h.marksG,known_stay h.known h.knownG hG,h.knownG,ops_stay h.ops (fun g hg=>hs g (Or.inr (Or.inr (Or.inr (Or.inl hg))))) hG, ?_,fun x hx=>own_stay (h.rows x hx) (fun g hg=>hs g (Or.inr (Or.inr (Or.inr (Or.inr ⟨x,hx,hg⟩))))),h.apart,fun g hg=>Nat.lt_of_lt_of_le (h.lt g hg) hz,h.off⟩
 obtain⟨es,clock,hb,he⟩:=h.map
 exact⟨es,clock,by rw[hs _ (Or.inr (Or.inr (Or.inl rfl)))];exact hb,he⟩
theorem DocMem.below {w w':World} {m:Mem} {S:Dq} {G:Nat→Prop} (h:DocMem w m S G) (hb:Below w.heap.size w w'):DocMem w' m S G:=
 h.stay (fun g hg=>hb.block g (by rcases hg with e | e;exact h.lt g e;exact h.wr_lt g e)) hb.size
/- more blocks may be the doc's -/
theorem DocMem.more {w:World} {m:Mem} {S:Dq} {G H:Nat→Prop} (h:DocMem w m S G) (hG:∀g,G g→H g) (hl:∀g,H g→g<w.heap.size) (ho:∀g,H g→¬Wr m g):DocMem w m S H:=by
 obtain⟨L,o1,o2,o3⟩:=h.ops
 exact⟨h.blk,h.book,h.bookG.mono hG,h.marks,h.marksG.mono hG,h.known,h.knownG.mono hG,⟨L,o1,o2,fun y hy=>⟨(o3 y hy).1,(o3 y hy).2.mono hG⟩⟩,h.map,h.rows,h.apart,hl,ho⟩
/- what the places that are kept mean -/
def Jn (M:List Ent) (S:Dq):Prop:=∀(d:Dt) (p:ByteArray),dotE d.1 d.2=0→kn S d.1<d.2→(p ∈ getJ M d↔saw S.ops p d=true)
structure DocOk (w:World) (m:Mem) (S:Dq) (G:Nat→Prop):Prop where
 mem:DocMem w m S G
 inv:Inv S
 jn:Jn m.M S
 short:∀x ∈ m.M,x.2.2.length≤40*S.ops.length
/- a doc at block D: its state, and all blocks that are its own -/
def DocAt (w:World) (D:Nat) (S:Dq) (F:Nat→Prop):Prop:=∃m G,m.D=D∧DocOk w m S G∧∀g,F g↔(G g∨Wr m g)
theorem DocAt.lt {w:World} {D:Nat} {S:Dq} {F:Nat→Prop} (h:DocAt w D S F):∀g,F g→g<w.heap.size:=by
 obtain⟨m,G,rfl,ok,hF⟩:=h
 intro g hg
 rcases(hF g).1 hg with e | e
 ·exact ok.mem.lt g e
 ·exact ok.mem.wr_lt g e
theorem DocAt.stay {w w':World} {D:Nat} {S:Dq} {F:Nat→Prop} (h:DocAt w D S F) (hs:Stay F w w') (hz:w.heap.size≤w'.heap.size):DocAt w' D S F:=by
 obtain⟨m,G,rfl,ok,hF⟩:=h
 exact⟨m,G,rfl,⟨ok.mem.stay (fun g hg=>hs g ((hF g).2 hg)) hz,ok.inv,ok.jn,ok.short⟩,hF⟩
theorem DocAt.below {w w':World} {D:Nat} {S:Dq} {F:Nat→Prop} (h:DocAt w D S F) (hb:Below w.heap.size w w'):DocAt w' D S F:=
 h.stay (fun g hg=>hb.block g (h.lt g hg)) hb.size
theorem DocAt.chg {w w':World} {D:Nat} {S:Dq} {F H:Nat→Prop} (h:DocAt w D S F) (hc:Chg H w w') (hd:∀g,F g→¬H g):DocAt w' D S F:=
 h.stay (hc.stay fun g hg=>⟨h.lt g hg,hd g hg⟩) hc.size
theorem DocAt.inv {w:World} {D:Nat} {S:Dq} {F:Nat→Prop} (h:DocAt w D S F):Inv S:=by
 obtain⟨m,G,_,ok,_⟩:=h;exact ok.inv
end Ia
end Go.Proofs.YtlmdchpbpgcfmaaGreatDoor
/- A map from dots to slices, as the program reads, writes and deletes in it. -/
namespace Go.Proofs.YtlmdchpbpgcfmaaGreatDoor
namespace Ib
open Go.ChangeShapes Go.WideShapes Go.ChangeAt Go.RowKit Go.MapKept Go.ChangeMaps Cm Ka Kb Na Om Oa Oz Oc Og Oi Hm Ia
open La (bel bel_drew errV_zero errV_ne own_ge own_grow own_below Lies)
theorem equal_dot (n a m b:Int) (w:World):(Op.equal 72 (.agg #[.int .i64 n,.int .i64 a]) (.agg #[.int .i64 m,.int .i64 b])).run Tryz.prog w=.ok (decide (((n,a):Dt)=(m,b))) w:=by
 have u3:=Tryz.underlying3
 have a3:=Tryz.isAgg3
 have z3:=Tryz.sizeOf3
 have hS:Tryz.prog.underlying 72=some (.struct (Tryz.prog.fieldsOf 72)):=by kernel_rfl
 have hp:Tryz.prog.stoodInHeld 72=false:=by kernel_rfl
 unfold Op.equal Op.maxDepth
 rw[show(10000:Nat)=9999+1 from rfl,run_equalIn_agg w 9999 72 _ _ hS hp]
 simp only[Program.fieldsOf,Tryz.underlying72]
 rw[Nk.dot_same]
 go_simp
 by_cases h2:n=m<;>by_cases h3:a=b<;>simp[h2,h3]
theorem check_key (e:Bool) (a b:Int) (w:World):(Instr.checkKey e 10000 72 (.agg #[.int .i64 a,.int .i64 b])).run Tryz.prog w=.ok () w:=by kernel_rfl
theorem zero_row (w:World):(zeroValue 35).run Tryz.prog w=.ok (.slice none 0 0) w:=by kernel_rfl
def findP (d:Dt):List Ent→Option (Nat × Value)
 | []=>none
 | x::M=>if d=x.1 then some (0,x.2.1) else(findP d M).map fun r=>(r.1+1,r.2)
def putM (d:Dt) (v:Value) (l:List ByteArray):List Ent→List Ent
 | []=>[(d,v,l)]
 | x::M=>if d=x.1 then(d,v,l)::M else x::putM d v l M
def delM (d:Dt):List Ent→List Ent
 | []=>[]
 | x::M=>if d=x.1 then M else x::delM d M
theorem getV_cons (x:Ent) (M:List Ent) (d:Dt):getV (x::M) d=if d=x.1 then x.2.1 else getV M d:=by
 unfold getV
 by_cases h:d=x.1
 ·rw[if_pos h,List.find?_cons_of_pos (by simp[h])]
 ·rw[if_neg h,List.find?_cons_of_neg (by simp;exact fun e=>h e.symm)]
theorem getJ_cons (x:Ent) (M:List Ent) (d:Dt):getJ (x::M) d=if d=x.1 then x.2.2 else getJ M d:=by
 unfold getJ
 by_cases h:d=x.1
 ·rw[if_pos h,List.find?_cons_of_pos (by simp[h])]
 ·rw[if_neg h,List.find?_cons_of_neg (by simp;exact fun e=>h e.symm)]
theorem getV_find (d:Dt):∀M:List Ent,getV M d=((findP d M).map (·.2)).getD (.slice none 0 0)
 | []=>rfl
 | x::M=>by
  rw[getV_cons]
  unfold findP
  by_cases h:d=x.1
  ·rw[if_pos h,if_pos h];rfl
  ·rw[if_neg h,if_neg h,getV_find d M,Option.map_map];rfl
theorem getJ_put (d e:Dt) (v:Value) (l:List ByteArray):∀M:List Ent,getJ (putM d v l M) e=if e=d then l else getJ M e
 | []=>by show getJ [(d,v,l)] e=_;rw[getJ_cons]
 | x::M=>by
  unfold putM
  by_cases h:d=x.1
  ·rw[if_pos h,getJ_cons,getJ_cons]
   by_cases h2:e=d
   ·rw[if_pos h2,if_pos h2]
   ·rw[if_neg h2,if_neg h2,if_neg (fun e9=>h2 (e9.trans h.symm))]
  ·rw[if_neg h,getJ_cons,getJ_cons,getJ_put d e v l M]
   by_cases h2:e=x.1
   ·rw[if_pos h2,if_neg (fun e9=>h (e9.symm.trans h2)),if_pos h2]
   ·rw[if_neg h2,if_neg h2]
theorem getJ_del (d e:Dt) (hne:e≠d):∀M:List Ent,getJ (delM d M) e=getJ M e
 | []=>rfl
 | x::M=>by
  unfold delM
  by_cases h:d=x.1
  ·rw[if_pos h,getJ_cons,if_neg (fun e9=>hne (e9.trans h.symm))]
  ·rw[if_neg h,getJ_cons,getJ_cons,getJ_del d e hne M]
theorem del_sub (d:Dt):∀M:List Ent,(delM d M).Sublist M
 | []=>List.Sublist.refl _
 | x::M=>by
  unfold delM
  by_cases h:d=x.1
  ·rw[if_pos h];exact List.sublist_cons_self x M
  ·rw[if_neg h];exact(del_sub d M).cons_cons x
theorem put_mem {d:Dt} {v:Value} {l:List ByteArray} {x:Ent}:∀{M:List Ent},x ∈ putM d v l M→x=(d,v,l)∨x ∈ M
 | [],h=>by left;simpa[putM] using h
 | y::M,h=>by
  unfold putM at h
  by_cases e:d=y.1
  ·rw[if_pos e] at h
   rcases List.mem_cons.1 h with h | h
   ·exact Or.inl h
   ·exact Or.inr (List.mem_cons_of_mem _ h)
  ·rw[if_neg e] at h
   rcases List.mem_cons.1 h with h | h
   ·exact Or.inr (by rw[h];exact List.mem_cons_self)
   ·rcases put_mem h with h | h
    ·exact Or.inl h
    ·exact Or.inr (List.mem_cons_of_mem _ h)
/- what stands at a dot, or nil -/
theorem get_mem (d:Dt):∀M:List Ent,(getV M d=.slice none 0 0∧getJ M d=[])∨∃x ∈ M,x.2.1=getV M d∧x.2.2=getJ M d
 | []=>Or.inl ⟨rfl,rfl⟩
 | x::M=>by
  rw[getV_cons,getJ_cons]
  by_cases h:d=x.1
  ·rw[if_pos h,if_pos h];exact Or.inr ⟨x,List.mem_cons_self,rfl,rfl⟩
  ·rw[if_neg h,if_neg h]
   rcases get_mem d M with e | ⟨y,hy,e⟩
   ·exact Or.inl e
   ·exact Or.inr ⟨y,List.mem_cons_of_mem _ hy,e⟩
/- rows that lie apart stay apart when one is set that lies in its own row, or in a new block -/
def Sep (x y:Ent):Prop:=∀g,x.2.1.ownBlock=some g→y.2.1.ownBlock≠some g
theorem put_apart {d:Dt} {v:Value} {l:List ByteArray}:∀{M:List Ent},M.Pairwise Sep→(∀g,v.ownBlock=some g→(getV M d).ownBlock=some g∨∀x ∈ M,x.2.1.ownBlock≠some g)→(putM d v l M).Pairwise Sep
 | [],h,hv=>by unfold putM;exact List.pairwise_singleton _ _
 | x::M,h,hv=>by
  obtain⟨h1,h2⟩:=List.pairwise_cons.1 h
  unfold putM
  by_cases e:d=x.1
  ·rw[if_pos e]
   refine List.pairwise_cons.2 ⟨fun y hy g hg=> ?_,h2⟩
   rcases hv g hg with h9 | h9
   ·rw[getV_cons,if_pos e] at h9;exact h1 y hy g h9
   ·exact h9 y (List.mem_cons_of_mem _ hy)
  ·rw[if_neg e]
   have hv2:∀g,v.ownBlock=some g→(getV M d).ownBlock=some g∨∀x ∈ M,x.2.1.ownBlock≠some g:=fun g hg=>by
    rcases hv g hg with h9 | h9
    ·rw[getV_cons,if_neg e] at h9;exact Or.inl h9
    ·exact Or.inr fun y hy=>h9 y (List.mem_cons_of_mem _ hy)
   refine List.pairwise_cons.2 ⟨fun y hy g hg=> ?_,put_apart h2 hv2⟩
   rcases put_mem hy with rfl | hy
   ·intro hg2
    rcases hv g hg2 with h9 | h9
    ·rw[getV_cons,if_neg e] at h9
     rcases get_mem d M with⟨e0,_⟩ | ⟨z,hz,e0,_⟩
     ·rw[e0] at h9;cases h9
     ·rw[←e0] at h9;exact h1 z hz g hg h9
    ·exact h9 x List.mem_cons_self hg
   ·exact h1 y hy g hg
theorem find_asking (d:Dt) (w:World):∀(M:List Ent) (es:List MapEntry) (i:Nat),es.map pr=M.map pm→
  (Instr.findAsking 72 (aggD d) es i).run Tryz.prog w=.ok ((findP d M).map fun r=>(i+r.1,r.2)) w
 | [],es,i,h=>by
  have:es=[]:=by simpa using h
  subst this
  rfl
 | x::M,[],i,h=>by simp at h
 | x::M,e::es,i,h=>by
  simp only[List.map_cons,List.cons.injEq,Prod.mk.injEq] at h
  obtain⟨⟨h1,h2⟩,h3⟩:=h
  unfold Instr.findAsking
  obtain⟨⟨x1,x2⟩,xv,xl⟩:=x
  obtain⟨d1,d2⟩:=d
  have q:=equal_dot d1 d2 x1 x2 w
  simp only[aggD] at h1
  rw[h1]
  simp only[aggD,Sem.run_bind,q,Result.andThen]
  unfold findP
  by_cases hd:((d1,d2):Dt)=(x1,x2)
  ·rw[decide_eq_true hd,if_pos rfl,if_pos hd,h2];rfl
  ·rw[decide_eq_false hd,if_neg hd]
   have ih:=find_asking (d1,d2) w M es (i+1) h3
   simp only[aggD] at ih
   rw[if_neg (by decide),ih]
   cases findP (d1,d2) M with
   | none=>rfl
   | some r=>simp only[Option.map_some];rw[show i+1+r.1=i+(r.1+1) by omega]
theorem find_key (d:Dt) (w:World) (M:List Ent) (es:List MapEntry) (h:es.map pr=M.map pm):
  (Instr.findKey 72 (aggD d) es).run Tryz.prog w=.ok (findP d M) w:=by
 have hS:Tryz.prog.underlying 72=some (.struct (Tryz.prog.fieldsOf 72)):=by kernel_rfl
 have ha:=find_asking d w M es 0 h
 have hz:((findP d M).map fun r=>(0+r.1,r.2))=findP d M:=by
  cases findP d M with
  | none=>rfl
  | some r=>simp
 rw[hz] at ha
 unfold Instr.findKey
 rw[Sem.run_bind,run_underlying hS]
 simp only[Result.andThen]
 cases es with
 | nil=>
  have:M=[]:=by simpa using h.symm
  subst this
  rfl
 | cons e es=>
  have:Instr.findNow (.struct (Tryz.prog.fieldsOf 72)) (aggD d) (e::es) 0=none:=by
   unfold Instr.findNow
   simp[Instr.sameNow]
  rw[this]
  exact ha
theorem set_eq {M:List Ent} {d:Dt} {i:Nat} {u v:Value} {l:List ByteArray}:∀{es:List MapEntry},es.map pr=M.map pm→findP d M=some (i,u)→∀f:MapEntry→MapEntry,(∀e,e.key=aggD d→pr (f e)=(aggD d,v))→(es.modify i f).map pr=(putM d v l M).map pm∧(es[i]?).map (·.key)=some (aggD d):=by
 induction M generalizing i with
 | nil=>intro es h hf;cases hf
 | cons x M ih=>
  intro es h hf f hfe
  cases es with
  | nil=>simp at h
  | cons e es=>
   simp only[List.map_cons,List.cons.injEq,Prod.mk.injEq] at h
   obtain⟨⟨h1,h2⟩,h3⟩:=h
   unfold findP at hf
   unfold putM
   by_cases hd:d=x.1
   ·rw[if_pos hd] at hf ⊢
    injection hf with hf
    injection hf with hf1 hf2
    subst hf1
    refine⟨?_,by simp[h1,hd]⟩
    have hfx:=hfe e (by rw[h1,hd])
    simp only[List.modify_zero_cons,List.map_cons,List.cons.injEq]
    exact⟨hfx,h3⟩
   ·rw[if_neg hd] at hf ⊢
    cases hq:findP d M with
    | none=>rw[hq] at hf;cases hf
    | some r=>
     rw[hq] at hf
     obtain⟨j,u2⟩:=r
     simp only[Option.map_some,Option.some.injEq,Prod.mk.injEq] at hf
     obtain⟨rfl,rfl⟩:=hf
     have:=ih h3 hq f hfe
     refine⟨?_, ?_⟩
     ·rw[List.modify_succ_cons]
      simp only[List.map_cons,List.cons.injEq,Prod.mk.injEq]
      exact⟨⟨h1,h2⟩,this.1⟩
     ·simpa using this.2
theorem push_eq {M:List Ent} {d:Dt} {v:Value} {l:List ByteArray} (hf:findP d M=none):putM d v l M=M++[(d,v,l)]:=by
 induction M with
 | nil=>rfl
 | cons x M ih=>
  unfold findP at hf
  unfold putM
  by_cases hd:d=x.1
  ·rw[if_pos hd] at hf;cases hf
  ·rw[if_neg hd] at hf ⊢
   rw[ih (by simpa using hf)];rfl
theorem erase_eq {M:List Ent} {d:Dt} {i:Nat} {u:Value}:∀{es:List MapEntry},es.map pr=M.map pm→findP d M=some (i,u)→(es.eraseIdx i).map pr=(delM d M).map pm:=by
 induction M generalizing i with
 | nil=>intro es h hf;cases hf
 | cons x M ih=>
  intro es h hf
  cases es with
  | nil=>simp at h
  | cons e es=>
   simp only[List.map_cons,List.cons.injEq] at h
   unfold findP at hf
   unfold delM
   by_cases hd:d=x.1
   ·rw[if_pos hd] at hf ⊢
    injection hf with hf
    injection hf with hf1 hf2
    subst hf1
    exact h.2
   ·rw[if_neg hd] at hf ⊢
    cases hq:findP d M with
    | none=>rw[hq] at hf;cases hf
    | some r=>
     rw[hq] at hf
     obtain⟨j,u2⟩:=r
     simp only[Option.map_some,Option.some.injEq,Prod.mk.injEq] at hf
     obtain⟨rfl,rfl⟩:=hf
     rw[List.eraseIdx_cons_succ]
     simp only[List.map_cons,List.cons.injEq]
     exact⟨h.1,ih h.2 hq⟩
theorem erase_none {M:List Ent} {d:Dt} (hf:findP d M=none):delM d M=M:=by
 induction M with
 | nil=>rfl
 | cons x M ih=>
  unfold findP at hf
  unfold delM
  by_cases hd:d=x.1
  ·rw[if_pos hd] at hf;cases hf
  ·rw[if_neg hd] at hf ⊢
   rw[ih (by simpa using hf)]
theorem under_map:Tryz.prog.underlying 107=some (.map 72 35):=by kernel_rfl
theorem lookup_run {w:World} {B:Nat} {M:List Ent} (h:MapAt w B M) (a b:Int):
  (Instr.lookup 107 (.map (some B)) (.agg #[.int .i64 a,.int .i64 b]) false).run Tryz.prog w=.ok (getV M (a,b)) w:=by
 obtain⟨es,clock,hb,he,_⟩:=h
 have hf:=find_key (a,b) w M es.toList he
 simp only[aggD] at hf
 unfold Instr.lookup
 simp only[Sem.run_bind,run_underlying under_map,MapKept.run_getObj_map hb,Result.andThen,Sem.run_pure,check_key,hf]
 rw[getV_find]
 cases findP (a,b) M with
 | none=>simp only[Sem.run_bind,zero_row,Result.andThen,Sem.run_pure];rfl
 | some r=>rfl
theorem setBlock_grown {w:World} {B:Nat} {es:Array MapEntry} {clock:Nat} (hb:w.heap[B]? =some (.map es clock)) (o:Obj):w.grownBy (setBlock w B o) (some B):=
 ⟨rfl,rfl,rfl,by simp[setBlock],fun i _ hi=>heap_setBlock_other hb _ (fun e=>hi (by rw[e]))⟩
theorem same_bits (a b:Int):Instr.sameBits 10000 (.agg #[.int .i64 a,.int .i64 b]) (.agg #[.int .i64 a,.int .i64 b])=true:=by
 rw[show(10000:Nat)=9999+1 from rfl]
 simp[Instr.sameBits]
theorem born_modify {es:List MapEntry} {clock i:Nat} {f:MapEntry→MapEntry} (hf:∀e,(f e).born=e.born) (h:Born es clock):Born (es.modify i f) clock:=by
 have hm:(es.modify i f).map (·.born)=es.map (·.born):=by
  apply List.ext_getElem?
  intro j
  rw[List.getElem?_map,List.getElem?_map,List.getElem?_modify]
  split
  ·cases es[j]? with
   | none=>rfl
   | some e=>simp[hf]
  ·simp
 refine⟨fun e he=> ?_,by rw[hm];exact h.2⟩
 have:e.born ∈ (es.modify i f).map (·.born):=List.mem_map.2 ⟨e,he,rfl⟩
 rw[hm] at this
 obtain⟨x,hx,hxe⟩:=List.mem_map.1 this
 rw[←hxe];exact h.1 x hx
theorem born_push {es:List MapEntry} {clock:Nat} {k v:Value} (h:Born es clock):Born (es++[⟨k,v,clock⟩]) (clock+1):=by
 refine⟨fun e he=> ?_, ?_⟩
 ·rcases List.mem_append.1 he with he | he
  ·exact Nat.lt_succ_of_lt (h.1 e he)
  ·rw[List.mem_singleton.1 he];exact Nat.lt_succ_self _
 ·rw[List.map_append,List.nodup_append]
  refine⟨h.2,by simp, ?_⟩
  intro a ha b hb
  obtain⟨x,hx,rfl⟩:=List.mem_map.1 ha
  simp at hb
  subst hb
  exact Nat.ne_of_lt (h.1 x hx)
theorem idx_born:∀(es:List MapEntry) (i st:Nat),(es.map (·.born)).Nodup→(es[i]?).map (·.born)=some st→es.findIdx? (fun x=>(x.born:Int)==(st:Int))=some i
 | [],i,st,_,h=>by simp at h
 | e::es,0,st,hn,h=>by
  have:e.born=st:=by simpa using h
  rw[List.findIdx?_cons,this];simp
 | e::es,i+1,st,hn,h=>by
  have h2:(es[i]?).map (·.born)=some st:=by simpa using h
  have hn2:=List.nodup_cons.1 (show(e.born::es.map (·.born)).Nodup from hn)
  have hne:e.born≠st:=by
   intro e9
   apply hn2.1
   rw[e9]
   cases hq:es[i]? with
   | none=>rw[hq] at h2;cases h2
   | some x=>
    rw[hq] at h2
    injection h2 with h2
    rw[←h2]
    exact List.mem_map.2 ⟨x,List.mem_of_getElem? hq,rfl⟩
  rw[List.findIdx?_cons,idx_born es i st hn2.2 h2]
  have:((e.born:Int)==(st:Int))=false:=by rw[beq_eq_false_iff_ne];omega
  rw[this];rfl
/- an entry of it, by its stamp -/
def EntAt (w:World) (B:Nat) (M:List Ent) (d:Dt) (st:Nat):Prop:=∃es clock i u,w.heap[B]? =some (.map es clock)∧es.toList.map pr=M.map pm∧Born es.toList clock∧findP d M=some (i,u)∧(es.toList[i]?).map (·.born)=some st
theorem EntAt.stay {w w':World} {B:Nat} {M:List Ent} {d:Dt} {st:Nat} (h:EntAt w B M d st) (hs:w'.heap[B]? =w.heap[B]?):EntAt w' B M d st:=by
 obtain⟨es,clock,i,u,hb,h2⟩:=h
 exact⟨es,clock,i,u,hs.trans hb,h2⟩
theorem find_put (d:Dt) (v:Value) (l:List ByteArray):∀M:List Ent,findP d (putM d v l M)=some (((findP d M).map (·.1)).getD M.length,v)
 | []=>by simp[putM,findP]
 | x::M=>by
  unfold putM
  by_cases hd:d=x.1
  ·rw[if_pos hd]
   conv=>rhs;unfold findP
   rw[if_pos hd]
   unfold findP
   rw[if_pos rfl];rfl
  ·rw[if_neg hd]
   unfold findP
   rw[if_neg hd,if_neg hd,find_put d v l M]
   cases findP d M with
   | none=>rfl
   | some r=>rfl
theorem putM_cons (d:Dt) (v:Value) (l:List ByteArray) (x:Ent) (M:List Ent):putM d v l (x::M)=if d=x.1 then(d,v,l)::M else x::putM d v l M:=rfl
theorem put_put (d:Dt) (v u:Value) (l k:List ByteArray):∀M:List Ent,putM d v l (putM d u k M)=putM d v l M
 | []=>by simp[putM]
 | x::M=>by
  rw[putM_cons d u,putM_cons d v]
  by_cases hd:d=x.1
  ·rw[if_pos hd,if_pos hd,putM_cons,if_pos rfl]
  ·rw[if_neg hd,if_neg hd,putM_cons,if_neg hd,put_put d v u l k M]
theorem find_at {d:Dt}:∀{M:List Ent} {i:Nat} {u:Value},findP d M=some (i,u)→(M.map pm)[i]? =some (aggD d,u)
 | [],i,u,h=>by cases h
 | x::M,i,u,h=>by
  unfold findP at h
  by_cases hd:d=x.1
  ·rw[if_pos hd] at h
   injection h with h
   injection h with h1 h2
   subst h1 h2
   simp[hd]
  ·rw[if_neg hd] at h
   cases hq2:findP d M with
   | none=>rw[hq2] at h;cases h
   | some r=>
    rw[hq2] at h
    obtain⟨j,u2⟩:=r
    simp only[Option.map_some,Option.some.injEq,Prod.mk.injEq] at h
    obtain⟨rfl,rfl⟩:=h
    simpa using find_at hq2
theorem entry_run {w:World} {B:Nat} {M:List Ent} (h:MapAt w B M) (a b:Int):
  ∃st w',(Instr.mapEntry 107 (.map (some B)) (.agg #[.int .i64 a,.int .i64 b])).run Tryz.prog w=.ok (.tuple #[getV M (a,b),.int .i64 ((st:Nat):Int)]) w'∧EntAt w' B (putM (a,b) (getV M (a,b)) (getJ M (a,b)) M) (a,b) st∧w.grownBy w' (some B):=by
 obtain⟨es,clock,hb,he,hbn⟩:=h
 have hf:=find_key (a,b) w M es.toList he
 have hlen:es.toList.length=M.length:=by have:=congrArg List.length he;simpa using this
 simp only[aggD] at hf
 unfold Instr.mapEntry
 simp only[Sem.run_bind,run_underlying under_map,MapKept.run_getObj_map hb,Result.andThen,Sem.run_pure,check_key,hf]
 have hgv:=getV_find (a,b) M
 cases hq:findP (a,b) M with
 | none=>
  rw[hq] at hgv
  simp only[Option.map_none,Option.getD_none] at hgv
  simp only[Sem.run_bind,zero_row,Result.andThen,MapKept.run_setObj_map _ hb,goInt,Sem.run_pure]
  refine⟨clock,setBlock w B (.map (es.push ⟨.agg #[.int .i64 a,.int .i64 b],.slice none 0 0,clock⟩) (clock+1)),by rw[hgv];rfl,⟨_,_,M.length,getV M (a,b),heap_setBlock_same hb _, ?_, ?_, ?_, ?_⟩,setBlock_grown hb _⟩
  ·rw[push_eq hq,hgv]
   simp[he,aggD]
  ·rw[Array.toList_push];exact born_push hbn
  ·rw[find_put,hq];rfl
  ·rw[Array.toList_push,←hlen,List.getElem?_append_right (Nat.le_refl _)];simp
 | some r=>
  obtain⟨i,u⟩:=r
  rw[hq] at hgv
  simp only[Option.map_some,Option.getD_some] at hgv
  have key:=set_eq (v:=getV M (a,b)) (l:=getJ M (a,b)) he hq (fun e=>{ e with key:=aggD (a,b),val:=getV M (a,b) }) (fun e _=>rfl)
  have hk:(((es[i]?).map (·.key)).getD (Value.agg #[.int .i64 a,.int .i64 b]))=Value.agg #[.int .i64 a,.int .i64 b]:=by
   have:=key.2
   rw[Array.getElem?_toList] at this
   rw[this];rfl
  have hex:∃e0,es.toList[i]? =some e0:=by
   cases hx:es.toList[i]? with
   | none=>rw[hx] at key;cases key.2
   | some e0=>exact⟨e0,rfl⟩
  obtain⟨e0,he0⟩:=hex
  have hval:e0.val=u:=by
   have h9:(es.toList.map pr)[i]? =some (pr e0):=by rw[List.getElem?_map,he0];rfl
   rw[he,find_at hq] at h9
   exact(congrArg Prod.snd (Option.some.inj h9)).symm
  have hm2:(es.modify i fun e=>{ e with key:=Value.agg #[.int .i64 a,.int .i64 b] }).toList.map pr=(putM (a,b) (getV M (a,b)) (getJ M (a,b)) M).map pm:=by
   rw[←key.1,Array.toList_modify]
   apply List.ext_getElem?
   intro j
   rw[List.getElem?_map,List.getElem?_map,List.getElem?_modify,List.getElem?_modify]
   by_cases hj:i=j
   ·subst hj
    rw[he0]
    simp only[if_true,pr,aggD,hgv]
    show some (_,e0.val)=some (_,u)
    rw[hval]
   ·simp only[if_neg hj]
  simp only[hk,Instr.keyThatStays,same_bits,if_true,Sem.run_bind,Sem.run_pure,Result.andThen,MapKept.run_setObj_map _ hb,goInt]
  have hst:((es[i]?).map (fun x=>(x.born:Int))).getD 0=(e0.born:Int):=by
   rw[←Array.getElem?_toList,he0];rfl
  refine⟨e0.born,setBlock w B (.map (es.modify i fun e=>{ e with key:=Value.agg #[.int .i64 a,.int .i64 b] }) clock),by rw[hgv,hst];rfl,⟨_,_,i,getV M (a,b),heap_setBlock_same hb _,hm2, ?_, ?_, ?_⟩,setBlock_grown hb _⟩
  ·rw[Array.toList_modify];exact born_modify (fun e=>rfl) hbn
  ·rw[find_put,hq];rfl
  ·rw[Array.toList_modify,List.getElem?_modify,he0];simp
theorem store_run {w:World} {B:Nat} {M:List Ent} {a b:Int} {st:Nat} (h:EntAt w B M (a,b) st) (v:Value) (l:List ByteArray):
  ∃w',(Instr.entryStore 107 (.map (some B)) (.int .i64 (st:Int)) v).run Tryz.prog w=.ok () w'∧MapAt w' B (putM (a,b) v l M)∧w.grownBy w' (some B):=by
 obtain⟨es,clock,i,u,hb,he,hbn,hq,hst⟩:=h
 have hi:=idx_born es.toList i st hbn.2 hst
 have hi2:es.findIdx? (fun x=>(x.born:Int)==(st:Int))=some i:=by rw[←hi];simp[←List.findIdx?_toArray]
 have key:=set_eq (v:=v) (l:=l) he hq (fun e=>{ e with val:=v }) (fun e hk=>by simp[hk])
 unfold Instr.entryStore
 simp only[Sem.run_bind,MapKept.run_getObj_map hb,Result.andThen,show(asInt (Value.int .i64 (st:Int))).run Tryz.prog w=.ok (st:Int) w from rfl,hi2,MapKept.run_setObj_map _ hb]
 refine⟨_,rfl,⟨_,_,heap_setBlock_same hb _, ?_, ?_⟩,setBlock_grown hb _⟩
 ·rw[Array.toList_modify];exact key.1
 ·rw[Array.toList_modify];exact born_modify (fun e=>rfl) hbn
theorem born_sub {es fs:List MapEntry} {clock:Nat} (hs:fs.Sublist es) (h:Born es clock):Born fs clock:=⟨fun e he=>h.1 e (hs.subset he),h.2.sublist (hs.map _)⟩
theorem delete_run {w:World} {B:Nat} {M:List Ent} (h:MapAt w B M) (a b:Int) (ty:TypeId):
  ∃w',(Builtin.delete_ #[107,72] ty #[.map (some B),.agg #[.int .i64 a,.int .i64 b]]).run Tryz.prog w=.ok (.tuple #[]) w'∧MapAt w' B (delM (a,b) M)∧w.grownBy w' (some B):=by
 obtain⟨es,clock,hb,he,hbn⟩:=h
 have hf:=find_key (a,b) w M es.toList he
 simp only[aggD] at hf
 have hn:∀(v:Value),(#[Value.map (some B),v])[0]? =some (.map (some B))∧(#[Value.map (some B),v])[1]? =some v:=fun v=>⟨rfl,rfl⟩
 unfold Builtin.delete_
 simp only[(hn _).1,(hn _).2,show(#[(107:TypeId),72])[0]? =some 107 from rfl,Sem.run_bind,run_underlying under_map,MapKept.run_getObj_map hb,Result.andThen,Sem.run_pure,check_key,hf]
 cases hq:findP (a,b) M with
 | none=>
  simp only[MapKept.run_setObj_map _ hb,Result.andThen,Sem.run_bind,Sem.run_pure]
  refine⟨_,rfl,⟨_,_,heap_setBlock_same hb _, ?_,hbn⟩,setBlock_grown hb _⟩
  rw[erase_none hq];exact he
 | some r=>
  obtain⟨i,u⟩:=r
  simp only[MapKept.run_setObj_map _ hb,Result.andThen,Sem.run_bind,Sem.run_pure]
  refine⟨_,rfl,⟨_,_,heap_setBlock_same hb _, ?_, ?_⟩,setBlock_grown hb _⟩
  ·rw[Array.toList_eraseIdxIfInBounds];exact erase_eq he hq
  ·rw[Array.toList_eraseIdxIfInBounds];exact born_sub (List.eraseIdx_sublist _ _) hbn
theorem make_map (w:World):MapAt (w.alloc (.map #[] 0)) w.heap.size []:=⟨#[],0,(MapKept.heap_alloc w _).1,rfl,fun e he=>by simp at he,List.nodup_nil⟩
/- at the operation, for the walk -/
end Ib
end Go.Proofs.YtlmdchpbpgcfmaaGreatDoor
/- What a doc asks: whether a text is in a row, whether a dot is known. -/
namespace Go.Proofs.YtlmdchpbpgcfmaaGreatDoor
namespace Ic
open Go.ChangeShapes Go.WideShapes Go.ChangeAt Go.RowKit Cm Ka Kb Na Om Oa Oz Oc Og Oi Hm Ia Ib
open La (bel bel_drew errV_zero errV_ne own_ge own_grow own_below Lies)
def eT:ByteArray:=⟨#[]⟩
def isIn (l:List ByteArray) (p:ByteArray):Bool:=l.any fun x=>decide (x=p)
theorem isIn_iff {l:List ByteArray} {p:ByteArray}:isIn l p=true↔p ∈ l:=by unfold isIn;simp
def TxtsIn (w:World) (p:Option Addr) (l:List ByteArray):Prop:=l=[]∨∃b o,p=some ⟨b,o,none⟩∧∀j,j<l.length→w.cell? ⟨b,o+j,none⟩=some (.string (l.getD j eT))
theorem TxtsIn.some {w:World} {p:Option Addr} {l:List ByteArray} (h:TxtsIn w p l) (hl:l≠[]):∃b o,p=some ⟨b,o,none⟩∧∀j,j<l.length→w.cell? ⟨b,o+j,none⟩=some (.string (l.getD j eT)):=by
 rcases h with h | h
 ·exact absurd h hl
 ·exact h
theorem row_txts {w:World} {v:Value} {l:List ByteArray} (h:RowS w v l):∃p c,v=.slice p l.length c∧TxtsIn w p l:=by
 rcases h.2 with⟨rfl,h0⟩ | ⟨g,cap,cur,rfl,_,h2,h3,h4,h5,h6⟩
 ·have:l=[]:=List.eq_nil_of_length_eq_zero h0
  subst this
  exact⟨none,0,rfl,Or.inl rfl⟩
 ·refine⟨some ⟨g,0,none⟩,cap,rfl,Or.inr ⟨g,0,rfl,fun j hj=> ?_⟩⟩
  have e:(l.map Value.string)[j]? =some (.string (l.getD j eT)):=by
   rw[List.getElem?_map,List.getD_eq_getElem?_getD,List.getElem?_eq_getElem hj];rfl
  rw[←h6,List.getElem?_take_of_lt (by omega)] at e
  rw[Nat.zero_add]
  simp only[World.cell?,h2]
  simpa using e
theorem index_any (q:Option Addr) (n c:Nat) (l:List ByteArray) (p:ByteArray) (w:World) (hl:l.length=n) (h:TxtsIn w q l) (hn:n≤1048576):
  Calls Tryz.prog 155 #[.slice q n c,.string p] w fun e w'=>(∃z,e=.returned (.int .i64 z)∧(0≤z↔p ∈ l))∧w'=w:=by
 have HL:=z9 hl
 have HI:=z9 h
 clear hl h
 go_enter Tryz.func155,Tryz.ntmps155
 go_wp2
 go_loop [5,8] (fun _ v=>∃k:Nat,k≤n∧v=.int .i64 k∧Hid (∀j,j<k→l.getD j eT≠p)) (fun _ v=>n-(intOf v).toNat)
 case atStart=>exact⟨0,by omega,rfl,fun j hj=>absurd hj (by omega)⟩
 case round=>
  obtain⟨k,hk,rfl,H1⟩:=hrel
  by_cases hlt:k<n
  ·have hltz:(k:Int)<n:=by omega
   obtain⟨b,o,rfl,hc⟩:=HI.out.some (by intro e;have:=HL.out;rw[e] at this;simp at this;omega)
   have hkl:k<l.length:=by rw[HL.out];exact hlt
   have hcell:=hc k hkl
   obtain⟨x,hx⟩:∃x,x=l.getD k eT:=⟨_,rfl⟩
   rw[←hx] at hcell
   have HX:=z9 hx
   have HKL:=z9 hkl
   clear hc hx hkl
   by_cases hxy:x=p
   ·have hb:(p.toList==x.toList)=true:=by rw[hxy];simp
    have HM:Hid (p ∈ l):=by
     unfold Hid;rw[←hxy,HX.out,List.getD_eq_getElem?_getD,List.getElem?_eq_getElem HKL.out];exact List.getElem_mem HKL.out
    clear hxy
    go_wp2
    go_ret
    exact⟨⟨k,rfl,fun _=>HM.out,fun _=>by omega⟩,rfl⟩
   ·have hb:(p.toList==x.toList)=false:=by
     cases h9:(p.toList==x.toList)
     ·rfl
     ·exact absurd (mk_eq (by simpa using h9)).symm hxy
    have H3:Hid (∀j,j<k+1→l.getD j eT≠p):=by
     intro j hj
     rcases Nat.lt_succ_iff_lt_or_eq.1 hj with h | rfl
     ·exact H1.out j h
     ·rw[←HX.out];exact hxy
    clear hxy
    go_wp2
    go_round
    case rel=>exact⟨k+1,by omega,by go_num,H3⟩
    case measure=>simp[intOf];omega
  ·obtain rfl:k=n:=by omega
   have hltz:¬(k:Int)<k:=by omega
   have HM:Hid (¬p ∈ l):=by
    intro h
    obtain⟨j,hj,e⟩:=List.mem_iff_getElem.1 h
    have:=H1.out j (by rw[←HL.out];exact hj)
    rw[List.getD_eq_getElem?_getD,List.getElem?_eq_getElem hj] at this
    exact absurd e this
   go_wp2
   go_ret
   exact⟨⟨-1,rfl,fun h=>absurd h (by decide),fun h=>absurd h HM.out⟩,rfl⟩
theorem contains_any (v:Value) (l:List ByteArray) (p:ByteArray) (w:World) (h:RowS w v l) (hn:l.length≤1048576):
  Calls Tryz.prog 114 #[v,.string p] w fun e w'=>e=.returned (.bool (isIn l p))∧w'=w:=by
 obtain⟨q,c,rfl,ht⟩:=row_txts h
 have C:=index_any q l.length c l p w rfl ht hn
 obtain⟨n,hnn⟩:∃n,n=l.length:=⟨_,rfl⟩
 rw[←hnn] at C
 rw[←hnn]
 clear ht hnn h hn
 go_enter Tryz.func114,Tryz.ntmps114
 go_wp2_with fail
 refine C.mono ?_
 rintro e w2 ⟨⟨z,rfl,hz⟩,hw⟩
 have hw2:=hw.symm;subst hw2;clear hw
 have HZ:=z9 hz
 clear hz C
 by_cases h0:0≤z
 ·have HM:=z9 (isIn_iff.2 (HZ.out.1 h0))
  go_wp2_with fail
  go_ret
  exact⟨by rw[HM.out];rfl,rfl⟩
 ·have HM:Hid (isIn l p=false):=by
   unfold Hid
   cases h9:isIn l p
   ·rfl
   ·exact absurd (HZ.out.2 (isIn_iff.1 h9)) h0
  have H0:Hid (decide (0≤z)=false):=decide_eq_false h0
  go_wp2_with fail
  go_ret
  refine⟨?_,rfl⟩
  show Ending.returned (.bool (decide (0≤z)))=_
  rw[H0.out,HM.out]
theorem blk_cell {w:World} {D:Nat} {cs:Array Value} {t:TypeId} (h:w.heap[D]? =some (.cells cs t)) {i:Nat} {u:Value} (hu:cs[i]? =some u):w.cell? ⟨D,i,none⟩=some u:=by
 simp only[World.cell?,h];simpa using hu
theorem blk_free {w:World} {D:Nat} {cs:Array Value} {t:TypeId} (h:w.heap[D]? =some (.cells cs t)) {i:Nat}:w.frozen? ⟨D,i,none⟩=false:=by
 simp[World.frozen?,h]
theorem knows_any (m:Mem) (S:Dq) (G:Nat→Prop) (a b:Int) (w:World) (h:DocMem w m S G):
  Calls Tryz.prog 111 #[.pointer (some ⟨m.D,0,none⟩),.agg #[.int .i64 a,.int .i64 b]] w fun e w'=>e=.returned (.bool (Dm.hasB S.known a b))∧Below w.heap.size w w':=by
 have d2:=blk_cell h.blk (i:=2) (u:=m.vk) rfl
 obtain⟨q,c,hv,hi⟩:=h.known
 rw[hv] at d2
 have HB1:Hid (Below w.heap.size w (w.alloc (.cells #[.int .i64 a,.int .i64 b] 72))):=(Below.refl _ w).alloc (Nat.le_refl _) _
 have CS:Hid (∀W,Below w.heap.size w W→Calls Tryz.prog 149 #[.slice q S.known.length c,.agg #[.int .i64 a,.int .i64 b]] W fun e w'=>e=.returned (.tuple #[.bool (Dm.hasB S.known a b),Za.errV (Dm.withE S.known a b)])∧Below W.heap.size W w'):=
  fun W hb=>Dd.has_any q _ c S.known a b W rfl (hi.below hb)
 obtain⟨n,hn⟩:∃n,n=S.known.length:=⟨_,rfl⟩
 obtain⟨ee,hee⟩:∃ee,ee=Za.errV (Dm.withE S.known a b):=⟨_,rfl⟩
 obtain⟨D,hD⟩:∃D,D=m.D:=⟨_,rfl⟩
 rw[←hn,←hee] at CS
 rw[←hn,←hD] at d2
 rw[←hD]
 have e2:=keep_cell HB1.out d2
 obtain⟨f0,f1⟩:=Nj.new_cellD (x:=(a,b)) (Below.refl _ (w.alloc (.cells #[.int .i64 a,.int .i64 b] 72)))
 simp only at f0 f1
 clear hv hi h hn hee hD
 go_enter Tryz.func111,Tryz.ntmps111
 go_wp2_with fail
 go_region_held3 (fun W=>W.cell? ⟨D,2,none⟩=some (.slice q n c)∧W.cell? ⟨w.heap.size,0,none⟩=some (.int .i64 a)∧W.cell? ⟨w.heap.size,1,none⟩=some (.int .i64 b)) (first | (go_keep;done) | (refine⟨keep_cell hb7 ?_,keep_cell hb7 ?_,keep_cell hb7 ?_⟩<;>(go_split_ands;assumption))) (first
  | (go_at_call 149;refine(CS.out _ HB1.out.drew).mono ?_;rintro e w7 ⟨rfl,hb7⟩;have HB7:=z9 (bel HB1.out.drew hb7)))
 all_goals
  go_wp2_with fail
  go_ret
  exact⟨rfl,HB7.out⟩
end Ic
end Go.Proofs.YtlmdchpbpgcfmaaGreatDoor
/- What a doc's cut answers: the marks with that of an op, or as they are where a join saw it. -/
namespace Go.Proofs.YtlmdchpbpgcfmaaGreatDoor
namespace Idc
open Go.ChangeShapes Go.WideShapes Go.ChangeAt Go.RowKit Cm Ka Kb Na Om Oa Oz Oc Og Oi Hm Ia Ib Ic
open La (bel bel_drew errV_zero errV_ne own_ge own_grow own_below Lies)
theorem mark_small {x:Mk} (h:markE x=0):x.1.size≤maxLen:=by
 unfold markE at h
 split at h
 ·next h1=>exact absurd h h1
 ·next h1=>
  have h2:Pm.chk x.1.toList=0:=by simpa using h1
  have h3:=(Bm.chk_pos h2).2
  unfold maxLen;rw[Kb.len_eq] at h3;omega
theorem row_get {w:World} {M:List Ent} (h:∀x ∈ M,RowS w x.2.1 x.2.2) (d:Dt):RowS w (getV M d) (getJ M d):=by
 rcases get_mem d M with⟨e1,e2⟩ | ⟨x,hx,e1,e2⟩
 ·rw[e1,e2];exact World.ownsRow_nil _ _ _ _
 ·rw[←e1,←e2];exact h x hx
theorem short_get {M:List Ent} {N:Nat} (h:∀x ∈ M,x.2.2.length≤N) (d:Dt):(getJ M d).length≤N:=by
 rcases get_mem d M with⟨_,e2⟩ | ⟨x,hx,_,e2⟩
 ·rw[e2];exact Nat.zero_le _
 ·rw[←e2];exact h x hx
theorem MapAt.stay {w w':World} {B:Nat} {M:List Ent} (h:MapAt w B M) (hs:w'.heap[B]? =w.heap[B]?):MapAt w' B M:=by
 obtain⟨es,clock,hb,h2⟩:=h
 exact⟨es,clock,hs.trans hb,h2⟩
theorem MapAt.lt {w:World} {B:Nat} {M:List Ent} (h:MapAt w B M):B<w.heap.size:=by
 obtain⟨es,clock,hb,h2⟩:=h
 exact(Array.getElem?_eq_some_iff.1 hb).1
theorem MapAt.below {w w':World} {B:Nat} {M:List Ent} (h:MapAt w B M) (hb:Below w.heap.size w w'):MapAt w' B M:=MapAt.stay h (hb.block B (MapAt.lt h))
theorem RowS.below {w w':World} {v:Value} {l:List ByteArray} (h:RowS w v l) (hb:Below w.heap.size w w'):RowS w' v l:=own_below h hb
theorem cut_gone (m:Mem) (S:Dq) (G:Nat→Prop) (a b t:Int) (p:ByteArray) (c:Int) (vs:Value) (w:World) (h:DocMem w m S G) (hs:∀x ∈ m.M,x.2.2.length≤1048576) (hj:isIn (getJ m.M (a,b)) p=true):
  Calls Tryz.prog 153 #[.pointer (some ⟨m.D,0,none⟩),.agg #[.int .i64 a,.int .i64 b,.int .i64 t,.string p,.int .i64 c,vs]] w fun e w'=>e=.returned (.tuple #[m.vm,.nilIface])∧Below w.heap.size w w':=by
 have d4:=blk_cell h.blk (i:=4) (u:=.map (some m.B)) rfl
 have d1:=blk_cell h.blk (i:=1) (u:=m.vm) rfl
 have HB1:Hid (Below w.heap.size w (w.alloc (.cells #[.int .i64 a,.int .i64 b,.int .i64 t,.string p,.int .i64 c,vs] 75))):=(Below.refl _ w).alloc (Nat.le_refl _) _
 have hlk:=fun k=>lookup_run (MapAt.below h.map (bel_drew HB1.out k)) a b
 have hr:=row_get h.rows (a,b)
 have C:=fun k=>contains_any _ _ p _ (RowS.below hr (bel_drew HB1.out k)) (short_get hs (a,b))
 rw[hj] at C
 obtain⟨q,cc,hv,_⟩:=row_txts hr
 rw[hv] at hlk C
 obtain⟨n,hn⟩:∃n,n=(getJ m.M (a,b)).length:=⟨_,rfl⟩
 obtain⟨D,hD⟩:∃D,D=m.D:=⟨_,rfl⟩
 obtain⟨B,hB⟩:∃B,B=m.B:=⟨_,rfl⟩
 obtain⟨vm,hvm⟩:∃vm,vm=m.vm:=⟨_,rfl⟩
 obtain⟨pm,nm,cm,hsm⟩:∃pm nm cm,m.vm=.slice pm nm cm:=by obtain⟨pm,cm,e,_⟩:=h.marks;exact⟨_,_,_,e⟩
 rw[←hn] at hlk C
 rw[←hB] at hlk d4
 rw[←hD] at d4 d1
 rw[hsm] at d1
 rw[←hD,hsm]
 have e4:=keep_cell HB1.out d4
 have e1:=keep_cell HB1.out d1
 obtain⟨o0,o1,o2,o3,o4,o5⟩:=six_new w a b t p c vs 75
 clear h hs hj hr hv hn hD hB hvm hsm
 go_enter Tryz.func153,Tryz.ntmps153
 go_wp2_with fail
 go_quiet (exact Calls.quiet_of_same (C _))
 go_wp2_with fail
 go_ret2
 exact⟨rfl,bel_drew HB1.out _⟩
theorem cut_not (m:Mem) (S:Dq) (G:Nat→Prop) (a b t:Int) (p:ByteArray) (c:Int) (vs:Value) (w:World) (h:DocMem w m S G) (hs:∀x ∈ m.M,x.2.2.length≤1048576) (hj:isIn (getJ m.M (a,b)) p=false) (hb0:marksE S.marks=0) (hp:p.size≤maxLen):
  Calls Tryz.prog 153 #[.pointer (some ⟨m.D,0,none⟩),.agg #[.int .i64 a,.int .i64 b,.int .i64 t,.string p,.int .i64 c,vs]] w fun e w'=>∃v',e=.returned (.tuple #[v',errV (cutE S.marks (p,(a,b)))])∧MksNew w.heap.size w' v' (cutL S.marks (p,(a,b)))∧Below w.heap.size w w':=by
 have d4:=blk_cell h.blk (i:=4) (u:=.map (some m.B)) rfl
 have d1:=blk_cell h.blk (i:=1) (u:=m.vm) rfl
 have HB1:Hid (Below w.heap.size w (w.alloc (.cells #[.int .i64 a,.int .i64 b,.int .i64 t,.string p,.int .i64 c,vs] 75))):=(Below.refl _ w).alloc (Nat.le_refl _) _
 have hlk:=fun k=>lookup_run (MapAt.below h.map (bel_drew HB1.out k)) a b
 have hr:=row_get h.rows (a,b)
 have C:=fun k=>contains_any _ _ p _ (RowS.below hr (bel_drew HB1.out k)) (short_get hs (a,b))
 rw[hj] at C
 have hms:∀x ∈ S.marks,x.1.size≤maxLen:=fun x hx=>mark_small ((marksE_zero.1 hb0).2.1 x hx)
 have HCC:Hid (∀W,Below w.heap.size w W→Calls Tryz.prog 180 #[m.vm,.agg #[.string p,.int .i64 a,.int .i64 b]] W fun e w'=>∃v',e=.returned (.tuple #[v',errV (cutE S.marks (p,(a,b)))])∧MksNew w.heap.size w' v' (cutL S.marks (p,(a,b)))∧Below W.heap.size W w'):=
  fun W hb=>(Nh.cut_loc m.vm S.marks p a b W (h.marks.below hb) hms hp).mono fun e w' ⟨v',h1,h2,h3⟩=>⟨v',h1,h2.mono hb.size,h3⟩
 obtain⟨q,cc,hv,_⟩:=row_txts hr
 rw[hv] at hlk C
 obtain⟨n,hn⟩:∃n,n=(getJ m.M (a,b)).length:=⟨_,rfl⟩
 obtain⟨D,hD⟩:∃D,D=m.D:=⟨_,rfl⟩
 obtain⟨B,hB⟩:∃B,B=m.B:=⟨_,rfl⟩
 obtain⟨pm,nm,cm,hsm⟩:∃pm nm cm,m.vm=.slice pm nm cm:=by obtain⟨pm,cm,e,_⟩:=h.marks;exact⟨_,_,_,e⟩
 obtain⟨ee,hee⟩:∃ee,ee=errV (cutE S.marks (p,(a,b))):=⟨_,rfl⟩
 rw[←hn] at hlk C
 rw[←hB] at hlk d4
 rw[←hD] at d4 d1
 rw[hsm] at d1
 rw[hsm,←hee] at HCC
 rw[←hD,←hee]
 have e4:=keep_cell HB1.out d4
 have e1:=keep_cell HB1.out d1
 obtain⟨o0,o1,o2,o3,o4,o5⟩:=six_new w a b t p c vs 75
 clear h hs hj hr hv hn hD hB hsm hee hms hb0 hp
 go_enter Tryz.func153,Tryz.ntmps153
 go_wp2_with fail
 go_quiet (exact Calls.quiet_of_same (C _))
 go_wp2_with fail
 generalize hwq:World.drewN _ _=wq
 have HBq:Hid (Below w.heap.size w wq):=by rw[←hwq];exact bel_drew HB1.out _
 have i1:wq.cell? ⟨D,1,none⟩=some (.slice pm nm cm):=by rw[←hwq];exact e1
 have k0:wq.cell? ⟨w.heap.size,0,none⟩=some (.int .i64 a):=by rw[←hwq];exact o0
 have k1:wq.cell? ⟨w.heap.size,1,none⟩=some (.int .i64 b):=by rw[←hwq];exact o1
 have k3:wq.cell? ⟨w.heap.size,3,none⟩=some (.string p):=by rw[←hwq];exact o3
 clear hwq e4 e1 o0 o1 o2 o3 o4 o5 hlk C HB1 d4 d1
 go_region_held3 (fun W=>W.cell? ⟨D,1,none⟩=some (.slice pm nm cm)∧W.cell? ⟨w.heap.size,0,none⟩=some (.int .i64 a)∧W.cell? ⟨w.heap.size,1,none⟩=some (.int .i64 b)∧W.cell? ⟨w.heap.size,3,none⟩=some (.string p)) (first | (go_keep;done) | (refine⟨keep_cell hb7 ?_,keep_cell hb7 ?_,keep_cell hb7 ?_,keep_cell hb7 ?_⟩<;>(go_split_ands;assumption))) (first
  | (go_at_call 180;refine(HCC.out _ HBq.out.drew).mono ?_;rintro e w7 ⟨v7,rfl,hk7,hb7⟩;have HK7:=z9 hk7;have HB7:=z9 (bel HBq.out.drew hb7);clear hk7))
 all_goals
  go_wp2_with fail
  go_ret2
  exact⟨_,rfl,HK7.out,HB7.out⟩
end Idc
end Go.Proofs.YtlmdchpbpgcfmaaGreatDoor
/- What a doc's done answers: book and marks as an op makes them. -/
namespace Go.Proofs.YtlmdchpbpgcfmaaGreatDoor
namespace Ie
open Go.ChangeShapes Go.WideShapes Go.ChangeAt Go.RowKit Cm Ka Kb Na Om Oa Oz Oc Og Oi Hm Ia Ib Ic Idc
open La (bel bel_drew errV_zero errV_ne own_ge own_grow own_below Lies)
open Lj (BookAt BookNew)
theorem set_heap {w:World} {g i:Nat} {v:Value} {cs:Array Value} {t:TypeId} {f:Nat × Nat} (h:w.heap[g]? =some (.cells cs t f)):(w.setCell ⟨g,i,none⟩ v).heap[g]? =some (.cells (cs.setIfInBounds i v) t f):=by
 simp[World.setCell,Array.getElem?_modify,h]
theorem set_size (w:World) (p:Addr) (v:Value):(w.setCell p v).heap.size=w.heap.size:=by simp[World.setCell]
theorem small_book {l:List Bm.Leaf} (h:Bm.bookE l=0):∀x ∈ l,x.1.size≤maxLen:=by
 intro x hx
 have h2:=(Bm.bookE_zero.1 h).2.1 x hx
 have h3:Pm.chk x.1.toList=0:=by
  unfold Bm.leafE at h2
  split at h2
  ·next h1=>exact absurd h2 h1
  ·next h1=>simpa using h1
 have h4:=(Bm.chk_pos h3).2
 unfold maxLen;rw[Kb.len_eq] at h4;omega
theorem small_place {p:ByteArray} (h:Pm.chk p.toList=0):p.size≤maxLen:=by
 have h4:=(Bm.chk_pos h).2
 unfold maxLen;rw[Kb.len_eq] at h4;omega
/- new books and marks lie in new blocks that are there -/
theorem book_in {B:Nat} {w:World} {v:Value} {l:List Bm.Leaf} (h:BookNew B w v l):In (fun g=>B≤g∧g<w.heap.size) v:=by
 intro a n c e hn
 refine⟨h.2 a n c e hn, ?_⟩
 obtain⟨p,c2,hv,hl,_⟩:=h.1
 rw[e] at hv
 injection hv with e1 e2 e3
 rcases hl with h0 | ⟨b,o,hp,hc⟩
 ·rw[h0] at e2;simp at e2;omega
 ·rw[hp] at e1
  injection e1 with e1
  rw[e1]
  exact(hc 0 (by omega)).lt
theorem marks_in {B:Nat} {w:World} {v:Value} {l:List Mk} (h:MksNew B w v l):In (fun g=>B≤g∧g<w.heap.size) v:=by
 intro a n c e hn
 refine⟨h.2 a n c e hn, ?_⟩
 obtain⟨p,c2,hv,hl,_⟩:=h.1
 rw[e] at hv
 injection hv with e1 e2 e3
 rcases hl with h0 | ⟨b,o,hp,hc⟩
 ·rw[h0] at e2;simp at e2;omega
 ·rw[hp] at e1
  injection e1 with e1
  rw[e1]
  exact(hc 0 (by omega)).lt
def News (G:Nat→Prop) (w w':World) (g:Nat):Prop:=G g∨(w.heap.size≤g∧g<w'.heap.size)
theorem do_end {w w7:World} {m:Mem} {S:Dq} {G:Nat→Prop} {vb vm:Value} {B:List Bm.Leaf} {M:List Mk} (h:DocMem w m S G) (hb:Below w.heap.size w w7) (h1:BookAt w7 vb B) (i1:In (News G w w7) vb) (h2:MksAt w7 vm M) (i2:In (News G w w7) vm):
  DocMem ((w7.setCell ⟨m.D,0,none⟩ vb).setCell ⟨m.D,1,none⟩ vm) { m with vb:=vb,vm:=vm } ⟨B,M,S.known,S.ops⟩ (News G w w7)∧Chg (fun g=>g=m.D) w ((w7.setCell ⟨m.D,0,none⟩ vb).setCell ⟨m.D,1,none⟩ vm):=by
 have h7:=h.below hb
 have hlt:∀g,News G w w7 g→g<w7.heap.size:=fun g hg=>by
  rcases hg with e | e
  ·exact h7.lt g e
  ·exact e.2
 have hoff:∀g,News G w w7 g→¬Wr m g:=fun g hg=>by
  rcases hg with e | e
  ·exact h.off g e
  ·intro e9;have:=h.wr_lt g e9;omega
 have hN:=h7.more (H:=News G w w7) (fun g hg=>Or.inl hg) hlt hoff
 have oth:∀g,g≠m.D→((w7.setCell ⟨m.D,0,none⟩ vb).setCell ⟨m.D,1,none⟩ vm).heap[g]? =w7.heap[g]? :=fun g hg=>by rw[set_block _ _ _ _ hg,set_block _ _ _ _ hg]
 have hs:Stay (News G w w7) w7 ((w7.setCell ⟨m.D,0,none⟩ vb).setCell ⟨m.D,1,none⟩ vm):=fun g hg=>oth g (fun e=>hoff g hg (Or.inl e))
 have hne:∀g cur t,w7.heap[g]? =some (.cells cur t (0,0))→t≠109→g≠m.D:=fun g cur t hg ht e=>by
  rw[e,h7.blk] at hg
  injection hg with hg
  injection hg with _ hg _
  exact ht hg.symm
 obtain⟨L,o1,o2,o3⟩:=hN.ops
 refine⟨⟨?_,book_stay h1 i1 hs,i1,marks_stay h2 i2 hs,i2,known_stay hN.known hN.knownG hs,hN.knownG,⟨L,o1,own_stay o2 (fun g hg=> ?_),fun y hy=>⟨dots_stay (o3 y hy).1 (o3 y hy).2 hs,(o3 y hy).2⟩⟩,MapAt.stay hN.map (oth _ ?_),fun x hx=>own_stay (hN.rows x hx) (fun g hg=> ?_),hN.apart, ?_,hN.off⟩, ?_⟩
 ·rw[set_heap (set_heap h7.blk)];rfl
 ·obtain⟨_,cur,hc⟩:=own_lt o2 g hg
  exact oth g (hne g cur _ hc (by decide))
 ·intro e
  obtain⟨es,clock,hb9,_⟩:=h7.map
  rw[e,h7.blk] at hb9;cases hb9
 ·obtain⟨_,cur,hc⟩:=own_lt (hN.rows x hx) g hg
  exact oth g (hne g cur _ hc (by decide))
 ·intro g hg;rw[set_size,set_size];exact hlt g hg
 ·exact((Chg.ofBelow hb (fun g=>g=m.D)).setCell (p:=⟨m.D,0,none⟩) rfl _).setCell (p:=⟨m.D,1,none⟩) rfl _
/- what done leaves -/
def DoPost (w:World) (m:Mem) (S:Dq) (G:Nat→Prop) (o:Ox) (e:Ending) (w':World):Prop:=
 ∃vb vm,e=.returned (.tuple #[vb,vm,errV (doE S o)])∧Below w.heap.size w w'∧(doE S o=0→(BookAt w' vb (doB S o)∧In (News G w w') vb)∧MksAt w' vm (doM S o)∧In (News G w w') vm)
theorem DoPost.no {w w':World} {m:Mem} {S:Dq} {G:Nat→Prop} {o:Ox} {k:Int} {vb vm:Value} (hk:doE S o=k) (h0:k≠0) (hb:Below w.heap.size w w'):DoPost w m S G o (.returned (.tuple #[vb,vm,.iface 84 (.int .i64 k)])) w':=
 ⟨vb,vm,by rw[hk,errV_ne h0],hb,fun h=>absurd (hk.symm.trans h) h0⟩
theorem DoPost.yes {w w7:World} {m:Mem} {S:Dq} {G:Nat→Prop} {o:Ox} {vb vm:Value} (hk:doE S o=0) (hb:Below w.heap.size w w7) (h1:BookAt w7 vb (doB S o)) (i1:In (News G w w7) vb) (h2:MksAt w7 vm (doM S o)) (i2:In (News G w w7) vm):
  DoPost w m S G o (.returned (.tuple #[vb,vm,.nilIface])) w7:=⟨vb,vm,by rw[hk];rfl,hb,fun _=>⟨⟨h1,i1⟩,h2,i2⟩⟩
theorem do_write_ok (m:Mem) (S:Dq) (G:Nat→Prop) (a b:Int) (p:ByteArray) (c:Int) (vs:Value) (s:List Dt) (w:World) (h:DocMem w m S G) (hbk:Bm.bookE S.book=0) (hmk:marksE S.marks=0) (hp:Pm.chk p.toList=0) (hk:Bm.writeE S.book p c=0):
  Calls Tryz.prog 113 #[.pointer (some ⟨m.D,0,none⟩),.agg #[.int .i64 a,.int .i64 b,.int .i64 1,.string p,.int .i64 c,vs]] w (DoPost w m S G ((a,b),1,p,c,s)):=by
 have HM:=z9 h
 have d0:=blk_cell h.blk (i:=0) (u:=m.vb) rfl
 have d1:=blk_cell h.blk (i:=1) (u:=m.vm) rfl
 have HB1:Hid (Below w.heap.size w (w.alloc (.cells #[.int .i64 a,.int .i64 b,.int .i64 1,.string p,.int .i64 c,vs] 75))):=(Below.refl _ w).alloc (Nat.le_refl _) _
 have HBLK:Hid (∀W,Below w.heap.size w W→W.cell? ⟨m.D,0,none⟩=some m.vb∧W.cell? ⟨m.D,1,none⟩=some m.vm∧W.frozen? ⟨m.D,0,none⟩=false∧W.frozen? ⟨m.D,1,none⟩=false):=fun W hb=>by
  have h9:=(h.below hb).blk
  exact⟨blk_cell h9 rfl,blk_cell h9 rfl,blk_free h9,blk_free h9⟩
 have HE:Hid (doE S ((a,b),1,p,c,s)=Bm.writeE S.book p c):=by unfold Hid doE;rw[if_pos rfl]
 have HDB:Hid (doB S ((a,b),1,p,c,s)=Bm.writeL S.book p c):=by unfold Hid doB;rw[if_pos rfl]
 have HDM:Hid (doM S ((a,b),1,p,c,s)=S.marks):=by unfold Hid doM;rw[if_neg (by decide:¬(1:Int)=3),if_neg (by decide:¬(1:Int)=4)]
 have CC:Hid (∀W,Below w.heap.size w W→Calls Tryz.prog 151 #[m.vb,.string p,.int .i64 c] W fun e w'=>∃v',e=.returned (.tuple #[v',errV (Bm.writeE S.book p c)])∧BookNew w.heap.size w' v' (Bm.writeL S.book p c)∧Below W.heap.size W w'):=
  fun W hb=>(Lk.write_loc m.vb S.book p c W (h.book.below hb) (small_book hbk) (small_place hp)).mono fun e w' ⟨v',h1,h2,h3⟩=>⟨v',h1,h2.mono hb.size,h3⟩
 rw[hk] at HE CC
 rw[errV_zero] at CC
 obtain⟨D,hD⟩:∃D,D=m.D:=⟨_,rfl⟩
 have HD:=z9 hD
 obtain⟨pb,nb,cb,hvb⟩:∃p n c,m.vb=.slice p n c:=by obtain⟨p,c,e,_⟩:=h.book;exact⟨_,_,_,e⟩
 obtain⟨pm,nm,cm,hvm⟩:∃p n c,m.vm=.slice p n c:=by obtain⟨p,c,e,_⟩:=h.marks;exact⟨_,_,_,e⟩
 have HVB:=z9 hvb
 have HVM:=z9 hvm
 rw[hvb,hvm,←hD] at HBLK
 rw[hvb,←hD] at d0
 rw[hvm,←hD] at d1
 rw[←hD]
 rw[hvb] at CC
 have e0:=keep_cell HB1.out d0
 have e1:=keep_cell HB1.out d1
 obtain⟨o0,o1,o2,o3,o4,o5⟩:=six_new w a b 1 p c vs 75
 clear h hD hvb hvm hbk hmk hp d0 d1 hk
 go_enter Tryz.func113,Tryz.ntmps113
 go_wp2_with fail
 go_quiet (fail)
 go_wp2_with fail
 generalize hwq:World.drewN _ _=wq
 have HBq:Hid (Below w.heap.size w wq):=by rw[←hwq];exact bel_drew HB1.out _
 have k0:wq.cell? ⟨w.heap.size,0,none⟩=some (.int .i64 a):=by rw[←hwq];exact o0
 have k1:wq.cell? ⟨w.heap.size,1,none⟩=some (.int .i64 b):=by rw[←hwq];exact o1
 have k2:wq.cell? ⟨w.heap.size,2,none⟩=some (.int .i64 1):=by rw[←hwq];exact o2
 have k3:wq.cell? ⟨w.heap.size,3,none⟩=some (.string p):=by rw[←hwq];exact o3
 have k4:wq.cell? ⟨w.heap.size,4,none⟩=some (.int .i64 c):=by rw[←hwq];exact o4
 have k5:wq.cell? ⟨w.heap.size,5,none⟩=some vs:=by rw[←hwq];exact o5
 clear hwq e0 e1 o0 o1 o2 o3 o4 o5 HB1
 go_wp2_with fail
 refine(CC.out wq HBq.out).mono ?_
 rintro e w7 ⟨v7,rfl,hk7,hb7⟩
 obtain⟨p7,n7,c7,rfl⟩:∃p n c,v7=.slice p n c:=by obtain⟨⟨p,c,e,_⟩,_⟩:=hk7;exact⟨_,_,_,e⟩
 have HK7:=z9 hk7
 have HB7:=z9 (bel HBq.out hb7)
 clear hk7
 clear hb7
 go_wp2_with fail
 go_ret3
 refine DoPost.yes HE.out HB7.out ?_ ?_ ?_ ?_
 ·rw[HDB.out];exact HK7.out.1
 ·exact(book_in HK7.out).mono fun g hg=>Or.inr hg
 ·rw[HDM.out,←HVM.out];exact HM.out.marks.below HB7.out
 ·rw[←HVM.out];exact HM.out.marksG.mono fun g hg=>Or.inl hg
theorem do_write_no (m:Mem) (S:Dq) (G:Nat→Prop) (a b:Int) (p:ByteArray) (c:Int) (vs:Value) (s:List Dt) (w:World) (h:DocMem w m S G) (hbk:Bm.bookE S.book=0) (hmk:marksE S.marks=0) (hp:Pm.chk p.toList=0) (k:Int) (hk:Bm.writeE S.book p c=k) (h0:k≠0):
  Calls Tryz.prog 113 #[.pointer (some ⟨m.D,0,none⟩),.agg #[.int .i64 a,.int .i64 b,.int .i64 1,.string p,.int .i64 c,vs]] w (DoPost w m S G ((a,b),1,p,c,s)):=by
 have HM:=z9 h
 have d0:=blk_cell h.blk (i:=0) (u:=m.vb) rfl
 have d1:=blk_cell h.blk (i:=1) (u:=m.vm) rfl
 have HB1:Hid (Below w.heap.size w (w.alloc (.cells #[.int .i64 a,.int .i64 b,.int .i64 1,.string p,.int .i64 c,vs] 75))):=(Below.refl _ w).alloc (Nat.le_refl _) _
 have HBLK:Hid (∀W,Below w.heap.size w W→W.cell? ⟨m.D,0,none⟩=some m.vb∧W.cell? ⟨m.D,1,none⟩=some m.vm∧W.frozen? ⟨m.D,0,none⟩=false∧W.frozen? ⟨m.D,1,none⟩=false):=fun W hb=>by
  have h9:=(h.below hb).blk
  exact⟨blk_cell h9 rfl,blk_cell h9 rfl,blk_free h9,blk_free h9⟩
 have HE:Hid (doE S ((a,b),1,p,c,s)=Bm.writeE S.book p c):=by unfold Hid doE;rw[if_pos rfl]
 have HDB:Hid (doB S ((a,b),1,p,c,s)=Bm.writeL S.book p c):=by unfold Hid doB;rw[if_pos rfl]
 have HDM:Hid (doM S ((a,b),1,p,c,s)=S.marks):=by unfold Hid doM;rw[if_neg (by decide:¬(1:Int)=3),if_neg (by decide:¬(1:Int)=4)]
 have CC:Hid (∀W,Below w.heap.size w W→Calls Tryz.prog 151 #[m.vb,.string p,.int .i64 c] W fun e w'=>∃v',e=.returned (.tuple #[v',errV (Bm.writeE S.book p c)])∧BookNew w.heap.size w' v' (Bm.writeL S.book p c)∧Below W.heap.size W w'):=
  fun W hb=>(Lk.write_loc m.vb S.book p c W (h.book.below hb) (small_book hbk) (small_place hp)).mono fun e w' ⟨v',h1,h2,h3⟩=>⟨v',h1,h2.mono hb.size,h3⟩
 rw[hk] at HE CC
 rw[errV_ne h0] at CC
 have H0:=z9 h0
 obtain⟨D,hD⟩:∃D,D=m.D:=⟨_,rfl⟩
 have HD:=z9 hD
 obtain⟨pb,nb,cb,hvb⟩:∃p n c,m.vb=.slice p n c:=by obtain⟨p,c,e,_⟩:=h.book;exact⟨_,_,_,e⟩
 obtain⟨pm,nm,cm,hvm⟩:∃p n c,m.vm=.slice p n c:=by obtain⟨p,c,e,_⟩:=h.marks;exact⟨_,_,_,e⟩
 have HVB:=z9 hvb
 have HVM:=z9 hvm
 rw[hvb,hvm,←hD] at HBLK
 rw[hvb,←hD] at d0
 rw[hvm,←hD] at d1
 rw[←hD]
 rw[hvb] at CC
 have e0:=keep_cell HB1.out d0
 have e1:=keep_cell HB1.out d1
 obtain⟨o0,o1,o2,o3,o4,o5⟩:=six_new w a b 1 p c vs 75
 clear h hD hvb hvm hbk hmk hp d0 d1 hk h0
 go_enter Tryz.func113,Tryz.ntmps113
 go_wp2_with fail
 go_quiet (fail)
 go_wp2_with fail
 generalize hwq:World.drewN _ _=wq
 have HBq:Hid (Below w.heap.size w wq):=by rw[←hwq];exact bel_drew HB1.out _
 have k0:wq.cell? ⟨w.heap.size,0,none⟩=some (.int .i64 a):=by rw[←hwq];exact o0
 have k1:wq.cell? ⟨w.heap.size,1,none⟩=some (.int .i64 b):=by rw[←hwq];exact o1
 have k2:wq.cell? ⟨w.heap.size,2,none⟩=some (.int .i64 1):=by rw[←hwq];exact o2
 have k3:wq.cell? ⟨w.heap.size,3,none⟩=some (.string p):=by rw[←hwq];exact o3
 have k4:wq.cell? ⟨w.heap.size,4,none⟩=some (.int .i64 c):=by rw[←hwq];exact o4
 have k5:wq.cell? ⟨w.heap.size,5,none⟩=some vs:=by rw[←hwq];exact o5
 clear hwq e0 e1 o0 o1 o2 o3 o4 o5 HB1
 go_wp2_with fail
 refine(CC.out wq HBq.out).mono ?_
 rintro e w7 ⟨v7,rfl,hk7,hb7⟩
 have HB7:=z9 (bel HBq.out hb7)
 clear hk7 hb7
 go_wp2_with fail
 go_ret3
 exact DoPost.no HE.out H0.out HB7.out
theorem do_strike_ok (m:Mem) (S:Dq) (G:Nat→Prop) (a b:Int) (p:ByteArray) (c:Int) (vs:Value) (s:List Dt) (w:World) (h:DocMem w m S G) (hbk:Bm.bookE S.book=0) (hmk:marksE S.marks=0) (hp:Pm.chk p.toList=0) (hk:Bm.strikeE S.book p=0):
  Calls Tryz.prog 113 #[.pointer (some ⟨m.D,0,none⟩),.agg #[.int .i64 a,.int .i64 b,.int .i64 2,.string p,.int .i64 c,vs]] w (DoPost w m S G ((a,b),2,p,c,s)):=by
 have HM:=z9 h
 have d0:=blk_cell h.blk (i:=0) (u:=m.vb) rfl
 have d1:=blk_cell h.blk (i:=1) (u:=m.vm) rfl
 have HB1:Hid (Below w.heap.size w (w.alloc (.cells #[.int .i64 a,.int .i64 b,.int .i64 2,.string p,.int .i64 c,vs] 75))):=(Below.refl _ w).alloc (Nat.le_refl _) _
 have HBLK:Hid (∀W,Below w.heap.size w W→W.cell? ⟨m.D,0,none⟩=some m.vb∧W.cell? ⟨m.D,1,none⟩=some m.vm∧W.frozen? ⟨m.D,0,none⟩=false∧W.frozen? ⟨m.D,1,none⟩=false):=fun W hb=>by
  have h9:=(h.below hb).blk
  exact⟨blk_cell h9 rfl,blk_cell h9 rfl,blk_free h9,blk_free h9⟩
 have HE:Hid (doE S ((a,b),2,p,c,s)=Bm.strikeE S.book p):=by unfold Hid doE;rw[if_neg (by decide:¬(2:Int)=1),if_pos rfl]
 have HDB:Hid (doB S ((a,b),2,p,c,s)=Bm.strikeL S.book p):=by unfold Hid doB;rw[if_neg (by decide:¬(2:Int)=1),if_pos rfl]
 have HDM:Hid (doM S ((a,b),2,p,c,s)=S.marks):=by unfold Hid doM;rw[if_neg (by decide:¬(2:Int)=3),if_neg (by decide:¬(2:Int)=4)]
 have CC:Hid (∀W,Below w.heap.size w W→Calls Tryz.prog 152 #[m.vb,.string p] W fun e w'=>∃v',e=.returned (.tuple #[v',errV (Bm.strikeE S.book p)])∧BookNew w.heap.size w' v' (Bm.strikeL S.book p)∧Below W.heap.size W w'):=
  fun W hb=>(Lk.strike_loc m.vb S.book p W (h.book.below hb) (small_book hbk) (small_place hp)).mono fun e w' ⟨v',h1,h2,h3⟩=>⟨v',h1,h2.mono hb.size,h3⟩
 rw[hk] at HE CC
 rw[errV_zero] at CC
 obtain⟨D,hD⟩:∃D,D=m.D:=⟨_,rfl⟩
 have HD:=z9 hD
 obtain⟨pb,nb,cb,hvb⟩:∃p n c,m.vb=.slice p n c:=by obtain⟨p,c,e,_⟩:=h.book;exact⟨_,_,_,e⟩
 obtain⟨pm,nm,cm,hvm⟩:∃p n c,m.vm=.slice p n c:=by obtain⟨p,c,e,_⟩:=h.marks;exact⟨_,_,_,e⟩
 have HVB:=z9 hvb
 have HVM:=z9 hvm
 rw[hvb,hvm,←hD] at HBLK
 rw[hvb,←hD] at d0
 rw[hvm,←hD] at d1
 rw[←hD]
 rw[hvb] at CC
 have e0:=keep_cell HB1.out d0
 have e1:=keep_cell HB1.out d1
 obtain⟨o0,o1,o2,o3,o4,o5⟩:=six_new w a b 2 p c vs 75
 clear h hD hvb hvm hbk hmk hp d0 d1 hk
 go_enter Tryz.func113,Tryz.ntmps113
 go_wp2_with fail
 go_quiet (fail)
 go_wp2_with fail
 generalize hwq:World.drewN _ _=wq
 have HBq:Hid (Below w.heap.size w wq):=by rw[←hwq];exact bel_drew HB1.out _
 have k0:wq.cell? ⟨w.heap.size,0,none⟩=some (.int .i64 a):=by rw[←hwq];exact o0
 have k1:wq.cell? ⟨w.heap.size,1,none⟩=some (.int .i64 b):=by rw[←hwq];exact o1
 have k2:wq.cell? ⟨w.heap.size,2,none⟩=some (.int .i64 2):=by rw[←hwq];exact o2
 have k3:wq.cell? ⟨w.heap.size,3,none⟩=some (.string p):=by rw[←hwq];exact o3
 have k4:wq.cell? ⟨w.heap.size,4,none⟩=some (.int .i64 c):=by rw[←hwq];exact o4
 have k5:wq.cell? ⟨w.heap.size,5,none⟩=some vs:=by rw[←hwq];exact o5
 clear hwq e0 e1 o0 o1 o2 o3 o4 o5 HB1
 go_wp2_with fail
 refine(CC.out wq HBq.out).mono ?_
 rintro e w7 ⟨v7,rfl,hk7,hb7⟩
 obtain⟨p7,n7,c7,rfl⟩:∃p n c,v7=.slice p n c:=by obtain⟨⟨p,c,e,_⟩,_⟩:=hk7;exact⟨_,_,_,e⟩
 have HK7:=z9 hk7
 have HB7:=z9 (bel HBq.out hb7)
 clear hk7
 clear hb7
 go_wp2_with fail
 go_ret3
 refine DoPost.yes HE.out HB7.out ?_ ?_ ?_ ?_
 ·rw[HDB.out];exact HK7.out.1
 ·exact(book_in HK7.out).mono fun g hg=>Or.inr hg
 ·rw[HDM.out,←HVM.out];exact HM.out.marks.below HB7.out
 ·rw[←HVM.out];exact HM.out.marksG.mono fun g hg=>Or.inl hg
theorem do_strike_no (m:Mem) (S:Dq) (G:Nat→Prop) (a b:Int) (p:ByteArray) (c:Int) (vs:Value) (s:List Dt) (w:World) (h:DocMem w m S G) (hbk:Bm.bookE S.book=0) (hmk:marksE S.marks=0) (hp:Pm.chk p.toList=0) (k:Int) (hk:Bm.strikeE S.book p=k) (h0:k≠0):
  Calls Tryz.prog 113 #[.pointer (some ⟨m.D,0,none⟩),.agg #[.int .i64 a,.int .i64 b,.int .i64 2,.string p,.int .i64 c,vs]] w (DoPost w m S G ((a,b),2,p,c,s)):=by
 have HM:=z9 h
 have d0:=blk_cell h.blk (i:=0) (u:=m.vb) rfl
 have d1:=blk_cell h.blk (i:=1) (u:=m.vm) rfl
 have HB1:Hid (Below w.heap.size w (w.alloc (.cells #[.int .i64 a,.int .i64 b,.int .i64 2,.string p,.int .i64 c,vs] 75))):=(Below.refl _ w).alloc (Nat.le_refl _) _
 have HBLK:Hid (∀W,Below w.heap.size w W→W.cell? ⟨m.D,0,none⟩=some m.vb∧W.cell? ⟨m.D,1,none⟩=some m.vm∧W.frozen? ⟨m.D,0,none⟩=false∧W.frozen? ⟨m.D,1,none⟩=false):=fun W hb=>by
  have h9:=(h.below hb).blk
  exact⟨blk_cell h9 rfl,blk_cell h9 rfl,blk_free h9,blk_free h9⟩
 have HE:Hid (doE S ((a,b),2,p,c,s)=Bm.strikeE S.book p):=by unfold Hid doE;rw[if_neg (by decide:¬(2:Int)=1),if_pos rfl]
 have HDB:Hid (doB S ((a,b),2,p,c,s)=Bm.strikeL S.book p):=by unfold Hid doB;rw[if_neg (by decide:¬(2:Int)=1),if_pos rfl]
 have HDM:Hid (doM S ((a,b),2,p,c,s)=S.marks):=by unfold Hid doM;rw[if_neg (by decide:¬(2:Int)=3),if_neg (by decide:¬(2:Int)=4)]
 have CC:Hid (∀W,Below w.heap.size w W→Calls Tryz.prog 152 #[m.vb,.string p] W fun e w'=>∃v',e=.returned (.tuple #[v',errV (Bm.strikeE S.book p)])∧BookNew w.heap.size w' v' (Bm.strikeL S.book p)∧Below W.heap.size W w'):=
  fun W hb=>(Lk.strike_loc m.vb S.book p W (h.book.below hb) (small_book hbk) (small_place hp)).mono fun e w' ⟨v',h1,h2,h3⟩=>⟨v',h1,h2.mono hb.size,h3⟩
 rw[hk] at HE CC
 rw[errV_ne h0] at CC
 have H0:=z9 h0
 obtain⟨D,hD⟩:∃D,D=m.D:=⟨_,rfl⟩
 have HD:=z9 hD
 obtain⟨pb,nb,cb,hvb⟩:∃p n c,m.vb=.slice p n c:=by obtain⟨p,c,e,_⟩:=h.book;exact⟨_,_,_,e⟩
 obtain⟨pm,nm,cm,hvm⟩:∃p n c,m.vm=.slice p n c:=by obtain⟨p,c,e,_⟩:=h.marks;exact⟨_,_,_,e⟩
 have HVB:=z9 hvb
 have HVM:=z9 hvm
 rw[hvb,hvm,←hD] at HBLK
 rw[hvb,←hD] at d0
 rw[hvm,←hD] at d1
 rw[←hD]
 rw[hvb] at CC
 have e0:=keep_cell HB1.out d0
 have e1:=keep_cell HB1.out d1
 obtain⟨o0,o1,o2,o3,o4,o5⟩:=six_new w a b 2 p c vs 75
 clear h hD hvb hvm hbk hmk hp d0 d1 hk h0
 go_enter Tryz.func113,Tryz.ntmps113
 go_wp2_with fail
 go_quiet (fail)
 go_wp2_with fail
 generalize hwq:World.drewN _ _=wq
 have HBq:Hid (Below w.heap.size w wq):=by rw[←hwq];exact bel_drew HB1.out _
 have k0:wq.cell? ⟨w.heap.size,0,none⟩=some (.int .i64 a):=by rw[←hwq];exact o0
 have k1:wq.cell? ⟨w.heap.size,1,none⟩=some (.int .i64 b):=by rw[←hwq];exact o1
 have k2:wq.cell? ⟨w.heap.size,2,none⟩=some (.int .i64 2):=by rw[←hwq];exact o2
 have k3:wq.cell? ⟨w.heap.size,3,none⟩=some (.string p):=by rw[←hwq];exact o3
 have k4:wq.cell? ⟨w.heap.size,4,none⟩=some (.int .i64 c):=by rw[←hwq];exact o4
 have k5:wq.cell? ⟨w.heap.size,5,none⟩=some vs:=by rw[←hwq];exact o5
 clear hwq e0 e1 o0 o1 o2 o3 o4 o5 HB1
 go_wp2_with fail
 refine(CC.out wq HBq.out).mono ?_
 rintro e w7 ⟨v7,rfl,hk7,hb7⟩
 have HB7:=z9 (bel HBq.out hb7)
 clear hk7 hb7
 go_wp2_with fail
 go_ret3
 exact DoPost.no HE.out H0.out HB7.out
theorem do_cut_gone (m:Mem) (S:Dq) (G:Nat→Prop) (a b:Int) (p:ByteArray) (c:Int) (vs:Value) (s:List Dt) (w:World) (h:DocMem w m S G) (hbk:Bm.bookE S.book=0) (hmk:marksE S.marks=0) (hp:Pm.chk p.toList=0) (hs:∀x ∈ m.M,x.2.2.length≤1048576) (hj:isIn (getJ m.M (a,b)) p=true) (hsw:saw S.ops p (a,b)=true):
  Calls Tryz.prog 113 #[.pointer (some ⟨m.D,0,none⟩),.agg #[.int .i64 a,.int .i64 b,.int .i64 3,.string p,.int .i64 c,vs]] w (DoPost w m S G ((a,b),3,p,c,s)):=by
 have HM:=z9 h
 have d0:=blk_cell h.blk (i:=0) (u:=m.vb) rfl
 have d1:=blk_cell h.blk (i:=1) (u:=m.vm) rfl
 have HB1:Hid (Below w.heap.size w (w.alloc (.cells #[.int .i64 a,.int .i64 b,.int .i64 3,.string p,.int .i64 c,vs] 75))):=(Below.refl _ w).alloc (Nat.le_refl _) _
 have HBLK:Hid (∀W,Below w.heap.size w W→W.cell? ⟨m.D,0,none⟩=some m.vb∧W.cell? ⟨m.D,1,none⟩=some m.vm∧W.frozen? ⟨m.D,0,none⟩=false∧W.frozen? ⟨m.D,1,none⟩=false):=fun W hb=>by
  have h9:=(h.below hb).blk
  exact⟨blk_cell h9 rfl,blk_cell h9 rfl,blk_free h9,blk_free h9⟩
 have HDB:Hid (doB S ((a,b),3,p,c,s)=S.book):=by unfold Hid doB;rw[if_neg (by decide:¬(3:Int)=1),if_neg (by decide:¬(3:Int)=2)]
 have HE:Hid (doE S ((a,b),3,p,c,s)=0):=by unfold Hid doE;rw[if_neg (by decide:¬(3:Int)=1),if_neg (by decide:¬(3:Int)=2),if_pos rfl];simp only[hsw,if_true]
 have HDM:Hid (doM S ((a,b),3,p,c,s)=S.marks):=by unfold Hid doM;rw[if_pos rfl];simp only[hsw,if_true]
 have CC:Hid (∀W,Below w.heap.size w W→Calls Tryz.prog 153 #[.pointer (some ⟨m.D,0,none⟩),.agg #[.int .i64 a,.int .i64 b,.int .i64 3,.string p,.int .i64 c,vs]] W fun e w'=>e=.returned (.tuple #[m.vm,.nilIface])∧Below W.heap.size W w'):=
  fun W hb=>cut_gone m S G a b 3 p c vs W (h.below hb) hs hj
 obtain⟨D,hD⟩:∃D,D=m.D:=⟨_,rfl⟩
 have HD:=z9 hD
 obtain⟨pb,nb,cb,hvb⟩:∃p n c,m.vb=.slice p n c:=by obtain⟨p,c,e,_⟩:=h.book;exact⟨_,_,_,e⟩
 obtain⟨pm,nm,cm,hvm⟩:∃p n c,m.vm=.slice p n c:=by obtain⟨p,c,e,_⟩:=h.marks;exact⟨_,_,_,e⟩
 have HVB:=z9 hvb
 have HVM:=z9 hvm
 rw[hvb,hvm,←hD] at HBLK
 rw[hvb,←hD] at d0
 rw[hvm,←hD] at d1
 rw[←hD]
 rw[hvm,←hD] at CC
 have e0:=keep_cell HB1.out d0
 have e1:=keep_cell HB1.out d1
 obtain⟨o0,o1,o2,o3,o4,o5⟩:=six_new w a b 3 p c vs 75
 clear h hD hvb hvm hbk hmk hp d0 d1 hs hj hsw
 go_enter Tryz.func113,Tryz.ntmps113
 go_wp2_with fail
 go_quiet (fail)
 go_wp2_with fail
 generalize hwq:World.drewN _ _=wq
 have HBq:Hid (Below w.heap.size w wq):=by rw[←hwq];exact bel_drew HB1.out _
 have k0:wq.cell? ⟨w.heap.size,0,none⟩=some (.int .i64 a):=by rw[←hwq];exact o0
 have k1:wq.cell? ⟨w.heap.size,1,none⟩=some (.int .i64 b):=by rw[←hwq];exact o1
 have k2:wq.cell? ⟨w.heap.size,2,none⟩=some (.int .i64 3):=by rw[←hwq];exact o2
 have k3:wq.cell? ⟨w.heap.size,3,none⟩=some (.string p):=by rw[←hwq];exact o3
 have k4:wq.cell? ⟨w.heap.size,4,none⟩=some (.int .i64 c):=by rw[←hwq];exact o4
 have k5:wq.cell? ⟨w.heap.size,5,none⟩=some vs:=by rw[←hwq];exact o5
 clear hwq e0 e1 o0 o1 o2 o3 o4 o5 HB1
 go_wp2_with fail
 refine(CC.out wq HBq.out).mono ?_
 rintro e w7 ⟨rfl,hb7⟩
 have HB7:=z9 (bel HBq.out hb7)
 clear hb7
 go_wp2_with fail
 go_ret3
 refine DoPost.yes HE.out HB7.out ?_ ?_ ?_ ?_
 ·rw[HDB.out,←HVB.out];exact HM.out.book.below HB7.out
 ·rw[←HVB.out];exact HM.out.bookG.mono fun g hg=>Or.inl hg
 ·rw[HDM.out,←HVM.out];exact HM.out.marks.below HB7.out
 ·rw[←HVM.out];exact HM.out.marksG.mono fun g hg=>Or.inl hg
theorem do_cut_ok (m:Mem) (S:Dq) (G:Nat→Prop) (a b:Int) (p:ByteArray) (c:Int) (vs:Value) (s:List Dt) (w:World) (h:DocMem w m S G) (hbk:Bm.bookE S.book=0) (hmk:marksE S.marks=0) (hp:Pm.chk p.toList=0) (hs:∀x ∈ m.M,x.2.2.length≤1048576) (hd:dotE a b=0) (hj:isIn (getJ m.M (a,b)) p=false) (hsw:saw S.ops p (a,b)=false) (hk:withM S.marks (p,(a,b))=0):
  Calls Tryz.prog 113 #[.pointer (some ⟨m.D,0,none⟩),.agg #[.int .i64 a,.int .i64 b,.int .i64 3,.string p,.int .i64 c,vs]] w (DoPost w m S G ((a,b),3,p,c,s)):=by
 have HM:=z9 h
 have d0:=blk_cell h.blk (i:=0) (u:=m.vb) rfl
 have d1:=blk_cell h.blk (i:=1) (u:=m.vm) rfl
 have HB1:Hid (Below w.heap.size w (w.alloc (.cells #[.int .i64 a,.int .i64 b,.int .i64 3,.string p,.int .i64 c,vs] 75))):=(Below.refl _ w).alloc (Nat.le_refl _) _
 have HBLK:Hid (∀W,Below w.heap.size w W→W.cell? ⟨m.D,0,none⟩=some m.vb∧W.cell? ⟨m.D,1,none⟩=some m.vm∧W.frozen? ⟨m.D,0,none⟩=false∧W.frozen? ⟨m.D,1,none⟩=false):=fun W hb=>by
  have h9:=(h.below hb).blk
  exact⟨blk_cell h9 rfl,blk_cell h9 rfl,blk_free h9,blk_free h9⟩
 have HDB:Hid (doB S ((a,b),3,p,c,s)=S.book):=by unfold Hid doB;rw[if_neg (by decide:¬(3:Int)=1),if_neg (by decide:¬(3:Int)=2)]
 have CC:Hid (∀W,Below w.heap.size w W→Calls Tryz.prog 153 #[.pointer (some ⟨m.D,0,none⟩),.agg #[.int .i64 a,.int .i64 b,.int .i64 3,.string p,.int .i64 c,vs]] W fun e w'=>∃v',e=.returned (.tuple #[v',errV (cutE S.marks (p,(a,b)))])∧MksNew w.heap.size w' v' (cutL S.marks (p,(a,b)))∧Below W.heap.size W w'):=
  fun W hb=>(cut_not m S G a b 3 p c vs W (h.below hb) hs hj hmk (small_place hp)).mono fun e w' ⟨v',h1,h2,h3⟩=>⟨v',h1,h2.mono hb.size,h3⟩
 have hcw:cutE S.marks (p,(a,b))=withM S.marks (p,(a,b)):=by
  unfold cutE;rw[if_neg (by simpa using hmk),if_neg (by unfold markE;rw[if_neg (by simpa using hp)];simpa using hd)]
 have HE:Hid (doE S ((a,b),3,p,c,s)=withM S.marks (p,(a,b))):=by unfold Hid doE;rw[if_neg (by decide:¬(3:Int)=1),if_neg (by decide:¬(3:Int)=2),if_pos rfl];simp only[hsw];rfl
 have HDM:Hid (doM S ((a,b),3,p,c,s)=ins mlt S.marks (p,(a,b))):=by unfold Hid doM;rw[if_pos rfl];simp only[hsw];rfl
 have hcl:cutL S.marks (p,(a,b))=ins mlt S.marks (p,(a,b)):=by unfold cutL;rw[hcw,if_pos hk]
 rw[hk] at HE
 rw[hcw,hk,errV_zero,hcl] at CC
 obtain⟨D,hD⟩:∃D,D=m.D:=⟨_,rfl⟩
 have HD:=z9 hD
 obtain⟨pb,nb,cb,hvb⟩:∃p n c,m.vb=.slice p n c:=by obtain⟨p,c,e,_⟩:=h.book;exact⟨_,_,_,e⟩
 obtain⟨pm,nm,cm,hvm⟩:∃p n c,m.vm=.slice p n c:=by obtain⟨p,c,e,_⟩:=h.marks;exact⟨_,_,_,e⟩
 have HVB:=z9 hvb
 have HVM:=z9 hvm
 rw[hvb,hvm,←hD] at HBLK
 rw[hvb,←hD] at d0
 rw[hvm,←hD] at d1
 rw[←hD]
 rw[←hD] at CC
 have e0:=keep_cell HB1.out d0
 have e1:=keep_cell HB1.out d1
 obtain⟨o0,o1,o2,o3,o4,o5⟩:=six_new w a b 3 p c vs 75
 clear h hD hvb hvm hbk hmk hp d0 d1 hs hj hsw hk hcl hcw hd
 go_enter Tryz.func113,Tryz.ntmps113
 go_wp2_with fail
 go_quiet (fail)
 go_wp2_with fail
 generalize hwq:World.drewN _ _=wq
 have HBq:Hid (Below w.heap.size w wq):=by rw[←hwq];exact bel_drew HB1.out _
 have k0:wq.cell? ⟨w.heap.size,0,none⟩=some (.int .i64 a):=by rw[←hwq];exact o0
 have k1:wq.cell? ⟨w.heap.size,1,none⟩=some (.int .i64 b):=by rw[←hwq];exact o1
 have k2:wq.cell? ⟨w.heap.size,2,none⟩=some (.int .i64 3):=by rw[←hwq];exact o2
 have k3:wq.cell? ⟨w.heap.size,3,none⟩=some (.string p):=by rw[←hwq];exact o3
 have k4:wq.cell? ⟨w.heap.size,4,none⟩=some (.int .i64 c):=by rw[←hwq];exact o4
 have k5:wq.cell? ⟨w.heap.size,5,none⟩=some vs:=by rw[←hwq];exact o5
 clear hwq e0 e1 o0 o1 o2 o3 o4 o5 HB1
 go_wp2_with fail
 refine(CC.out wq HBq.out).mono ?_
 rintro e w7 ⟨v7,rfl,hk7,hb7⟩
 obtain⟨p7,n7,c7,rfl⟩:∃p n c,v7=.slice p n c:=by obtain⟨⟨p,c,e,_⟩,_⟩:=hk7;exact⟨_,_,_,e⟩
 have HK7:=z9 hk7
 have HB7:=z9 (bel HBq.out hb7)
 clear hk7
 clear hb7
 go_wp2_with fail
 go_ret3
 refine DoPost.yes HE.out HB7.out ?_ ?_ ?_ ?_
 ·rw[HDB.out,←HVB.out];exact HM.out.book.below HB7.out
 ·rw[←HVB.out];exact HM.out.bookG.mono fun g hg=>Or.inl hg
 ·rw[HDM.out];exact HK7.out.1
 ·exact(marks_in HK7.out).mono fun g hg=>Or.inr hg
theorem do_cut_no (m:Mem) (S:Dq) (G:Nat→Prop) (a b:Int) (p:ByteArray) (c:Int) (vs:Value) (s:List Dt) (w:World) (h:DocMem w m S G) (hbk:Bm.bookE S.book=0) (hmk:marksE S.marks=0) (hp:Pm.chk p.toList=0) (hs:∀x ∈ m.M,x.2.2.length≤1048576) (hd:dotE a b=0) (hj:isIn (getJ m.M (a,b)) p=false) (hsw:saw S.ops p (a,b)=false) (k:Int) (hk:withM S.marks (p,(a,b))=k) (h0:k≠0):
  Calls Tryz.prog 113 #[.pointer (some ⟨m.D,0,none⟩),.agg #[.int .i64 a,.int .i64 b,.int .i64 3,.string p,.int .i64 c,vs]] w (DoPost w m S G ((a,b),3,p,c,s)):=by
 have HM:=z9 h
 have d0:=blk_cell h.blk (i:=0) (u:=m.vb) rfl
 have d1:=blk_cell h.blk (i:=1) (u:=m.vm) rfl
 have HB1:Hid (Below w.heap.size w (w.alloc (.cells #[.int .i64 a,.int .i64 b,.int .i64 3,.string p,.int .i64 c,vs] 75))):=(Below.refl _ w).alloc (Nat.le_refl _) _
 have HBLK:Hid (∀W,Below w.heap.size w W→W.cell? ⟨m.D,0,none⟩=some m.vb∧W.cell? ⟨m.D,1,none⟩=some m.vm∧W.frozen? ⟨m.D,0,none⟩=false∧W.frozen? ⟨m.D,1,none⟩=false):=fun W hb=>by
  have h9:=(h.below hb).blk
  exact⟨blk_cell h9 rfl,blk_cell h9 rfl,blk_free h9,blk_free h9⟩
 have CC:Hid (∀W,Below w.heap.size w W→Calls Tryz.prog 153 #[.pointer (some ⟨m.D,0,none⟩),.agg #[.int .i64 a,.int .i64 b,.int .i64 3,.string p,.int .i64 c,vs]] W fun e w'=>∃v',e=.returned (.tuple #[v',errV (cutE S.marks (p,(a,b)))])∧MksNew w.heap.size w' v' (cutL S.marks (p,(a,b)))∧Below W.heap.size W w'):=
  fun W hb=>(cut_not m S G a b 3 p c vs W (h.below hb) hs hj hmk (small_place hp)).mono fun e w' ⟨v',h1,h2,h3⟩=>⟨v',h1,h2.mono hb.size,h3⟩
 have hcw:cutE S.marks (p,(a,b))=withM S.marks (p,(a,b)):=by
  unfold cutE;rw[if_neg (by simpa using hmk),if_neg (by unfold markE;rw[if_neg (by simpa using hp)];simpa using hd)]
 have HE:Hid (doE S ((a,b),3,p,c,s)=withM S.marks (p,(a,b))):=by unfold Hid doE;rw[if_neg (by decide:¬(3:Int)=1),if_neg (by decide:¬(3:Int)=2),if_pos rfl];simp only[hsw];rfl
 have HDM:Hid (doM S ((a,b),3,p,c,s)=ins mlt S.marks (p,(a,b))):=by unfold Hid doM;rw[if_pos rfl];simp only[hsw];rfl
 have H0:=z9 h0
 rw[hk] at HE
 rw[hcw,hk,errV_ne h0] at CC
 obtain⟨D,hD⟩:∃D,D=m.D:=⟨_,rfl⟩
 have HD:=z9 hD
 obtain⟨pb,nb,cb,hvb⟩:∃p n c,m.vb=.slice p n c:=by obtain⟨p,c,e,_⟩:=h.book;exact⟨_,_,_,e⟩
 obtain⟨pm,nm,cm,hvm⟩:∃p n c,m.vm=.slice p n c:=by obtain⟨p,c,e,_⟩:=h.marks;exact⟨_,_,_,e⟩
 have HVB:=z9 hvb
 have HVM:=z9 hvm
 rw[hvb,hvm,←hD] at HBLK
 rw[hvb,←hD] at d0
 rw[hvm,←hD] at d1
 rw[←hD]
 rw[←hD] at CC
 have e0:=keep_cell HB1.out d0
 have e1:=keep_cell HB1.out d1
 obtain⟨o0,o1,o2,o3,o4,o5⟩:=six_new w a b 3 p c vs 75
 clear h hD hvb hvm hbk hmk hp d0 d1 hs hj hsw hk hcw hd h0
 go_enter Tryz.func113,Tryz.ntmps113
 go_wp2_with fail
 go_quiet (fail)
 go_wp2_with fail
 generalize hwq:World.drewN _ _=wq
 have HBq:Hid (Below w.heap.size w wq):=by rw[←hwq];exact bel_drew HB1.out _
 have k0:wq.cell? ⟨w.heap.size,0,none⟩=some (.int .i64 a):=by rw[←hwq];exact o0
 have k1:wq.cell? ⟨w.heap.size,1,none⟩=some (.int .i64 b):=by rw[←hwq];exact o1
 have k2:wq.cell? ⟨w.heap.size,2,none⟩=some (.int .i64 3):=by rw[←hwq];exact o2
 have k3:wq.cell? ⟨w.heap.size,3,none⟩=some (.string p):=by rw[←hwq];exact o3
 have k4:wq.cell? ⟨w.heap.size,4,none⟩=some (.int .i64 c):=by rw[←hwq];exact o4
 have k5:wq.cell? ⟨w.heap.size,5,none⟩=some vs:=by rw[←hwq];exact o5
 clear hwq e0 e1 o0 o1 o2 o3 o4 o5 HB1
 go_wp2_with fail
 refine(CC.out wq HBq.out).mono ?_
 rintro e w7 ⟨v7,rfl,hk7,hb7⟩
 have HB7:=z9 (bel HBq.out hb7)
 clear hk7 hb7
 go_wp2_with fail
 go_ret3
 exact DoPost.no HE.out H0.out HB7.out
theorem do_join_ok (m:Mem) (S:Dq) (G:Nat→Prop) (a b:Int) (p:ByteArray) (c:Int) (vs:Value) (s:List Dt) (w:World) (h:DocMem w m S G) (hbk:Bm.bookE S.book=0) (hmk:marksE S.marks=0) (hp:Pm.chk p.toList=0) (hd:DtsAt w vs s) (h0:joinE S.marks p s=0):
  Calls Tryz.prog 113 #[.pointer (some ⟨m.D,0,none⟩),.agg #[.int .i64 a,.int .i64 b,.int .i64 4,.string p,.int .i64 c,vs]] w (DoPost w m S G ((a,b),4,p,c,s)):=by
 have HM:=z9 h
 have d0:=blk_cell h.blk (i:=0) (u:=m.vb) rfl
 have d1:=blk_cell h.blk (i:=1) (u:=m.vm) rfl
 have HB1:Hid (Below w.heap.size w (w.alloc (.cells #[.int .i64 a,.int .i64 b,.int .i64 4,.string p,.int .i64 c,vs] 75))):=(Below.refl _ w).alloc (Nat.le_refl _) _
 have HBLK:Hid (∀W,Below w.heap.size w W→W.cell? ⟨m.D,0,none⟩=some m.vb∧W.cell? ⟨m.D,1,none⟩=some m.vm∧W.frozen? ⟨m.D,0,none⟩=false∧W.frozen? ⟨m.D,1,none⟩=false):=fun W hb=>by
  have h9:=(h.below hb).blk
  exact⟨blk_cell h9 rfl,blk_cell h9 rfl,blk_free h9,blk_free h9⟩
 have HDB:Hid (doB S ((a,b),4,p,c,s)=S.book):=by unfold Hid doB;rw[if_neg (by decide:¬(4:Int)=1),if_neg (by decide:¬(4:Int)=2)]
 have HE:Hid (doE S ((a,b),4,p,c,s)=0):=by unfold Hid doE;rw[if_neg (by decide:¬(4:Int)=1),if_neg (by decide:¬(4:Int)=2),if_neg (by decide:¬(4:Int)=3)]
 have HDM:Hid (doM S ((a,b),4,p,c,s)=without S.marks p s):=by unfold Hid doM;rw[if_neg (by decide:¬(4:Int)=3),if_pos rfl]
 have hms:∀x ∈ S.marks,x.1.size≤maxLen:=fun x hx=>mark_small ((marksE_zero.1 hmk).2.1 x hx)
 have CC:Hid (∀W,Below w.heap.size w W→Calls Tryz.prog 154 #[m.vm,.string p,vs] W fun e w'=>∃v',e=.returned (.tuple #[v',.nilIface])∧MksNew w.heap.size w' v' (without S.marks p s)∧Below W.heap.size W w'):=
  fun W hb=>(Nn.join_loc m.vm S.marks p vs s W (h.marks.below hb) hms (small_place hp) (hd.below hb) h0).mono fun e w' ⟨v',h1,h2,h3⟩=>⟨v',h1,h2.mono hb.size,h3⟩
 obtain⟨D,hD⟩:∃D,D=m.D:=⟨_,rfl⟩
 have HD:=z9 hD
 obtain⟨pb,nb,cb,hvb⟩:∃p n c,m.vb=.slice p n c:=by obtain⟨p,c,e,_⟩:=h.book;exact⟨_,_,_,e⟩
 obtain⟨pm,nm,cm,hvm⟩:∃p n c,m.vm=.slice p n c:=by obtain⟨p,c,e,_⟩:=h.marks;exact⟨_,_,_,e⟩
 have HVB:=z9 hvb
 have HVM:=z9 hvm
 rw[hvb,hvm,←hD] at HBLK
 rw[hvb,←hD] at d0
 rw[hvm,←hD] at d1
 rw[←hD]
 rw[hvm] at CC
 have e0:=keep_cell HB1.out d0
 have e1:=keep_cell HB1.out d1
 obtain⟨o0,o1,o2,o3,o4,o5⟩:=six_new w a b 4 p c vs 75
 clear h hD hvb hvm hbk hmk hp d0 d1 hd h0 hms
 go_enter Tryz.func113,Tryz.ntmps113
 go_wp2_with fail
 go_quiet (fail)
 go_wp2_with fail
 generalize hwq:World.drewN _ _=wq
 have HBq:Hid (Below w.heap.size w wq):=by rw[←hwq];exact bel_drew HB1.out _
 have k0:wq.cell? ⟨w.heap.size,0,none⟩=some (.int .i64 a):=by rw[←hwq];exact o0
 have k1:wq.cell? ⟨w.heap.size,1,none⟩=some (.int .i64 b):=by rw[←hwq];exact o1
 have k2:wq.cell? ⟨w.heap.size,2,none⟩=some (.int .i64 4):=by rw[←hwq];exact o2
 have k3:wq.cell? ⟨w.heap.size,3,none⟩=some (.string p):=by rw[←hwq];exact o3
 have k4:wq.cell? ⟨w.heap.size,4,none⟩=some (.int .i64 c):=by rw[←hwq];exact o4
 have k5:wq.cell? ⟨w.heap.size,5,none⟩=some vs:=by rw[←hwq];exact o5
 clear hwq e0 e1 o0 o1 o2 o3 o4 o5 HB1
 go_wp2_with fail
 refine(CC.out wq HBq.out).mono ?_
 rintro e w7 ⟨v7,rfl,hk7,hb7⟩
 obtain⟨p7,n7,c7,rfl⟩:∃p n c,v7=.slice p n c:=by obtain⟨⟨p,c,e,_⟩,_⟩:=hk7;exact⟨_,_,_,e⟩
 have HK7:=z9 hk7
 have HB7:=z9 (bel HBq.out hb7)
 clear hk7
 clear hb7
 go_wp2_with fail
 go_ret3
 refine DoPost.yes HE.out HB7.out ?_ ?_ ?_ ?_
 ·rw[HDB.out,←HVB.out];exact HM.out.book.below HB7.out
 ·rw[←HVB.out];exact HM.out.bookG.mono fun g hg=>Or.inl hg
 ·rw[HDM.out];exact HK7.out.1
 ·exact(marks_in HK7.out).mono fun g hg=>Or.inr hg
/- a doc's done, at every op that is right -/
theorem do_any (m:Mem) (S:Dq) (G:Nat→Prop) (a b t:Int) (p:ByteArray) (c:Int) (vs:Value) (s:List Dt) (w:World) (h:DocOk w m S G) (ho:opE ((a,b),t,p,c,s)=0) (hd:DtsAt w vs s) (hun:kn S a<b):
  Calls Tryz.prog 113 #[.pointer (some ⟨m.D,0,none⟩),.agg #[.int .i64 a,.int .i64 b,.int .i64 t,.string p,.int .i64 c,vs]] w (DoPost w m S G ((a,b),t,p,c,s)):=by
 obtain⟨e1,e2,e3,e4⟩:=opE_zero.1 ho
 simp only at e1 e2 e3 e4
 have hbk:=h.inv.book
 have hmk:=h.inv.marks
 have hs:∀x ∈ m.M,x.2.2.length≤1048576:=fun x hx=>Nat.le_trans (h.short x hx) (by have:=h.inv.few;omega)
 have hjs:isIn (getJ m.M (a,b)) p=saw S.ops p (a,b):=by
  have:=h.jn (a,b) p e1 hun
  rw[Bool.eq_iff_iff,isIn_iff];exact this
 have ht:t=1∨t=2∨t=3∨t=4:=by omega
 rcases ht with rfl | rfl | rfl | rfl
 ·by_cases hk:Bm.writeE S.book p c=0
  ·exact do_write_ok m S G a b p c vs s w h.mem hbk hmk e3 hk
  ·exact do_write_no m S G a b p c vs s w h.mem hbk hmk e3 _ rfl hk
 ·by_cases hk:Bm.strikeE S.book p=0
  ·exact do_strike_ok m S G a b p c vs s w h.mem hbk hmk e3 hk
  ·exact do_strike_no m S G a b p c vs s w h.mem hbk hmk e3 _ rfl hk
 ·cases hsw:saw S.ops p (a,b)
  ·by_cases hk:withM S.marks (p,(a,b))=0
   ·exact do_cut_ok m S G a b p c vs s w h.mem hbk hmk e3 hs e1 (hjs.trans hsw) hsw hk
   ·exact do_cut_no m S G a b p c vs s w h.mem hbk hmk e3 hs e1 (hjs.trans hsw) hsw _ rfl hk
  ·exact do_cut_gone m S G a b p c vs s w h.mem hbk hmk e3 hs (hjs.trans hsw) hsw
 ·have h0:joinE S.marks p s=0:=joinE_zero.2 ⟨seenE_zero.2 ⟨hmk,e3⟩,(lawOf_zero.1 e4).2.2.2.1,(lawOf_zero.1 e4).2.2.2.2⟩
  exact do_join_ok m S G a b p c vs s w h.mem hbk hmk e3 hd h0
end Ie
end Go.Proofs.YtlmdchpbpgcfmaaGreatDoor
