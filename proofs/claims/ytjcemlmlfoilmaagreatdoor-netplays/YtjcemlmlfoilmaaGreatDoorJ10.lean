import Derived.Test.YtjcemlmlfoilmaaGreatDoorJ3
import Derived.Test.YtjcemlmlfoilmaaGreatDoorJ6
import Derived.Test.YtjcemlmlfoilmaaGreatDoorJ9
import Derived.Test.YtjcemlmlfoilmaaGreatDoorJ8
import Derived.Maps.OwnSet
set_option linter.unusedSimpArgs false
set_option linter.unusedVariables false
set_option maxRecDepth 100000
set_option maxHeartbeats 8000000
namespace Go.Proofs.YtjcemlmlfoilmaaGreatDoor
open Go.RowKit Cm Na Om Oi Hm Ka Oz Kb
open Go.Proofs.Tryz (prog)
namespace Ia
open Oa
open La (Lies)
open Lj (BookAt)
def In (G:Nat→Prop) (v:Value):Prop:=∀(a:Addr) (n c:Nat),v=.slice (some a) n c→0<n→G a.block
def Stay (G:Nat→Prop) (w w':World):Prop:=∀g,G g→w'.heap[g]? =w.heap[g]?
variable {G H F:Nat->Prop}{v:Value}{B base z n:Nat}{a b w w':World}{t:TypeId}{xs:List Value}{S:Dq}
theorem In.mono(h:In G v)(hs:∀g,G g->H g):In H v:=fun a n c e hn=>hs _ (h a n c e hn)
theorem In.nil(G:Nat->Prop):In G (.slice none 0 0):=fun a n c e _=>by cases e
theorem In.loc(h:Lies B v):In (fun g=>B<=g) v:=h
structure Chg (F:Nat→Prop) (w w':World):Prop where
 os:w'.os=w.os
 tape:w'.tape=w.tape
 output:w'.output=w.output
 size:w.heap.size≤w'.heap.size
 block:∀g,g<w.heap.size→¬F g→w'.heap[g]? =w.heap[g]?
theorem Chg.refl(F:Nat->Prop)(w:World):Chg F w w:=⟨rfl,rfl,rfl,qC _,fun _ _ _=>rfl⟩
theorem Chg.trans{F:Nat->Prop}{a b c:World}(h:Chg F a b)(k:Chg F b c):Chg F a c:=
 ⟨k.os.trans h.os,k.tape.trans h.tape,k.output.trans h.output,qO h.size k.size,fun g hg hf=>(k.block g (jE hg h.size) hf).trans (h.block g hg hf)⟩
theorem Chg.next{c:World}(h:Chg F a b)(k:Chg H b c)(hH:∀g,H g->F g\/a.heap.size<=g):Chg F a c:=
 ⟨k.os.trans h.os,k.tape.trans h.tape,k.output.trans h.output,qO h.size k.size,fun g hg hf=>(k.block g (jE hg h.size) (fun hh=>by rcases hH g hh with e | e;exact hf e;omega)).trans (h.block g hg hf)⟩
theorem Chg.mono(h:Chg F a b)(hs:∀g,F g->H g):Chg H a b:=⟨h.os,h.tape,h.output,h.size,fun g hg hf=>h.block g hg (fun hh=>hf (hs g hh))⟩
theorem Chg.ofBelow(h:zB w w')(F:Nat->Prop):Chg F w w':=⟨h.os,h.tape,h.output,h.size,fun g hg _=>h.block g hg⟩
theorem Chg.below{w0:World}(h:Chg F w w')(hF:∀g,F g->B<=g)(hb:Below B w0 w)(hB:B<=w.heap.size):Below B w0 w':=
 hb.trans ⟨h.os,h.tape,h.output,h.size,fun g hg=>h.block g (jE hg hB) (fun e=>by have:=hF g e;omega)⟩
theorem Chg.stay(h:Chg F w w')(hG:∀g,G g->g<w.heap.size/\¬F g):Stay G w w':=fun g hg=>h.block g (hG g hg).1 (hG g hg).2
theorem Chg.grown{r:Option Nat}(h:w.grownBy w' r)(hr:∀g,r=some g->F g):Chg F w w':=
 ⟨h.os,h.tape,h.output,h.size,fun g hg hf=>h.block g hg (fun e=>hf (hr g e.symm))⟩
theorem Chg.setCell{F:Nat->Prop}{w0 w:World}(h:Chg F w0 w){p:Addr}(hp:F p.block)(v:Value):Chg F w0 (w.setCell p v):=
 ⟨h.os,h.tape,h.output,by rw[show(w.setCell p v).heap.size=w.heap.size by simp];exact h.size,fun g hg hf=>by rw[Oi.set_block w p v g (fun e=>hf (e▸hp))];exact h.block g hg hf⟩
theorem aM{b q:Nat}(h:w'.heap[b]? =w.heap[b]?):w'.cell? ⟨b,q,none⟩=w.cell? ⟨b,q,none⟩:=World.cell?_of_block (w:=w) h
theorem cR{l:List Bm.Leaf}(h:BookAt w v l)(hi:In G v)(hs:Stay G w w'):BookAt w' v l:=by
 obtain⟨p,c,rfl,g,a⟩:=h;refine⟨p,c,rfl, ?_,a⟩;rcases g with e | ⟨b,o,rfl,hc⟩
 ·exact qH e
 ·by_cases e:l=[]
  ·exact qH e
  ·have d:=hs b (hi _ _ _ rfl (yF.2 e));refine qF ⟨b,o,rfl,fun j hj=> ?_⟩;obtain⟨i,k,a⟩:=hc j hj;exact⟨(aM d).trans i,(aM d).trans k,(aM d).trans a⟩
theorem cI{l:List Mk}(h:MksAt w v l)(hi:In G v)(hs:Stay G w w'):MksAt w' v l:=by
 obtain⟨p,c,rfl,g,a⟩:=h;refine⟨p,c,rfl, ?_,a⟩;rcases g with e | ⟨b,o,rfl,hc⟩
 ·exact qH e
 ·by_cases e:l=[]
  ·exact qH e
  ·have d:=hs b (hi _ _ _ rfl (yF.2 e));refine qF ⟨b,o,rfl,fun j hj=> ?_⟩;obtain⟨i,k,a⟩:=hc j hj;exact⟨(aM d).trans i,(aM d).trans k,(aM d).trans a⟩
theorem bI{l:List Dt}(h:DtsAt w v l)(hi:In G v)(hs:Stay G w w'):DtsAt w' v l:=by
 obtain⟨p,c,rfl,f,g⟩:=h;refine⟨p,c,rfl, ?_,g⟩;rcases f with e | ⟨b,o,rfl,hc⟩
 ·exact qH e
 ·by_cases e:l=[]
  ·exact qH e
  ·have a:=hs b (hi _ _ _ rfl (yF.2 e));refine qF ⟨b,o,rfl,fun j hj=> ?_⟩;obtain⟨i,k⟩:=hc j hj;exact⟨(aM a).trans i,(aM a).trans k⟩
def KnAt (w:World) (v:Value) (l:List Int):Prop:=∃p c,v=.slice p l.length c∧Za.IntsIn w p l
theorem KnAt.below{w w':World}{v:Value}{l:List Int}(h:KnAt w v l)(hb:zB w w'):KnAt w' v l:=by
 obtain⟨p,c,a,b⟩:=h;exact⟨p,c,a,b.below hb⟩
theorem cW{l:List Int}(h:KnAt w v l)(hi:In G v)(hs:Stay G w w'):KnAt w' v l:=by
 obtain⟨p,c,rfl,d⟩:=h;refine⟨p,c,rfl, ?_⟩;rcases d with e | ⟨b,o,rfl,hc⟩
 ·exact qH e
 ·by_cases e:l=[]
  ·exact qH e
  ·have f:=hs b (hi _ _ _ rfl (yF.2 e));exact qF ⟨b,o,rfl,fun j hj=>(aM f).trans (hc j hj)⟩
theorem aP(h:w.ownsRow base t z v n xs)(hs:∀g,v.ownBlock=some g->w'.heap[g]? =w.heap[g]?):w'.ownsRow base t z v n xs:=by
 refine⟨h.1, ?_⟩;rcases h.2 with h0 | ⟨g,cap,cur,h1,h2,h3,h4⟩
 ·exact qH h0
 ·exact qF ⟨g,cap,cur,h1,h2,by rw[hs g (by rw[h1];rfl)];exact h3,h4⟩
theorem aL(h:w.ownsRow base t z v n xs):∀g,v.ownBlock=some g->g<w.heap.size/\∃cur,w.heap[g]? =some (.cells cur t (0,0)):=by
 intro g hg;refine⟨(h.lt g hg).2, ?_⟩;rcases h.2 with⟨e,_⟩ | ⟨g',cap,cur,e,_,h3,_⟩
 ·rw[e] at hg;cases hg
 ·rw[e] at hg;injection hg with hg;rw[<-hg];exact⟨cur,h3⟩
theorem aBE(h:w.ownsRow base t z v n xs):w.ownsRow 0 t z v n xs:=by
 refine⟨h.1, ?_⟩;rcases h.2 with h0 | ⟨g,cap,cur,h1,h2,h3⟩
 ·exact qH h0
 ·exact qF ⟨g,cap,cur,h1,jW _,h3⟩
def oU (w:World) (G:Nat→Prop) (v:Value) (l:List Ox):Prop:=∃L:List (Ox × Value),L.map (·.1)=l∧w.ownsRow 0 97 6 v l.length (flatO L)∧∀y ∈ L,DtsAt w y.2 y.1.2.2.2.2∧In G y.2
theorem aBA{l:List Ox}(h:oU w G v l)(hv:∀g,v.ownBlock=some g->w'.heap[g]? =w.heap[g]?)(hs:Stay G w w'):oU w' G v l:=by
 obtain⟨L,b,c,a⟩:=h;exact⟨L,b,aP c hv,fun y hy=>⟨bI (a y hy).1 (a y hy).2 hs,(a y hy).2⟩⟩
theorem oU.at{G:Nat->Prop}{w:World}{v:Value}{l:List Ox}(h:oU w G v l):OpsAt w v l:=by
 obtain⟨L,a,b,c⟩:=h;rw[<-a];rw[<-a,jM] at b;exact oD b (fun y hy=>(c y hy).1)
abbrev Ent:=Dt × Value × List ByteArray
abbrev pr (e:MapEntry):Value × Value:=(e.key,e.val)
abbrev pm (x:Ent):Value × Value:=(aggD x.1,x.2.1)
def aAX (es:List MapEntry) (clock:Nat):Prop:=(∀e ∈ es,e.born<clock)∧(es.map (·.born)).Nodup
def MapAt (w:World) (B:Nat) (M:List Ent):Prop:=∃es clock,w.heap[B]? =some (.map es clock)∧es.toList.map pr=M.map pm∧aAX es.toList clock
def RowS (w:World) (v:Value) (l:List ByteArray):Prop:=w.ownsRow 0 9 1 v l.length (l.map Value.string)
def getV (M:List Ent) (d:Dt):Value:=match M.find? (fun x=>decide (x.1=d)) with | some x=>x.2.1 | none=> .slice none 0 0
def getJ (M:List Ent) (d:Dt):List ByteArray:=match M.find? (fun x=>decide (x.1=d)) with | some x=>x.2.2 | none=>[]
structure Mem where
 D:Nat
 vb:Value
 vm:Value
 vk:Value
 vo:Value
 B:Nat
 M:List Ent
def Wr (m:Mem) (g:Nat):Prop:=g=m.D∨g=m.B∨m.vo.ownBlock=some g∨∃x ∈ m.M,x.2.1.ownBlock=some g
structure DocMem (w:World) (m:Mem) (S:Dq) (G:Nat→Prop):Prop where
 blk:w.heap[m.D]? =some (.cells #[m.vb,m.vm,m.vk,m.vo,.map (some m.B)] 93)
 book:BookAt w m.vb S.book
 bookG:In G m.vb
 marks:MksAt w m.vm S.marks
 marksG:In G m.vm
 known:KnAt w m.vk S.known
 knownG:In G m.vk
 ops:oU w G m.vo S.ops
 map:MapAt w m.B m.M
 rows:∀x ∈ m.M,RowS w x.2.1 x.2.2
 apart:m.M.Pairwise fun x y=>∀g,x.2.1.ownBlock=some g→y.2.1.ownBlock≠some g
 lt:∀g,G g→g<w.heap.size
 off:∀g,G g→¬Wr m g
variable {m:Mem}
theorem DocMem.sX(h:DocMem w m S G):∀g,Wr m g->g<w.heap.size:=by
 rintro g (rfl | rfl | a | ⟨x,c,a⟩)
 ·exact(qG.1 h.blk).1
 ·obtain⟨j,b,d,_⟩:=h.map;exact(qG.1 d).1
 ·obtain⟨L,_,e,_⟩:=h.ops;exact(aL e g a).1
 ·exact(aL (h.rows x c) g a).1
theorem DocMem.stay(h:DocMem w m S G)(hs:Stay (fun g=>G g\/Wr m g) w w')(hz:w.heap.size<=w'.heap.size):DocMem w' m S G:=by
 have a:Stay G w w':=fun g hg=>hs g (qH hg)
 refine⟨by rw[hs _ (qF (qH rfl))];exact h.blk,cR h.book h.bookG a,h.bookG,cI h.marks h.marksG a,h.marksG,cW h.known h.knownG a,h.knownG,aBA h.ops (fun g hg=>hs g (qF (qF (qF (qH hg))))) a, ?_,fun x hx=>aP (h.rows x hx) (fun g hg=>hs g (qF (qF (qF (qF ⟨x,hx,hg⟩))))),h.apart,fun g hg=>jE (h.lt g hg) hz,h.off⟩;obtain⟨c,b,d,e⟩:=h.map;exact⟨c,b,by rw[hs _ (qF (qF (qH rfl)))];exact d,e⟩
theorem DocMem.below(h:DocMem w m S G)(hb:zB w w'):DocMem w' m S G:=
 h.stay (fun g hg=>hb.block g (by rcases hg with e | e;exact h.lt g e;exact h.sX g e)) hb.size
theorem DocMem.more(h:DocMem w m S G)(hG:∀g,G g->H g)(hl:∀g,H g->g<w.heap.size)(ho:∀g,H g->¬Wr m g):DocMem w m S H:=by
 obtain⟨L,b,c,a⟩:=h.ops;exact⟨h.blk,h.book,h.bookG.mono hG,h.marks,h.marksG.mono hG,h.known,h.knownG.mono hG,⟨L,b,c,fun y hy=>⟨(a y hy).1,(a y hy).2.mono hG⟩⟩,h.map,h.rows,h.apart,hl,ho⟩
def Jn (M:List Ent) (S:Dq):Prop:=∀(d:Dt) (p:ByteArray),dotE d.1 d.2=0→kn S d.1<d.2→(p ∈ getJ M d↔saw S.ops p d=true)
structure DocOk (w:World) (m:Mem) (S:Dq) (G:Nat→Prop):Prop where
 mem:DocMem w m S G
 inv:Inv S
 jn:Jn m.M S
 short:∀x ∈ m.M,x.2.2.length≤40*S.ops.length
def DocAt (w:World) (D:Nat) (S:Dq) (F:Nat→Prop):Prop:=∃m G,m.D=D∧DocOk w m S G∧∀g,F g↔(G g∨Wr m g)
theorem DocAt.lt{w:World}{D:Nat}{S:Dq}{F:Nat->Prop}(h:DocAt w D S F):∀g,F g->g<w.heap.size:=by
 obtain⟨m,G,rfl,a,b⟩:=h;intro g hg;rcases(b g).1 hg with e | e
 ·exact a.mem.lt g e
 ·exact a.mem.sX g e
theorem DocAt.stay{w w':World}{D:Nat}{S:Dq}{F:Nat->Prop}(h:DocAt w D S F)(hs:Stay F w w')(hz:w.heap.size<=w'.heap.size):DocAt w' D S F:=by
 obtain⟨m,G,rfl,a,b⟩:=h;exact⟨m,G,rfl,⟨a.mem.stay (fun g hg=>hs g ((b g).2 hg)) hz,a.inv,a.jn,a.short⟩,b⟩
theorem DocAt.below{D:Nat}(h:DocAt w D S F)(hb:zB w w'):DocAt w' D S F:=
 h.stay (fun g hg=>hb.block g (h.lt g hg)) hb.size
theorem DocAt.inv{w:World}{D:Nat}{S:Dq}{F:Nat->Prop}(h:DocAt w D S F):Inv S:=by
 obtain⟨m,G,_,a,_⟩:=h;exact a.inv
end Ia
namespace Ib
open Go.MapKept Go.ChangeMaps Ia
theorem aDP(n a m b:Int)(w:World):(Op.equal 80 (.agg #[.int .i64 n,.int .i64 a]) (.agg #[.int .i64 m,.int .i64 b])).run prog w=.ok (decide (((n,a):Dt)=(m,b))) w:=by
 have u3:=Tryz.underlying3;have g:=Tryz.isAgg3;have h:=Tryz.sizeOf3;have c:prog.underlying 80=some (.struct (prog.fieldsOf 80)):=by kernel_rfl
 have d:prog.stoodInHeld 80=false:=by kernel_rfl
 unfold Op.equal Op.maxDepth;rw[show(10000:Nat)=9999+1 from rfl,run_equalIn_agg w 9999 80 _ _ c d];simp only[Program.fieldsOf,Tryz.underlying80];rw[Nk.iY];go_simp;by_cases e:n=m<;>by_cases f:a=b<;>simp[e,f]
theorem oT(e:Bool)(a b:Int)(w:World):(Instr.checkKey e 10000 80 (.agg #[.int .i64 a,.int .i64 b])).run prog w=.ok () w:=by kernel_rfl
theorem aA5(w:World):(zeroValue 194).run prog w=.ok (.slice none 0 0) w:=by kernel_rfl
def findP (d:Dt):List Ent→Option (Nat × Value)
 | []=>none
 | x::M=>if d=x.1 then some (0,x.2.1) else(findP d M).map fun r=>(r.1+1,r.2)
def putM (d:Dt) (v:Value) (l:List ByteArray):List Ent→List Ent
 | []=>[(d,v,l)]
 | x::M=>if d=x.1 then(d,v,l)::M else x::putM d v l M
def delM (d:Dt):List Ent→List Ent
 | []=>[]
 | x::M=>if d=x.1 then M else x::delM d M
variable {w:World}{M:List Ent}{d:Dt}{i B clock st:Nat}{u v:Value}{l:List ByteArray}{es:List MapEntry}(a:Int)(x:Ent)(b:Int)
theorem dV(M:List Ent)(d:Dt):getV (x::M) d=if d=x.1 then x.2.1 else getV M d:=by
 unfold getV;by_cases h:d=x.1
 ·rw[if_pos h,yC (by simp[h])]
 ·rw[if_neg h,yN (by simp;exact fun e=>h e.symm)]
theorem dJ(M:List Ent)(d:Dt):getJ (x::M) d=if d=x.1 then x.2.2 else getJ M d:=by
 unfold getJ;by_cases h:d=x.1
 ·rw[if_pos h,yC (by simp[h])]
 ·rw[if_neg h,yN (by simp;exact fun e=>h e.symm)]
theorem pD(d:Dt):∀M:List Ent,getV M d=((findP d M).map (·.2)).getD (.slice none 0 0)
 | []=>rfl
 | x::M=>by
  rw[dV]
  unfold findP
  by_cases h:d=x.1
  ·rw[if_pos h,if_pos h];rfl
  ·rw[if_neg h,if_neg h,pD d M,Option.map_map];rfl
theorem aBe(d e:Dt)(v:Value)(l:List ByteArray):∀M:List Ent,getJ (putM d v l M) e=if e=d then l else getJ M e
 | []=>by show getJ [(d,v,l)] e=_;rw[dJ]
 | x::M=>by
  unfold putM
  by_cases h:d=x.1
  ·rw[if_pos h,dJ,dJ]
   by_cases h2:e=d
   ·rw[if_pos h2,if_pos h2]
   ·rw[if_neg h2,if_neg h2,if_neg (fun e9=>h2 (e9.trans h.symm))]
  ·rw[if_neg h,dJ,dJ,aBe d e v l M]
   by_cases h2:e=x.1
   ·rw[if_pos h2,if_neg (fun e9=>h (e9.symm.trans h2)),if_pos h2]
   ·rw[if_neg h2,if_neg h2]
theorem aBF(d e:Dt)(hne:e≠d):∀M:List Ent,getJ (delM d M) e=getJ M e
 | []=>rfl
 | x::M=>by
  unfold delM
  by_cases h:d=x.1
  ·rw[if_pos h,dJ,if_neg (fun e9=>hne (e9.trans h.symm))]
  ·rw[if_neg h,dJ,dJ,aBF d e hne M]
theorem aAh(d:Dt):∀M:List Ent,(delM d M).Sublist M
 | []=>List.Sublist.refl _
 | x::M=>by
  unfold delM
  by_cases h:d=x.1
  ·rw[if_pos h];exact List.sublist_cons_self x M
  ·rw[if_neg h];exact(aAh d M).cons_cons x
theorem put_mem{d:Dt}{v:Value}{l:List ByteArray}{x:Ent}:∀{M:List Ent},x ∈ putM d v l M->x=(d,v,l)\/x ∈ M
 | [],h=>by left;simpa[putM] using h
 | y::M,h=>by
  unfold putM at h
  by_cases e:d=y.1
  ·rw[if_pos e] at h
   rcases jD.1 h with h | h
   ·exact qH h
   ·exact qF (jO _ h)
  ·rw[if_neg e] at h
   rcases jD.1 h with h | h
   ·exact qF (by rw[h];exact xA)
   ·rcases put_mem h with h | h
    ·exact qH h
    ·exact qF (jO _ h)
theorem get_mem(d:Dt):∀M:List Ent,(getV M d=.slice none 0 0/\getJ M d=[])\/∃x ∈ M,x.2.1=getV M d/\x.2.2=getJ M d
 | []=>qH ⟨rfl,rfl⟩
 | x::M=>by
  rw[dV,dJ]
  by_cases h:d=x.1
  ·rw[if_pos h,if_pos h];exact qF ⟨x,xA,rfl,rfl⟩
  ·rw[if_neg h,if_neg h]
   rcases get_mem d M with e | ⟨y,hy,e⟩
   ·exact qH e
   ·exact qF ⟨y,jO _ hy,e⟩
def Sep (x y:Ent):Prop:=∀g,x.2.1.ownBlock=some g→y.2.1.ownBlock≠some g
theorem wP{d:Dt}{v:Value}{l:List ByteArray}:∀{M:List Ent},M.Pairwise Sep->(∀g,v.ownBlock=some g->(getV M d).ownBlock=some g\/∀x ∈ M,x.2.1.ownBlock≠some g)->(putM d v l M).Pairwise Sep
 | [],h,hv=>by unfold putM;exact List.pairwise_singleton _ _
 | x::M,h,hv=>by
  obtain⟨h1,h2⟩:=jL.1 h
  unfold putM
  by_cases e:d=x.1
  ·rw[if_pos e]
   refine jL.2 ⟨fun y hy g hg=> ?_,h2⟩
   rcases hv g hg with h9 | h9
   ·rw[dV,if_pos e] at h9;exact h1 y hy g h9
   ·exact h9 y (jO _ hy)
  ·rw[if_neg e]
   have hv2:∀g,v.ownBlock=some g->(getV M d).ownBlock=some g\/∀x ∈ M,x.2.1.ownBlock≠some g:=fun g hg=>by
    rcases hv g hg with h9 | h9
    ·rw[dV,if_neg e] at h9;exact qH h9
    ·exact qF fun y hy=>h9 y (jO _ hy)
   refine jL.2 ⟨fun y hy g hg=> ?_,wP h2 hv2⟩
   rcases put_mem hy with rfl | hy
   ·intro hg2
    rcases hv g hg2 with h9 | h9
    ·rw[dV,if_neg e] at h9
     rcases get_mem d M with⟨e0,_⟩ | ⟨z,hz,e0,_⟩
     ·rw[e0] at h9;cases h9
     ·rw[<-e0] at h9;exact h1 z hz g hg h9
    ·exact h9 x xA hg
   ·exact h1 y hy g hg
theorem rB(d:Dt)(w:World):∀(M:List Ent) (es:List MapEntry) (i:Nat),es.map pr=M.map pm->
  (Instr.findAsking 80 (aggD d) es i).run prog w=.ok ((findP d M).map fun r=>(i+r.1,r.2)) w
 | [],es,i,h=>by
  have:es=[]:=by simpa using h
  subst this
  rfl
 | x::M,[],i,h=>by simp at h
 | x::M,e::es,i,h=>by
  simp only[jY,List.cons.injEq,Prod.mk.injEq] at h
  obtain⟨⟨h1,h2⟩,h3⟩:=h
  unfold Instr.findAsking
  obtain⟨⟨x1,x2⟩,xv,xl⟩:=x
  obtain⟨d1,d2⟩:=d
  simp only[aggD] at h1
  rw[h1]
  simp only[aggD,jZ,(aDP d1 d2 x1 x2 w),Result.andThen]
  unfold findP
  by_cases hd:((d1,d2):Dt)=(x1,x2)
  ·rw[decide_eq_true hd,if_pos rfl,if_pos hd,h2];rfl
  ·rw[decide_eq_false hd,if_neg hd]
   have ih:=rB (d1,d2) w M es (i+1) h3
   simp only[aggD] at ih
   rw[if_neg (by decide),ih]
   cases findP (d1,d2) M with
   | none=>rfl
   | some r=>simp only[xU];rw[show i+1+r.1=i+(r.1+1) by omega]
theorem uK(d:Dt)(w:World)(M:List Ent)(es:List MapEntry)(h:es.map pr=M.map pm):
  (Instr.findKey 80 (aggD d) es).run prog w=.ok (findP d M) w:=by
 have b:prog.underlying 80=some (.struct (prog.fieldsOf 80)):=by kernel_rfl
 have a:=rB d w M es 0 h
 have c:((findP d M).map fun r=>(0+r.1,r.2))=findP d M:=by
  cases findP d M with
  | none=>rfl
  | some r=>simp
 rw[c] at a
 unfold Instr.findKey
 rw[jZ,run_underlying b]
 simp only[Result.andThen]
 cases es with
 | nil=>
  have:M=[]:=by simpa using h.symm
  subst this
  rfl
 | cons e es=>
  have:Instr.findNow (.struct (prog.fieldsOf 80)) (aggD d) (e::es) 0=none:=by
   unfold Instr.findNow
   simp[Instr.sameNow]
  rw[this]
  exact a
theorem aG1:∀{es:List MapEntry},es.map pr=M.map pm->findP d M=some (i,u)->∀f:MapEntry->MapEntry,(∀e,e.key=aggD d->pr (f e)=(aggD d,v))->(es.modify i f).map pr=(putM d v l M).map pm/\(es[i]?).map (·.key)=some (aggD d):=by
 induction M generalizing i with
 | nil=>intro es h hf;cases hf
 | cons x M ih=>
  intro es h hf f hfe
  cases es with
  | nil=>simp at h
  | cons e es=>
   simp only[jY,List.cons.injEq,Prod.mk.injEq] at h
   obtain⟨⟨b,k⟩,c⟩:=h
   unfold findP at hf
   unfold putM
   by_cases a:d=x.1
   ·rw[if_pos a] at hf |-
    injection hf with hf
    injection hf with hf1 hf2
    subst hf1
    refine⟨?_,by simp[b,a]⟩
    have g:=hfe e (by rw[b,a])
    simp only[List.modify_zero_cons,jY,List.cons.injEq]
    exact⟨g,c⟩
   ·rw[if_neg a] at hf |-
    cases hq:findP d M with
    | none=>rw[hq] at hf;cases hf
    | some r=>
     rw[hq] at hf
     obtain⟨j,u2⟩:=r
     simp only[xU,Option.some.injEq,Prod.mk.injEq] at hf
     obtain⟨rfl,rfl⟩:=hf
     have:=ih c hq f hfe
     refine⟨?_, ?_⟩
     ·rw[List.modify_succ_cons]
      simp only[jY,List.cons.injEq,Prod.mk.injEq]
      exact⟨⟨b,k⟩,this.1⟩
     ·simpa using this.2
theorem aHD(hf:findP d M=none):putM d v l M=M++[(d,v,l)]:=by
 induction M with
 | nil=>rfl
 | cons x M ih=>
  unfold findP at hf
  unfold putM
  by_cases a:d=x.1
  ·rw[if_pos a] at hf;cases hf
  ·rw[if_neg a] at hf |-
   rw[ih (by simpa using hf)];rfl
theorem erase_eq:∀{es:List MapEntry},es.map pr=M.map pm->findP d M=some (i,u)->(es.eraseIdx i).map pr=(delM d M).map pm:=by
 induction M generalizing i with
 | nil=>intro es h hf;cases hf
 | cons x M ih=>
  intro es h hf
  cases es with
  | nil=>simp at h
  | cons e es=>
   simp only[jY,List.cons.injEq] at h
   unfold findP at hf
   unfold delM
   by_cases a:d=x.1
   ·rw[if_pos a] at hf |-
    injection hf with hf
    injection hf with hf1 hf2
    subst hf1
    exact h.2
   ·rw[if_neg a] at hf |-
    cases hq:findP d M with
    | none=>rw[hq] at hf;cases hf
    | some r=>
     rw[hq] at hf
     obtain⟨j,u2⟩:=r
     simp only[xU,Option.some.injEq,Prod.mk.injEq] at hf
     obtain⟨rfl,rfl⟩:=hf
     rw[List.eraseIdx_cons_succ]
     simp only[jY,List.cons.injEq]
     exact⟨h.1,ih h.2 hq⟩
theorem aCu(hf:findP d M=none):delM d M=M:=by
 induction M with
 | nil=>rfl
 | cons x M ih=>
  unfold findP at hf
  unfold delM
  by_cases a:d=x.1
  ·rw[if_pos a] at hf;cases hf
  ·rw[if_neg a] at hf |-
   rw[ih (by simpa using hf)]
theorem oY:prog.underlying 91=some (.map 80 194):=by kernel_rfl
theorem nA(h:MapAt w B M)(a b:Int):
  (Instr.lookup 91 (.map (some B)) (.agg #[.int .i64 a,.int .i64 b]) false).run prog w=.ok (getV M (a,b)) w:=by
 obtain⟨e,d,f,g,_⟩:=h
 have c:=uK (a,b) w M e.toList g
 simp only[aggD] at c
 unfold Instr.lookup
 simp only[jZ,run_underlying oY,MapKept.run_getObj_map f,Result.andThen,vB,oT,c]
 rw[pD]
 cases findP (a,b) M with
 | none=>simp only[jZ,aA5,Result.andThen,vB];rfl
 | some r=>rfl
theorem cV{es:Array MapEntry}(hb:w.heap[B]? =some (.map es clock))(o:Obj):w.grownBy (setBlock w B o) (some B):=
 ⟨rfl,rfl,rfl,by simp[setBlock],fun i _ hi=>heap_setBlock_other hb _ (fun e=>hi (by rw[e]))⟩
theorem aEN:Instr.sameBits 10000 (.agg #[.int .i64 a,.int .i64 b]) (.agg #[.int .i64 a,.int .i64 b])=true:=by
 rw[show(10000:Nat)=9999+1 from rfl];simp[Instr.sameBits]
theorem pY{f:MapEntry->MapEntry}(hf:∀e,(f e).born=e.born)(h:aAX es clock):aAX (es.modify i f) clock:=by
 have a:(es.modify i f).map (·.born)=es.map (·.born):=by
  apply yE
  intro j
  rw[qT,qT,List.getElem?_modify]
  split
  ·cases es[j]? with
   | none=>rfl
   | some e=>simp[hf]
  ·simp
 refine⟨fun e he=> ?_,by rw[a];exact h.2⟩
 have:e.born ∈ (es.modify i f).map (·.born):=xV.2 ⟨e,he,rfl⟩
 rw[a] at this
 obtain⟨x,c,b⟩:=xV.1 this
 rw[<-b];exact h.1 x c
theorem aD0{k:Value}(h:aAX es clock):aAX (es++[⟨k,v,clock⟩]) (clock+1):=by
 refine⟨fun e he=> ?_, ?_⟩
 ·rcases jB.1 he with he | he
  ·exact Nat.lt_succ_of_lt (h.1 e he)
  ·rw[qP.1 he];exact Nat.lt_succ_self _
 ·rw[xL,List.nodup_append];refine⟨h.2,by simp, ?_⟩;intro a ha b hb;obtain⟨x,c,rfl⟩:=xV.1 ha;simp at hb;subst hb;exact kO (h.1 x c)
theorem aAx:∀(es:List MapEntry) (i st:Nat),(es.map (·.born)).Nodup->(es[i]?).map (·.born)=some st->es.findIdx? (fun x=>(x.born:Int)==(st:Int))=some i
 | [],i,st,_,h=>by simp at h
 | e::es,0,st,hn,h=>by
  have:e.born=st:=by simpa using h
  rw[List.findIdx?_cons,this];simp
 | e::es,i+1,st,hn,h=>by
  have h2:(es[i]?).map (·.born)=some st:=by simpa using h
  have hn2:=List.nodup_cons.1 (show(e.born::es.map (·.born)).Nodup from hn)
  have hne:e.born≠st:=by
   intro e9
   apply hn2.1
   rw[e9]
   cases hq:es[i]? with
   | none=>rw[hq] at h2;cases h2
   | some x=>
    rw[hq] at h2
    injection h2 with h2
    rw[<-h2]
    exact xV.2 ⟨x,List.mem_of_getElem? hq,rfl⟩
  rw[List.findIdx?_cons,aAx es i st hn2.2 h2]
  have:((e.born:Int)==(st:Int))=false:=by rw[beq_eq_false_iff_ne];omega
  rw[this];rfl
def wE (w:World) (B:Nat) (M:List Ent) (d:Dt) (st:Nat):Prop:=∃es clock i u,w.heap[B]? =some (.map es clock)∧es.toList.map pr=M.map pm∧aAX es.toList clock∧findP d M=some (i,u)∧(es.toList[i]?).map (·.born)=some st
theorem wE.stay{w':World}(h:wE w B M d st)(hs:w'.heap[B]? =w.heap[B]?):wE w' B M d st:=by
 obtain⟨b,a,i,u,c,e⟩:=h;exact⟨b,a,i,u,hs.trans c,e⟩
theorem tE(d:Dt)(v:Value)(l:List ByteArray):∀M:List Ent,findP d (putM d v l M)=some (((findP d M).map (·.1)).getD M.length,v)
 | []=>by simp[putM,findP]
 | x::M=>by
  unfold putM
  by_cases hd:d=x.1
  ·rw[if_pos hd]
   conv=>rhs;unfold findP
   rw[if_pos hd]
   unfold findP
   rw[if_pos rfl];rfl
  ·rw[if_neg hd]
   unfold findP
   rw[if_neg hd,if_neg hd,tE d v l M]
   cases findP d M with
   | none=>rfl
   | some r=>rfl
theorem iD(d:Dt)(v:Value)(l:List ByteArray)(x:Ent)(M:List Ent):putM d v l (x::M)=if d=x.1 then(d,v,l)::M else x::putM d v l M:=rfl
theorem aDu(d:Dt)(v u:Value)(l k:List ByteArray):∀M:List Ent,putM d v l (putM d u k M)=putM d v l M
 | []=>by simp[putM]
 | x::M=>by
  rw[iD d u,iD d v]
  by_cases hd:d=x.1
  ·rw[if_pos hd,if_pos hd,iD,if_pos rfl]
  ·rw[if_neg hd,if_neg hd,iD,if_neg hd,aDu d v u l k M]
theorem aDD{d:Dt}:∀{M:List Ent} {i:Nat} {u:Value},findP d M=some (i,u)->(M.map pm)[i]? =some (aggD d,u)
 | [],i,u,h=>by cases h
 | x::M,i,u,h=>by
  unfold findP at h
  by_cases hd:d=x.1
  ·rw[if_pos hd] at h
   injection h with h
   injection h with h1 h2
   subst h1 h2
   simp[hd]
  ·rw[if_neg hd] at h
   cases hq2:findP d M with
   | none=>rw[hq2] at h;cases h
   | some r=>
    rw[hq2] at h
    obtain⟨j,u2⟩:=r
    simp only[xU,Option.some.injEq,Prod.mk.injEq] at h
    obtain⟨rfl,rfl⟩:=h
    simpa using aDD hq2
theorem aEG(h:MapAt w B M)(a b:Int):
  ∃st w',(Instr.mapEntry 91 (.map (some B)) (.agg #[.int .i64 a,.int .i64 b])).run prog w=.ok (.tuple #[getV M (a,b),.int .i64 ((st:Nat):Int)]) w'∧wE w' B (putM (a,b) (getV M (a,b)) (getJ M (a,b)) M) (a,b) st∧w.grownBy w' (some B):=by
 obtain⟨es,clock,hb,he,hbn⟩:=h
 have hf:=uK (a,b) w M es.toList he
 have hlen:es.toList.length=M.length:=by have:=congrArg List.length he;simpa using this
 simp only[aggD] at hf
 unfold Instr.mapEntry
 simp only[jZ,run_underlying oY,MapKept.run_getObj_map hb,Result.andThen,vB,oT,hf]
 have hgv:=pD (a,b) M
 cases hq:findP (a,b) M with
 | none=>
  rw[hq] at hgv
  simp only[Option.map_none,Option.getD_none] at hgv
  simp only[jZ,aA5,Result.andThen,MapKept.run_setObj_map _ hb,goInt,vB]
  refine⟨clock,setBlock w B (.map (es.push ⟨.agg #[zI a,zI b],zS,clock⟩) (clock+1)),by rw[hgv];rfl,⟨_,_,M.length,getV M (a,b),heap_setBlock_same hb _, ?_, ?_, ?_, ?_⟩,cV hb _⟩
  ·rw[aHD hq,hgv]
   simp[he,aggD]
  ·rw[Array.toList_push];exact aD0 hbn
  ·rw[tE,hq];rfl
  ·rw[Array.toList_push,←hlen,jG (qC _)];simp
 | some r=>
  obtain⟨i,u⟩:=r
  rw[hq] at hgv
  simp only[xU,xT] at hgv
  have key:=aG1 (v:=getV M (a,b)) (l:=getJ M (a,b)) he hq (fun e=>{ e with key:=aggD (a,b),val:=getV M (a,b) }) (fun e _=>rfl)
  have hk:(((es[i]?).map (·.key)).getD (Value.agg #[zI a,zI b]))=Value.agg #[zI a,zI b]:=by
   have:=key.2
   rw[kJ] at this
   rw[this];rfl
  have hex:∃e0,es.toList[i]? =some e0:=by
   cases hx:es.toList[i]? with
   | none=>rw[hx] at key;cases key.2
   | some e0=>exact⟨e0,rfl⟩
  obtain⟨e0,he0⟩:=hex
  have hval:e0.val=u:=by
   have h9:(es.toList.map pr)[i]? =some (pr e0):=by rw[qT,he0];rfl
   rw[he,aDD hq] at h9
   exact(congrArg Prod.snd (Option.some.inj h9)).symm
  have hm2:(es.modify i fun e=>{ e with key:=Value.agg #[zI a,zI b] }).toList.map pr=(putM (a,b) (getV M (a,b)) (getJ M (a,b)) M).map pm:=by
   rw[←key.1,kC]
   apply yE
   intro j
   rw[qT,qT,List.getElem?_modify,List.getElem?_modify]
   by_cases hj:i=j
   ·subst hj
    rw[he0]
    simp only[if_true,pr,aggD,hgv]
    show some (_,e0.val)=some (_,u)
    rw[hval]
   ·simp only[if_neg hj]
  simp only[hk,Instr.keyThatStays,aEN,if_true,jZ,vB,Result.andThen,MapKept.run_setObj_map _ hb,goInt]
  have hst:((es[i]?).map (fun x=>(x.born:Int))).getD 0=(e0.born:Int):=by
   rw[←kJ,he0];rfl
  refine⟨e0.born,setBlock w B (.map (es.modify i fun e=>{ e with key:=Value.agg #[zI a,zI b] }) clock),by rw[hgv,hst];rfl,⟨_,_,i,getV M (a,b),heap_setBlock_same hb _,hm2, ?_, ?_, ?_⟩,cV hb _⟩
  ·rw[kC];exact pY (fun e=>rfl) hbn
  ·rw[tE,hq];rfl
  ·rw[kC,List.getElem?_modify,he0];simp
theorem aEM{a b:Int}(h:wE w B M (a,b) st)(v:Value)(l:List ByteArray):
  ∃w',(Instr.entryStore 91 (.map (some B)) (.int .i64 (st:Int)) v).run prog w=.ok () w'/\MapAt w' B (putM (a,b) v l M)/\w.grownBy w' (some B):=by
 obtain⟨f,m,i,u,c,n,d,o,g⟩:=h;have j:f.findIdx? (fun x=>(x.born:Int)==(st:Int))=some i:=by rw[<-(aAx f.toList i st d.2 g)];simp[<-List.findIdx?_toArray]
 have k:=aG1 (v:=v) (l:=l) n o (fun e=>{ e with val:=v }) (fun e hk=>by simp[hk]);unfold Instr.entryStore;simp only[jZ,MapKept.run_getObj_map c,Result.andThen,show(asInt (Value.int .i64 (st:Int))).run prog w=.ok (st:Int) w from rfl,j,MapKept.run_setObj_map _ c];refine⟨_,rfl,⟨_,_,heap_setBlock_same c _, ?_, ?_⟩,cV c _⟩
 ·rw[kC];exact k.1
 ·rw[kC];exact pY (fun e=>rfl) d
theorem aGo{fs:List MapEntry}(hs:fs.Sublist es)(h:aAX es clock):aAX fs clock:=⟨fun e he=>h.1 e (hs.subset he),h.2.sublist (hs.map _)⟩
theorem aCQ(h:MapAt w B M)(a b:Int)(ty:TypeId):
  ∃w',(Builtin.delete_ #[91,80] ty #[.map (some B),.agg #[.int .i64 a,.int .i64 b]]).run prog w=.ok (.tuple #[]) w'/\MapAt w' B (delM (a,b) M)/\w.grownBy w' (some B):=by
 obtain⟨k,j,c,e,d⟩:=h
 have f:=uK (a,b) w M k.toList e
 simp only[aggD] at f
 have g:∀(v:Value),(#[Value.map (some B),v])[0]? =some (.map (some B))/\(#[Value.map (some B),v])[1]? =some v:=fun v=>⟨rfl,rfl⟩
 unfold Builtin.delete_
 simp only[(g _).1,(g _).2,show(#[(91:TypeId),80])[0]? =some 91 from rfl,jZ,run_underlying oY,MapKept.run_getObj_map c,Result.andThen,vB,oT,f]
 cases hq:findP (a,b) M with
 | none=>
  simp only[MapKept.run_setObj_map _ c,Result.andThen,jZ,vB]
  refine⟨_,rfl,⟨_,_,heap_setBlock_same c _, ?_,d⟩,cV c _⟩
  rw[aCu hq];exact e
 | some r=>
  obtain⟨i,u⟩:=r
  simp only[MapKept.run_setObj_map _ c,Result.andThen,jZ,vB]
  refine⟨_,rfl,⟨_,_,heap_setBlock_same c _, ?_, ?_⟩,cV c _⟩
  ·rw[Array.toList_eraseIdxIfInBounds];exact erase_eq e hq
  ·rw[Array.toList_eraseIdxIfInBounds];exact aGo (List.eraseIdx_sublist _ _) d
theorem aFg(w:World):MapAt (w.alloc (.map #[] 0)) w.heap.size []:=⟨#[],0,(MapKept.heap_alloc w _).1,rfl,fun e he=>by simp at he,List.nodup_nil⟩
end Ib
namespace Ic
open Ia
open La (bel)
def eT:ByteArray:=⟨#[]⟩
def isIn (l:List ByteArray) (p:ByteArray):Bool:=l.any fun x=>decide (x=p)
variable {l:List ByteArray}{w:World}{D i:Nat}{cs:Array Value}{t:TypeId}
theorem oH{p:ByteArray}:isIn l p=true↔p ∈ l:=by unfold isIn;simp
def aAn (w:World) (p:Option Addr) (l:List ByteArray):Prop:=l=[]∨∃b o,p=some ⟨b,o,none⟩∧∀j,j<l.length→w.cell? ⟨b,o+j,none⟩=some (.string (l.getD j eT))
theorem aAn.some{w:World}{p:Option Addr}{l:List ByteArray}(h:aAn w p l)(hl:l≠[]):∃b o,p=some ⟨b,o,none⟩∧∀j,j<l.length→w.cell? ⟨b,o+j,none⟩=some (.string (l.getD j eT)):=by
 rcases h with h | h
 ·exact absurd h hl
 ·exact h
theorem oJ{v:Value}(h:RowS w v l):∃p c,v=.slice p l.length c/\aAn w p l:=by
 rcases h.2 with⟨rfl,h0⟩ | ⟨g,cap,cur,rfl,_,h2,h3,h4,h5,h6⟩
 ·have:l=[]:=qK h0;subst this;exact⟨none,0,rfl,qH rfl⟩
 ·refine⟨some (zA g),cap,rfl,qF ⟨g,0,rfl,fun j hj=> ?_⟩⟩
  have e:(l.map Value.string)[j]? =some (.string (l.getD j eT)):=by
   rw[qT,qA,qB hj];rfl
  rw[<-h6,jC (by omega)] at e;rw[qY];simp only[World.cell?,h2];simpa using e
theorem hI(q:Option Addr)(n c:Nat)(l:List ByteArray)(p:ByteArray)(w:World)(hl:l.length=n)(h:aAn w q l)(hn:n<=1048576):
  Calls prog 162 #[.slice q n c,.string p] w fun e w'=>(∃z,e=.returned (.int .i64 z)/\(0<=z↔p ∈ l))/\w'=w:=by
 have s:=z9 hl;have G:=z9 h;clear hl h;go_in;go_wp2;go_loop [5,8] (fun _ v=>∃k:Nat,k<=n/\v=zI k/\Hid (∀j,j<k->l.getD j eT≠p)) (fun _ v=>n-(intOf v).toNat)
 case atStart=>exact⟨0,by omega,rfl,fun j f=>absurd f (by omega)⟩
 case round=>
  obtain⟨k,J,rfl,B⟩:=hrel;by_cases C:k<n
  ·have t:(k:Int)<n:=by omega
   obtain⟨b,o,rfl,D⟩:=G.out.some (by intro e;have:=s.out;rw[e] at this;simp at this;omega);have g:k<l.length:=by rw[s.out];exact C
   have m:=D k g;obtain⟨x,y⟩:=zx (l.getD k eT);rw[<-y] at m;have E:=z9 y;have r:=z9 g;clear D y g;by_cases a:x=p
   ·have H:(p.toList==x.toList)=true:=by rw[a];simp
    have A:Hid (p ∈ l):=by
     unfold Hid;rw[<-a,E.out,qA,qB r.out];exact jF r.out
    clear a;go_wp2;go_ret;exact⟨⟨k,rfl,fun _=>A.out,fun _=>by omega⟩,rfl⟩
   ·have H:(p.toList==x.toList)=false:=by
     cases h9:(p.toList==x.toList)
     ·rfl
     ·exact absurd (mk_eq (by simpa using h9)).symm a
    have I:Hid (∀j,j<k+1->l.getD j eT≠p):=by
     intro j f;rcases jS.1 f with h | rfl
     ·exact B.out j h
     ·rw[<-E.out];exact a
    clear a;go_wp2;go_round
    case rel=>exact⟨k+1,by omega,by go_num,I⟩
    case measure=>simp[intOf];omega
  ·obtain rfl:k=n:=by omega
   have t:¬(k:Int)<k:=by omega
   have A:Hid (¬p ∈ l):=by
    intro h;obtain⟨j,f,e⟩:=yA.1 h;have:=B.out j (by rw[<-s.out];exact f);rw[qA,qB f] at this;exact absurd e this
   go_wp2;go_ret;exact⟨⟨-1,rfl,fun h=>absurd h (by decide),fun h=>absurd h A.out⟩,rfl⟩
theorem cN(v:Value)(l:List ByteArray)(p:ByteArray)(w:World)(h:RowS w v l)(hn:l.length<=1048576):
  Calls prog 135 #[v,.string p] w fun e w'=>e=.returned (.bool (isIn l p))/\w'=w:=by
 obtain⟨q,c,rfl,f⟩:=oJ h;have C:=hI q l.length c l p w rfl f hn;obtain⟨n,a⟩:=zx l.length;rw[<-a] at C;rw[<-a];clear f a h hn;go_in;go_wp2_with fail;refine C.mono ?_;rintro e w2 ⟨⟨z,rfl,g⟩,i⟩;have j:=i.symm;subst j;clear i;have k:=z9 g;clear g C;by_cases b:0<=z
 ·have d:=z9 (oH.2 (k.out.1 b));go_wp2_with fail;go_ret;exact⟨by rw[d.out];rfl,rfl⟩
 ·have d:Hid (isIn l p=false):=by
   cases h9:isIn l p
   ·rfl
   ·exact absurd (k.out.2 (oH.1 h9)) b
  have r:Hid (decide (0<=z)=false):=decide_eq_false b;go_wp2_with fail;go_ret;refine⟨?_,rfl⟩;show Ending.returned (.bool (decide (0<=z)))=_
  rw[r.out,d.out]
theorem aB(h:w.heap[D]? =some (.cells cs t)){u:Value}(hu:cs[i]? =some u):w.cell? ⟨D,i,none⟩=some u:=by
 simp only[World.cell?,h];simpa using hu
theorem aF(h:w.heap[D]? =some (.cells cs t)):w.frozen? ⟨D,i,none⟩=false:=by
 simp[World.frozen?,h]
theorem fN(m:Mem)(S:Dq)(G:Nat->Prop)(a b:Int)(w:World)(h:DocMem w m S G):
  Calls prog 132 #[.pointer (some ⟨m.D,0,none⟩),.agg #[.int .i64 a,.int .i64 b]] w fun e w'=>e=.returned (.bool (Dm.hasB S.known a b))/\zB w w':=by
 have j:=aB h.blk (i:=2) (u:=m.vk) rfl
 obtain⟨q,c,o,p⟩:=h.known
 rw[o] at j
 have f:Hid (zB w (w.alloc (.cells #[zI a,zI b] 80))):=zb w _
 have r:Hid (∀W,zB w W->Calls prog 109 #[.slice q S.known.length c,.agg #[zI a,zI b]] W fun e w'=>e=.returned (.tuple #[.bool (Dm.hasB S.known a b),Za.errV (Dm.withE S.known a b)])/\zB W w'):=
  fun W hb=>Dd.aDm q _ c S.known a b W rfl (p.below hb)
 obtain⟨n,k⟩:=zx S.known.length
 obtain⟨B,g⟩:=zx (Za.errV (Dm.withE S.known a b))
 obtain⟨D,l⟩:=zx m.D
 rw[<-k,<-g] at r
 rw[<-k,<-l] at j
 rw[<-l]
 have C:=aA f.out j
 obtain⟨y,z⟩:=Nj.eS (x:=(a,b)) (qD _ (w.alloc (.cells #[zI a,zI b] 80)))
 simp only at y z
 clear o p h k g l
 go_in
 go_wp2_with fail
 go_region_held3 (fun W=>W.cell? ⟨D,2,none⟩=some (.slice q n c)/\W.cell? (zW w)=some (zI a)/\W.cell? ⟨w.heap.size,1,none⟩=some (zI b)) (first | (go_keep;done) | (refine⟨aA d ?_,aA d ?_,aA d ?_⟩<;>(go_split_ands;assumption))) (first
  | (go_at_call 109;refine(r.out _ f.out.drew).mono ?_;rintro e w7 ⟨rfl,d⟩;have s:=z9 (bel f.out.drew d)))
 all_goals
  go_wp2_with fail
  go_ret
  exact⟨rfl,s.out⟩
end Ic
namespace Idc
open Ia Ib Ic
open La (bel aC own_below)
theorem tX{x:Mk}(h:markE x=0):x.1.size<=maxLen:=by
 unfold markE at h;split at h
 ·next h1=>exact absurd h h1
 ·next h1=>
  have a:Pm.chk x.1.toList=0:=by simpa using h1
  have b:=(Bm.cS a).2;unfold maxLen;rw[Kb.aJ] at b;omega
variable {w w':World}{M:List Ent}{B:Nat}(m:Mem)(S:Dq)(G:Nat->Prop)(a b t:Int)(p:ByteArray)(c:Int)(vs:Value)
theorem wX(h:∀x ∈ M,RowS w x.2.1 x.2.2)(d:Dt):RowS w (getV M d) (getJ M d):=by
 rcases get_mem d M with⟨e1,e2⟩ | ⟨x,hx,e1,e2⟩
 ·rw[e1,e2];exact jT _ _ _ _
 ·rw[<-e1,<-e2];exact h x hx
theorem gY{N:Nat}(h:∀x ∈ M,x.2.2.length<=N)(d:Dt):(getJ M d).length<=N:=by
 rcases get_mem d M with⟨_,e2⟩ | ⟨x,hx,_,e2⟩
 ·rw[e2];exact jW _
 ·rw[<-e2];exact h x hx
theorem MapAt.stay(h:MapAt w B M)(hs:w'.heap[B]? =w.heap[B]?):MapAt w' B M:=by
 obtain⟨b,a,c,d⟩:=h;exact⟨b,a,hs.trans c,d⟩
theorem MapAt.lt(h:MapAt w B M):B<w.heap.size:=by
 obtain⟨c,a,b,d⟩:=h;exact(qG.1 b).1
theorem MapAt.below(h:MapAt w B M)(hb:zB w w'):MapAt w' B M:=MapAt.stay h (hb.block B (MapAt.lt h))
theorem RowS.below{v:Value}{l:List ByteArray}(h:RowS w v l)(hb:zB w w'):RowS w' v l:=own_below h hb
theorem aFC(w:World)(h:DocMem w m S G)(hs:∀x ∈ m.M,x.2.2.length<=1048576)(hj:isIn (getJ m.M (a,b)) p=true):
  Calls prog 160 #[.pointer (some ⟨m.D,0,none⟩),.agg #[.int .i64 a,.int .i64 b,.int .i64 t,.string p,.int .i64 c,vs]] w fun e w'=>e=.returned (.tuple #[m.vm,.nilIface])/\zB w w':=by
 have l:=aB h.blk (i:=4) (u:=.map (some m.B)) rfl;have o:=aB h.blk (i:=1) (u:=m.vm) rfl;have d:Hid (zB w (w.alloc (.cells #[zI a,zI b,zI t,.string p,zI c,vs] 97))):=zb w _;have f:=fun k=>nA (MapAt.below h.map (aC d.out k)) a b
 have r:=wX h.rows (a,b);have C:=fun k=>cN _ _ p _ (RowS.below r (aC d.out k)) (gY hs (a,b))
 rw[hj] at C;obtain⟨q,J,z,_⟩:=oJ r;rw[z] at f C;obtain⟨n,A⟩:=zx ((getJ m.M (a,b)).length);obtain⟨D,s⟩:=zx m.D;obtain⟨B,E⟩:=zx m.B;obtain⟨vm,F⟩:=zx m.vm;obtain⟨v,H,y,g⟩:∃v H y,m.vm=.slice v H y:=by obtain⟨v,y,e,_⟩:=h.marks;exact⟨_,_,_,e⟩
 rw[<-A] at f C;rw[<-E] at f l;rw[<-s] at l o;rw[g] at o;rw[<-s,g];have K:=aA d.out l;have L:=aA d.out o;obtain⟨N,O,P,Q,R,T⟩:=aT w a b t p c vs 97;clear h hs hj r z A s E F g;go_in;go_wp2_with fail;go_quiet (exact Calls.quiet_of_same (C _))
 go_wp2_with fail;go_ret2;exact⟨rfl,aC d.out _⟩
theorem aDi(w:World)(h:DocMem w m S G)(hs:∀x ∈ m.M,x.2.2.length<=1048576)(hj:isIn (getJ m.M (a,b)) p=false)(hb0:marksE S.marks=0)(hp:p.size<=maxLen):
  Calls prog 160 #[.pointer (some ⟨m.D,0,none⟩),.agg #[.int .i64 a,.int .i64 b,.int .i64 t,.string p,.int .i64 c,vs]] w fun e w'=>∃v',e=.returned (.tuple #[v',errV (cutE S.marks (p,(a,b)))])/\MksNew w.heap.size w' v' (cutL S.marks (p,(a,b)))/\zB w w':=by
 have y:=aB h.blk (i:=4) (u:=.map (some m.B)) rfl
 have z:=aB h.blk (i:=1) (u:=m.vm) rfl
 have d:Hid (zB w (w.alloc (.cells #[zI a,zI b,zI t,.string p,zI c,vs] 97))):=zb w _
 have l:=fun k=>nA (MapAt.below h.map (aC d.out k)) a b
 have J:=wX h.rows (a,b)
 have C:=fun k=>cN _ _ p _ (RowS.below J (aC d.out k)) (gY hs (a,b))
 rw[hj] at C
 have E:∀x ∈ S.marks,x.1.size<=maxLen:=fun x hx=>tX ((aY.1 hb0).2.1 x hx)
 have F:Hid (∀W,zB w W->Calls prog 181 #[m.vm,.agg #[.string p,zI a,zI b]] W fun e w'=>∃v',e=.returned (.tuple #[v',errV (cutE S.marks (p,(a,b)))])/\MksNew w.heap.size w' v' (cutL S.marks (p,(a,b)))/\zB W w'):=
  fun W hb=>(Nh.aHl m.vm S.marks p a b W (h.marks.below hb) E hp).mono fun e w' ⟨v',h1,h2,h3⟩=>⟨v',h1,h2.mono hb.size,h3⟩
 obtain⟨q,cc,N,_⟩:=oJ J
 rw[N] at l C
 obtain⟨n,O⟩:=zx ((getJ m.M (a,b)).length)
 obtain⟨D,K⟩:=zx m.D
 obtain⟨B,P⟩:=zx m.B
 obtain⟨o,A,r,s⟩:∃o A r,m.vm=.slice o A r:=by obtain⟨o,r,e,_⟩:=h.marks;exact⟨_,_,_,e⟩
 obtain⟨ee,v⟩:=zx (errV (cutE S.marks (p,(a,b))))
 rw[<-O] at l C
 rw[<-P] at l y
 rw[<-K] at y z
 rw[s] at z
 rw[s,<-v] at F
 rw[<-K,<-v]
 have Y:=aA d.out y
 have Q:=aA d.out z
 obtain⟨R,T,Z,U,o4,o5⟩:=aT w a b t p c vs 97
 clear h hs hj J N O K P s v E hb0 hp
 go_in
 go_wp2_with fail
 go_quiet (exact Calls.quiet_of_same (C _))
 go_wp2_with fail
 generalize f:World.drewN _ _=wq
 have H:Hid (zB w wq):=by rw[<-f];exact aC d.out _
 have i1:wq.cell? ⟨D,1,none⟩=some (.slice o A r):=by rw[<-f];exact Q
 have k0:wq.cell? (zW w)=some (zI a):=by rw[<-f];exact R
 have k1:wq.cell? ⟨w.heap.size,1,none⟩=some (zI b):=by rw[<-f];exact T
 have k3:wq.cell? ⟨w.heap.size,3,none⟩=some (.string p):=by rw[<-f];exact U
 clear f Y Q R T Z U o4 o5 l C d y z
 go_region_held3 (fun W=>W.cell? ⟨D,1,none⟩=some (.slice o A r)/\W.cell? (zW w)=some (zI a)/\W.cell? ⟨w.heap.size,1,none⟩=some (zI b)/\W.cell? ⟨w.heap.size,3,none⟩=some (.string p)) (first | (go_keep;done) | (refine⟨aA g ?_,aA g ?_,aA g ?_,aA g ?_⟩<;>(go_split_ands;assumption))) (first
  | (go_at_call 181;refine(F.out _ H.out.drew).mono ?_;rintro e w7 ⟨v7,rfl,I,g⟩;have V:=z9 I;have X:=z9 (bel H.out.drew g);clear I))
 all_goals
  go_wp2_with fail
  go_ret2
  exact⟨_,rfl,V.out,X.out⟩
end Idc
namespace Ie
open Ia Ic Idc
open La (bel aC aD aH)
open Lj (BookAt BookNew)
variable {v vb vm:Value}{l:List Bm.Leaf}{B:Nat}{w7:World}{o:Ox}(m:Mem)(S:Dq)(G:Nat->Prop)(a b:Int)(p:ByteArray)(c:Int)(vs:Value)(s:List Dt)(w:World)
theorem set_heap{w:World}{g i:Nat}{cs:Array Value}{t:TypeId}{f:Nat × Nat}(h:w.heap[g]? =some (.cells cs t f)):(w.setCell ⟨g,i,none⟩ v).heap[g]? =some (.cells (cs.setIfInBounds i v) t f):=by
 simp[World.setCell,kI,h]
theorem set_size(p:Addr)(v:Value):(w.setCell p v).heap.size=w.heap.size:=by simp[World.setCell]
theorem eM(h:Bm.bookE l=0):∀x ∈ l,x.1.size<=maxLen:=by
 intro x hx;have a:=(Bm.aU.1 h).2.1 x hx
 have b:Pm.chk x.1.toList=0:=by
  unfold Bm.leafE at a;split at a
  ·next h1=>exact absurd a h1
  ·next h1=>simpa using h1
 have c:=(Bm.cS b).2;unfold maxLen;rw[Kb.aJ] at c;omega
theorem cE{p:ByteArray}(h:Pm.chk p.toList=0):p.size<=maxLen:=by
 have a:=(Bm.cS h).2;unfold maxLen;rw[Kb.aJ] at a;omega
theorem rU{w:World}(h:BookNew B w v l):In (fun g=>B<=g/\g<w.heap.size) v:=by
 intro a n c e hn;refine⟨h.2 a n c e hn, ?_⟩;obtain⟨p,i,d,f,_⟩:=h.1;rw[e] at d;injection d with e1 e2 e3
 rcases f with h0 | ⟨b,o,hp,hc⟩
 ·rw[h0] at e2;simp at e2;omega
 ·rw[hp] at e1;injection e1 with e1
  rw[e1];exact(hc 0 (by omega)).lt
theorem uD{w:World}{l:List Mk}(h:MksNew B w v l):In (fun g=>B<=g/\g<w.heap.size) v:=by
 intro a n c e hn;refine⟨h.2 a n c e hn, ?_⟩;obtain⟨p,i,d,f,_⟩:=h.1;rw[e] at d;injection d with e1 e2 e3
 rcases f with h0 | ⟨b,o,hp,hc⟩
 ·rw[h0] at e2;simp at e2;omega
 ·rw[hp] at e1;injection e1 with e1
  rw[e1];exact(hc 0 (by omega)).lt
def News (G:Nat→Prop) (w w':World) (g:Nat):Prop:=G g∨(w.heap.size≤g∧g<w'.heap.size)
theorem aIJ{w:World}{m:Mem}{S:Dq}{G:Nat->Prop}{B:List Bm.Leaf}{M:List Mk}(h:DocMem w m S G)(hb:zB w w7)(h1:BookAt w7 vb B)(i1:In (News G w w7) vb)(h2:MksAt w7 vm M)(i2:In (News G w w7) vm):
  DocMem ((w7.setCell ⟨m.D,0,none⟩ vb).setCell ⟨m.D,1,none⟩ vm) { m with vb:=vb,vm:=vm } ⟨B,M,S.known,S.ops⟩ (News G w w7)/\Chg (fun g=>g=m.D) w ((w7.setCell ⟨m.D,0,none⟩ vb).setCell ⟨m.D,1,none⟩ vm):=by
 have f:=h.below hb
 have k:∀g,News G w w7 g->g<w7.heap.size:=fun g hg=>by
  rcases hg with e | e
  ·exact f.lt g e
  ·exact e.2
 have i:∀g,News G w w7 g->¬Wr m g:=fun g hg=>by
  rcases hg with e | e
  ·exact h.off g e
  ·intro e9;have:=h.sX g e9;omega
 have b:=f.more (H:=News G w w7) (fun g hg=>qH hg) k i;have d:∀g,g≠m.D->((w7.setCell ⟨m.D,0,none⟩ vb).setCell ⟨m.D,1,none⟩ vm).heap[g]? =w7.heap[g]? :=fun g hg=>by rw[set_block _ _ _ _ hg,set_block _ _ _ _ hg]
 have j:Stay (News G w w7) w7 ((w7.setCell ⟨m.D,0,none⟩ vb).setCell ⟨m.D,1,none⟩ vm):=fun g hg=>d g (fun e=>i g hg (qH e))
 have l:∀g a t,w7.heap[g]? =some (.cells a t (0,0))->t≠93->g≠m.D:=fun g a t hg ht e=>by
  rw[e,f.blk] at hg;injection hg with hg
  injection hg with _ hg _
  exact ht hg.symm
 obtain⟨L,v,r,o⟩:=b.ops;refine⟨⟨?_,cR h1 i1 j,i1,cI h2 i2 j,i2,cW b.known b.knownG j,b.knownG,⟨L,v,aP r (fun g hg=> ?_),fun y hy=>⟨bI (o y hy).1 (o y hy).2 j,(o y hy).2⟩⟩,MapAt.stay b.map (d _ ?_),fun x hx=>aP (b.rows x hx) (fun g hg=> ?_),b.apart, ?_,b.off⟩, ?_⟩
 ·rw[set_heap (set_heap f.blk)];rfl
 ·obtain⟨_,a,q⟩:=aL r g hg;exact d g (l g a _ q (by decide))
 ·intro e;obtain⟨A,s,n,_⟩:=f.map;rw[e,f.blk] at n;cases n
 ·obtain⟨_,a,q⟩:=aL (b.rows x hx) g hg;exact d g (l g a _ q (by decide))
 ·intro g hg;rw[set_size,set_size];exact k g hg
 ·exact((Chg.ofBelow hb (fun g=>g=m.D)).setCell (p:=⟨m.D,0,none⟩) rfl _).setCell (p:=⟨m.D,1,none⟩) rfl _
def DoPost (w:World) (m:Mem) (S:Dq) (G:Nat→Prop) (o:Ox) (e:Ending) (w':World):Prop:=
 ∃vb vm,e=.returned (.tuple #[vb,vm,errV (doE S o)])∧Below w.heap.size w w'∧(doE S o=0→(BookAt w' vb (doB S o)∧In (News G w w') vb)∧MksAt w' vm (doM S o)∧In (News G w w') vm)
theorem DoPost.no{w w':World}{m:Mem}{S:Dq}{G:Nat->Prop}{k:Int}(hk:doE S o=k)(h0:k≠0)(hb:zB w w'):DoPost w m S G o (.returned (.tuple #[vb,vm,.iface 59 (.int .i64 k)])) w':=
 ⟨vb,vm,by rw[hk,aH h0],hb,fun h=>absurd (hk.symm.trans h) h0⟩
theorem DoPost.yes{w:World}{m:Mem}{S:Dq}{G:Nat->Prop}(hk:doE S o=0)(hb:zB w w7)(h1:BookAt w7 vb (doB S o))(i1:In (News G w w7) vb)(h2:MksAt w7 vm (doM S o))(i2:In (News G w w7) vm):
  DoPost w m S G o (.returned (.tuple #[vb,vm,.nilIface])) w7:=⟨vb,vm,by rw[hk];rfl,hb,fun _=>⟨⟨h1,i1⟩,h2,i2⟩⟩
theorem aAN(h:DocMem w m S G)(hbk:Bm.bookE S.book=0)(hmk:marksE S.marks=0)(hp:Pm.chk p.toList=0)(hk:Bm.writeE S.book p c=0):
  Calls prog 134 #[.pointer (some ⟨m.D,0,none⟩),.agg #[.int .i64 a,.int .i64 b,.int .i64 1,.string p,.int .i64 c,vs]] w (DoPost w m S G ((a,b),1,p,c,s)):=by
 have I:=z9 h;have E:=aB h.blk (i:=0) (u:=m.vb) rfl;have F:=aB h.blk (i:=1) (u:=m.vm) rfl;have k:Hid (zB w (w.alloc (.cells #[zI a,zI b,zI 1,.string p,zI c,vs] 97))):=zb w _
 have H:Hid (∀W,zB w W->W.cell? ⟨m.D,0,none⟩=some m.vb/\W.cell? ⟨m.D,1,none⟩=some m.vm/\W.frozen? ⟨m.D,0,none⟩=false/\W.frozen? ⟨m.D,1,none⟩=false):=fun W hb=>by
  have r:=(h.below hb).blk;exact⟨aB r rfl,aB r rfl,aF r,aF r⟩
 have J:Hid (doE S ((a,b),1,p,c,s)=Bm.writeE S.book p c):=by unfold Hid doE;rw[if_pos rfl]
 have K:Hid (doB S ((a,b),1,p,c,s)=Bm.writeL S.book p c):=by unfold Hid doB;rw[if_pos rfl]
 have L:Hid (doM S ((a,b),1,p,c,s)=S.marks):=by unfold Hid doM;rw[if_neg (by decide:¬(1:Int)=3),if_neg (by decide:¬(1:Int)=4)]
 have t:Hid (∀W,zB w W->Calls prog 158 #[m.vb,.string p,zI c] W fun e w'=>∃v',e=.returned (.tuple #[v',errV (Bm.writeE S.book p c)])/\BookNew w.heap.size w' v' (Bm.writeL S.book p c)/\zB W w'):=
  fun W hb=>(Lk.iA m.vb S.book p c W (h.book.below hb) (eM hbk) (cE hp)).mono fun e w' ⟨v',h1,h2,h3⟩=>⟨v',h1,h2.mono hb.size,h3⟩
 rw[hk] at J t;rw[aD] at t;obtain⟨D,o⟩:=zx m.D;have Y:=z9 o;obtain⟨Z,nb,cb,f⟩:∃p n c,m.vb=.slice p n c:=by obtain⟨p,c,e,_⟩:=h.book;exact⟨_,_,_,e⟩
 obtain⟨pm,nm,cm,l⟩:∃p n c,m.vm=.slice p n c:=by obtain⟨p,c,e,_⟩:=h.marks;exact⟨_,_,_,e⟩
 have X:=z9 f;have y:=z9 l;rw[f,l,<-o] at H;rw[f,<-o] at E;rw[l,<-o] at F;rw[<-o];rw[f] at t;have T:=aA k.out E;have U:=aA k.out F;obtain⟨M,N,O,P,Q,R⟩:=aT w a b 1 p c vs 97;clear h o f l hbk hmk hp E F hk;go_in;go_wp2_with fail;go_quiet (fail)
 go_wp2_with fail;generalize d:World.drewN _ _=wq;have z:Hid (zB w wq):=by rw[<-d];exact aC k.out _
 have k0:wq.cell? (zW w)=some (zI a):=by rw[<-d];exact M
 have k1:wq.cell? ⟨w.heap.size,1,none⟩=some (zI b):=by rw[<-d];exact N
 have k2:wq.cell? ⟨w.heap.size,2,none⟩=some (zI 1):=by rw[<-d];exact O
 have k3:wq.cell? ⟨w.heap.size,3,none⟩=some (.string p):=by rw[<-d];exact P
 have k4:wq.cell? ⟨w.heap.size,4,none⟩=some (zI c):=by rw[<-d];exact Q
 have k5:wq.cell? ⟨w.heap.size,5,none⟩=some vs:=by rw[<-d];exact R
 clear d T U M N O P Q R k;go_wp2_with fail;refine(t.out wq z.out).mono ?_;rintro e w7 ⟨V,rfl,q,A⟩;obtain⟨p7,n7,c7,rfl⟩:∃p n c,V=.slice p n c:=by obtain⟨⟨p,c,e,_⟩,_⟩:=q;exact⟨_,_,_,e⟩
 have B:=z9 q;have C:=z9 (bel z.out A);clear q;clear A;go_wp2_with fail;go_ret3;refine DoPost.yes J.out C.out ?_ ?_ ?_ ?_
 ·rw[K.out];exact B.out.1
 ·exact(rU B.out).mono fun g hg=>qF hg
 ·rw[L.out,<-y.out];exact I.out.marks.below C.out
 ·rw[<-y.out];exact I.out.marksG.mono fun g hg=>qH hg
theorem aBb(h:DocMem w m S G)(hbk:Bm.bookE S.book=0)(hmk:marksE S.marks=0)(hp:Pm.chk p.toList=0)(k:Int)(hk:Bm.writeE S.book p c=k)(h0:k≠0):
  Calls prog 134 #[.pointer (some ⟨m.D,0,none⟩),.agg #[.int .i64 a,.int .i64 b,.int .i64 1,.string p,.int .i64 c,vs]] w (DoPost w m S G ((a,b),1,p,c,s)):=by
 have V:=z9 h;have y:=aB h.blk (i:=0) (u:=m.vb) rfl;have z:=aB h.blk (i:=1) (u:=m.vm) rfl;have g:Hid (zB w (w.alloc (.cells #[zI a,zI b,zI 1,.string p,zI c,vs] 97))):=(qD _ w).alloc (qC _) _
 have A:Hid (∀W,zB w W->W.cell? ⟨m.D,0,none⟩=some m.vb/\W.cell? ⟨m.D,1,none⟩=some m.vm/\W.frozen? ⟨m.D,0,none⟩=false/\W.frozen? ⟨m.D,1,none⟩=false):=fun W hb=>by
  have q:=(h.below hb).blk;exact⟨aB q rfl,aB q rfl,aF q,aF q⟩
 have C:Hid (doE S ((a,b),1,p,c,s)=Bm.writeE S.book p c):=by unfold Hid doE;rw[if_pos rfl]
 have Q:Hid (doB S ((a,b),1,p,c,s)=Bm.writeL S.book p c):=by unfold Hid doB;rw[if_pos rfl]
 have R:Hid (doM S ((a,b),1,p,c,s)=S.marks):=by unfold Hid doM;rw[if_neg (by decide:¬(1:Int)=3),if_neg (by decide:¬(1:Int)=4)]
 have r:Hid (∀W,zB w W->Calls prog 158 #[m.vb,.string p,zI c] W fun e w'=>∃v',e=.returned (.tuple #[v',errV (Bm.writeE S.book p c)])/\BookNew w.heap.size w' v' (Bm.writeL S.book p c)/\zB W w'):=
  fun W hb=>(Lk.iA m.vb S.book p c W (h.book.below hb) (eM hbk) (cE hp)).mono fun e w' ⟨v',h1,h2,h3⟩=>⟨v',h1,h2.mono hb.size,h3⟩
 rw[hk] at C r;rw[aH h0] at r;have N:=z9 h0;obtain⟨D,o⟩:=zx m.D;have X:=z9 o;obtain⟨Y,Z,cb,f⟩:∃p n c,m.vb=.slice p n c:=by obtain⟨p,c,e,_⟩:=h.book;exact⟨_,_,_,e⟩
 obtain⟨pm,nm,cm,j⟩:∃p n c,m.vm=.slice p n c:=by obtain⟨p,c,e,_⟩:=h.marks;exact⟨_,_,_,e⟩
 have T:=z9 f;have U:=z9 j;rw[f,j,<-o] at A;rw[f,<-o] at y;rw[j,<-o] at z;rw[<-o];rw[f] at r;have O:=aA g.out y;have P:=aA g.out z;obtain⟨E,F,H,I,J,K⟩:=aT w a b 1 p c vs 97;clear h o f j hbk hmk hp y z hk h0;go_in;go_wp2_with fail;go_quiet (fail)
 go_wp2_with fail;generalize d:World.drewN _ _=wq;have t:Hid (zB w wq):=by rw[<-d];exact aC g.out _
 have k0:wq.cell? (zW w)=some (zI a):=by rw[<-d];exact E
 have k1:wq.cell? ⟨w.heap.size,1,none⟩=some (zI b):=by rw[<-d];exact F
 have k2:wq.cell? ⟨w.heap.size,2,none⟩=some (zI 1):=by rw[<-d];exact H
 have k3:wq.cell? ⟨w.heap.size,3,none⟩=some (.string p):=by rw[<-d];exact I
 have k4:wq.cell? ⟨w.heap.size,4,none⟩=some (zI c):=by rw[<-d];exact J
 have k5:wq.cell? ⟨w.heap.size,5,none⟩=some vs:=by rw[<-d];exact K
 clear d O P E F H I J K g;go_wp2_with fail;refine(r.out wq t.out).mono ?_;rintro e w7 ⟨v7,rfl,L,v⟩;have M:=z9 (bel t.out v);clear L v;go_wp2_with fail;go_ret3;exact DoPost.no C.out N.out M.out
theorem zG(h:DocMem w m S G)(hbk:Bm.bookE S.book=0)(hmk:marksE S.marks=0)(hp:Pm.chk p.toList=0)(hk:Bm.strikeE S.book p=0):
  Calls prog 134 #[.pointer (some ⟨m.D,0,none⟩),.agg #[.int .i64 a,.int .i64 b,.int .i64 2,.string p,.int .i64 c,vs]] w (DoPost w m S G ((a,b),2,p,c,s)):=by
 have I:=z9 h;have E:=aB h.blk (i:=0) (u:=m.vb) rfl;have F:=aB h.blk (i:=1) (u:=m.vm) rfl;have k:Hid (zB w (w.alloc (.cells #[zI a,zI b,zI 2,.string p,zI c,vs] 97))):=zb w _
 have H:Hid (∀W,zB w W->W.cell? ⟨m.D,0,none⟩=some m.vb/\W.cell? ⟨m.D,1,none⟩=some m.vm/\W.frozen? ⟨m.D,0,none⟩=false/\W.frozen? ⟨m.D,1,none⟩=false):=fun W hb=>by
  have r:=(h.below hb).blk;exact⟨aB r rfl,aB r rfl,aF r,aF r⟩
 have J:Hid (doE S ((a,b),2,p,c,s)=Bm.strikeE S.book p):=by unfold Hid doE;rw[if_neg (by decide:¬(2:Int)=1),if_pos rfl]
 have K:Hid (doB S ((a,b),2,p,c,s)=Bm.strikeL S.book p):=by unfold Hid doB;rw[if_neg (by decide:¬(2:Int)=1),if_pos rfl]
 have L:Hid (doM S ((a,b),2,p,c,s)=S.marks):=by unfold Hid doM;rw[if_neg (by decide:¬(2:Int)=3),if_neg (by decide:¬(2:Int)=4)]
 have t:Hid (∀W,zB w W->Calls prog 159 #[m.vb,.string p] W fun e w'=>∃v',e=.returned (.tuple #[v',errV (Bm.strikeE S.book p)])/\BookNew w.heap.size w' v' (Bm.strikeL S.book p)/\zB W w'):=
  fun W hb=>(Lk.gC m.vb S.book p W (h.book.below hb) (eM hbk) (cE hp)).mono fun e w' ⟨v',h1,h2,h3⟩=>⟨v',h1,h2.mono hb.size,h3⟩
 rw[hk] at J t;rw[aD] at t;obtain⟨D,o⟩:=zx m.D;have Y:=z9 o;obtain⟨Z,nb,cb,f⟩:∃p n c,m.vb=.slice p n c:=by obtain⟨p,c,e,_⟩:=h.book;exact⟨_,_,_,e⟩
 obtain⟨pm,nm,cm,l⟩:∃p n c,m.vm=.slice p n c:=by obtain⟨p,c,e,_⟩:=h.marks;exact⟨_,_,_,e⟩
 have X:=z9 f;have y:=z9 l;rw[f,l,<-o] at H;rw[f,<-o] at E;rw[l,<-o] at F;rw[<-o];rw[f] at t;have T:=aA k.out E;have U:=aA k.out F;obtain⟨M,N,O,P,Q,R⟩:=aT w a b 2 p c vs 97;clear h o f l hbk hmk hp E F hk;go_in;go_wp2_with fail;go_quiet (fail)
 go_wp2_with fail;generalize d:World.drewN _ _=wq;have z:Hid (zB w wq):=by rw[<-d];exact aC k.out _
 have k0:wq.cell? (zW w)=some (zI a):=by rw[<-d];exact M
 have k1:wq.cell? ⟨w.heap.size,1,none⟩=some (zI b):=by rw[<-d];exact N
 have k2:wq.cell? ⟨w.heap.size,2,none⟩=some (zI 2):=by rw[<-d];exact O
 have k3:wq.cell? ⟨w.heap.size,3,none⟩=some (.string p):=by rw[<-d];exact P
 have k4:wq.cell? ⟨w.heap.size,4,none⟩=some (zI c):=by rw[<-d];exact Q
 have k5:wq.cell? ⟨w.heap.size,5,none⟩=some vs:=by rw[<-d];exact R
 clear d T U M N O P Q R k;go_wp2_with fail;refine(t.out wq z.out).mono ?_;rintro e w7 ⟨V,rfl,q,A⟩;obtain⟨p7,n7,c7,rfl⟩:∃p n c,V=.slice p n c:=by obtain⟨⟨p,c,e,_⟩,_⟩:=q;exact⟨_,_,_,e⟩
 have B:=z9 q;have C:=z9 (bel z.out A);clear q;clear A;go_wp2_with fail;go_ret3;refine DoPost.yes J.out C.out ?_ ?_ ?_ ?_
 ·rw[K.out];exact B.out.1
 ·exact(rU B.out).mono fun g hg=>qF hg
 ·rw[L.out,<-y.out];exact I.out.marks.below C.out
 ·rw[<-y.out];exact I.out.marksG.mono fun g hg=>qH hg
theorem aAg(h:DocMem w m S G)(hbk:Bm.bookE S.book=0)(hmk:marksE S.marks=0)(hp:Pm.chk p.toList=0)(k:Int)(hk:Bm.strikeE S.book p=k)(h0:k≠0):
  Calls prog 134 #[.pointer (some ⟨m.D,0,none⟩),.agg #[.int .i64 a,.int .i64 b,.int .i64 2,.string p,.int .i64 c,vs]] w (DoPost w m S G ((a,b),2,p,c,s)):=by
 have V:=z9 h;have y:=aB h.blk (i:=0) (u:=m.vb) rfl;have z:=aB h.blk (i:=1) (u:=m.vm) rfl;have g:Hid (zB w (w.alloc (.cells #[zI a,zI b,zI 2,.string p,zI c,vs] 97))):=(qD _ w).alloc (qC _) _
 have A:Hid (∀W,zB w W->W.cell? ⟨m.D,0,none⟩=some m.vb/\W.cell? ⟨m.D,1,none⟩=some m.vm/\W.frozen? ⟨m.D,0,none⟩=false/\W.frozen? ⟨m.D,1,none⟩=false):=fun W hb=>by
  have q:=(h.below hb).blk;exact⟨aB q rfl,aB q rfl,aF q,aF q⟩
 have C:Hid (doE S ((a,b),2,p,c,s)=Bm.strikeE S.book p):=by unfold Hid doE;rw[if_neg (by decide:¬(2:Int)=1),if_pos rfl]
 have Q:Hid (doB S ((a,b),2,p,c,s)=Bm.strikeL S.book p):=by unfold Hid doB;rw[if_neg (by decide:¬(2:Int)=1),if_pos rfl]
 have R:Hid (doM S ((a,b),2,p,c,s)=S.marks):=by unfold Hid doM;rw[if_neg (by decide:¬(2:Int)=3),if_neg (by decide:¬(2:Int)=4)]
 have r:Hid (∀W,zB w W->Calls prog 159 #[m.vb,.string p] W fun e w'=>∃v',e=.returned (.tuple #[v',errV (Bm.strikeE S.book p)])/\BookNew w.heap.size w' v' (Bm.strikeL S.book p)/\zB W w'):=
  fun W hb=>(Lk.gC m.vb S.book p W (h.book.below hb) (eM hbk) (cE hp)).mono fun e w' ⟨v',h1,h2,h3⟩=>⟨v',h1,h2.mono hb.size,h3⟩
 rw[hk] at C r;rw[aH h0] at r;have N:=z9 h0;obtain⟨D,o⟩:=zx m.D;have X:=z9 o;obtain⟨Y,Z,cb,f⟩:∃p n c,m.vb=.slice p n c:=by obtain⟨p,c,e,_⟩:=h.book;exact⟨_,_,_,e⟩
 obtain⟨pm,nm,cm,j⟩:∃p n c,m.vm=.slice p n c:=by obtain⟨p,c,e,_⟩:=h.marks;exact⟨_,_,_,e⟩
 have T:=z9 f;have U:=z9 j;rw[f,j,<-o] at A;rw[f,<-o] at y;rw[j,<-o] at z;rw[<-o];rw[f] at r;have O:=aA g.out y;have P:=aA g.out z;obtain⟨E,F,H,I,J,K⟩:=aT w a b 2 p c vs 97;clear h o f j hbk hmk hp y z hk h0;go_in;go_wp2_with fail;go_quiet (fail)
 go_wp2_with fail;generalize d:World.drewN _ _=wq;have t:Hid (zB w wq):=by rw[<-d];exact aC g.out _
 have k0:wq.cell? (zW w)=some (zI a):=by rw[<-d];exact E
 have k1:wq.cell? ⟨w.heap.size,1,none⟩=some (zI b):=by rw[<-d];exact F
 have k2:wq.cell? ⟨w.heap.size,2,none⟩=some (zI 2):=by rw[<-d];exact H
 have k3:wq.cell? ⟨w.heap.size,3,none⟩=some (.string p):=by rw[<-d];exact I
 have k4:wq.cell? ⟨w.heap.size,4,none⟩=some (zI c):=by rw[<-d];exact J
 have k5:wq.cell? ⟨w.heap.size,5,none⟩=some vs:=by rw[<-d];exact K
 clear d O P E F H I J K g;go_wp2_with fail;refine(r.out wq t.out).mono ?_;rintro e w7 ⟨v7,rfl,L,v⟩;have M:=z9 (bel t.out v);clear L v;go_wp2_with fail;go_ret3;exact DoPost.no C.out N.out M.out
theorem aBy(h:DocMem w m S G)(hbk:Bm.bookE S.book=0)(hmk:marksE S.marks=0)(hp:Pm.chk p.toList=0)(hs:∀x ∈ m.M,x.2.2.length<=1048576)(hj:isIn (getJ m.M (a,b)) p=true)(hsw:saw S.ops p (a,b)=true):
  Calls prog 134 #[.pointer (some ⟨m.D,0,none⟩),.agg #[.int .i64 a,.int .i64 b,.int .i64 3,.string p,.int .i64 c,vs]] w (DoPost w m S G ((a,b),3,p,c,s)):=by
 have q:=z9 h;have z:=aB h.blk (i:=0) (u:=m.vb) rfl;have A:=aB h.blk (i:=1) (u:=m.vm) rfl;have k:Hid (zB w (w.alloc (.cells #[zI a,zI b,zI 3,.string p,zI c,vs] 97))):=zb w _
 have B:Hid (∀W,zB w W->W.cell? ⟨m.D,0,none⟩=some m.vb/\W.cell? ⟨m.D,1,none⟩=some m.vm/\W.frozen? ⟨m.D,0,none⟩=false/\W.frozen? ⟨m.D,1,none⟩=false):=fun W hb=>by
  have r:=(h.below hb).blk;exact⟨aB r rfl,aB r rfl,aF r,aF r⟩
 have C:Hid (doB S ((a,b),3,p,c,s)=S.book):=by unfold Hid doB;rw[if_neg (by decide:¬(3:Int)=1),if_neg (by decide:¬(3:Int)=2)]
 have P:Hid (doE S ((a,b),3,p,c,s)=0):=by unfold Hid doE;rw[if_neg (by decide:¬(3:Int)=1),if_neg (by decide:¬(3:Int)=2),if_pos rfl];simp only[hsw,if_true]
 have E:Hid (doM S ((a,b),3,p,c,s)=S.marks):=by unfold Hid doM;rw[if_pos rfl];simp only[hsw,if_true]
 have F:Hid (∀W,zB w W->Calls prog 160 #[.pointer (some ⟨m.D,0,none⟩),.agg #[zI a,zI b,zI 3,.string p,zI c,vs]] W fun e w'=>e=.returned (.tuple #[m.vm,.nilIface])/\zB W w'):=
  fun W hb=>aFC m S G a b 3 p c vs W (h.below hb) hs hj
 obtain⟨D,j⟩:=zx m.D;have T:=z9 j;obtain⟨U,V,X,l⟩:∃p n c,m.vb=.slice p n c:=by obtain⟨p,c,e,_⟩:=h.book;exact⟨_,_,_,e⟩
 obtain⟨Y,Z,cm,f⟩:∃p n c,m.vm=.slice p n c:=by obtain⟨p,c,e,_⟩:=h.marks;exact⟨_,_,_,e⟩
 have t:=z9 l;have v:=z9 f;rw[l,f,<-j] at B;rw[l,<-j] at z;rw[f,<-j] at A;rw[<-j];rw[f,<-j] at F;have Q:=aA k.out z;have R:=aA k.out A;obtain⟨I,J,K,L,N,O⟩:=aT w a b 3 p c vs 97;clear h j l f hbk hmk hp z A hs hj hsw;go_in;go_wp2_with fail;go_quiet (fail)
 go_wp2_with fail;generalize d:World.drewN _ _=wq;have y:Hid (zB w wq):=by rw[<-d];exact aC k.out _
 have k0:wq.cell? (zW w)=some (zI a):=by rw[<-d];exact I
 have k1:wq.cell? ⟨w.heap.size,1,none⟩=some (zI b):=by rw[<-d];exact J
 have k2:wq.cell? ⟨w.heap.size,2,none⟩=some (zI 3):=by rw[<-d];exact K
 have k3:wq.cell? ⟨w.heap.size,3,none⟩=some (.string p):=by rw[<-d];exact L
 have k4:wq.cell? ⟨w.heap.size,4,none⟩=some (zI c):=by rw[<-d];exact N
 have k5:wq.cell? ⟨w.heap.size,5,none⟩=some vs:=by rw[<-d];exact O
 clear d Q R I J K L N O k;go_wp2_with fail;refine zm (F.out wq y.out) y.out ?_;intro w7 HB7;go_wp2_with fail;go_ret3;refine DoPost.yes P.out HB7.out ?_ ?_ ?_ ?_
 ·rw[C.out,<-t.out];exact q.out.book.below HB7.out
 ·rw[<-t.out];exact q.out.bookG.mono fun g hg=>qH hg
 ·rw[E.out,<-v.out];exact q.out.marks.below HB7.out
 ·rw[<-v.out];exact q.out.marksG.mono fun g hg=>qH hg
theorem aD5(h:DocMem w m S G)(hbk:Bm.bookE S.book=0)(hmk:marksE S.marks=0)(hp:Pm.chk p.toList=0)(hs:∀x ∈ m.M,x.2.2.length<=1048576)(hd:dotE a b=0)(hj:isIn (getJ m.M (a,b)) p=false)(hsw:saw S.ops p (a,b)=false)(hk:withM S.marks (p,(a,b))=0):
  Calls prog 134 #[.pointer (some ⟨m.D,0,none⟩),.agg #[.int .i64 a,.int .i64 b,.int .i64 3,.string p,.int .i64 c,vs]] w (DoPost w m S G ((a,b),3,p,c,s)):=by
 have K:=z9 h;have F:=aB h.blk (i:=0) (u:=m.vb) rfl;have H:=aB h.blk (i:=1) (u:=m.vm) rfl;have k:Hid (zB w (w.alloc (.cells #[zI a,zI b,zI 3,.string p,zI c,vs] 97))):=zb w _
 have I:Hid (∀W,zB w W->W.cell? ⟨m.D,0,none⟩=some m.vb/\W.cell? ⟨m.D,1,none⟩=some m.vm/\W.frozen? ⟨m.D,0,none⟩=false/\W.frozen? ⟨m.D,1,none⟩=false):=fun W hb=>by
  have t:=(h.below hb).blk;exact⟨aB t rfl,aB t rfl,aF t,aF t⟩
 have L:Hid (doB S ((a,b),3,p,c,s)=S.book):=by unfold Hid doB;rw[if_neg (by decide:¬(3:Int)=1),if_neg (by decide:¬(3:Int)=2)]
 have J:Hid (∀W,zB w W->Calls prog 160 #[.pointer (some ⟨m.D,0,none⟩),.agg #[zI a,zI b,zI 3,.string p,zI c,vs]] W fun e w'=>∃v',e=.returned (.tuple #[v',errV (cutE S.marks (p,(a,b)))])/\MksNew w.heap.size w' v' (cutL S.marks (p,(a,b)))/\zB W w'):=
  fun W hb=>(aDi m S G a b 3 p c vs W (h.below hb) hs hj hmk (cE hp)).mono fun e w' ⟨v',h1,h2,h3⟩=>⟨v',h1,h2.mono hb.size,h3⟩
 have q:cutE S.marks (p,(a,b))=withM S.marks (p,(a,b)):=by
  unfold cutE;rw[if_neg (by simpa using hmk),if_neg (by unfold markE;rw[if_neg (by simpa using hp)];simpa using hd)]
 have N:Hid (doE S ((a,b),3,p,c,s)=withM S.marks (p,(a,b))):=by unfold Hid doE;rw[if_neg (by decide:¬(3:Int)=1),if_neg (by decide:¬(3:Int)=2),if_pos rfl];simp only[hsw];rfl
 have O:Hid (doM S ((a,b),3,p,c,s)=ins mlt S.marks (p,(a,b))):=by unfold Hid doM;rw[if_pos rfl];simp only[hsw];rfl
 have y:cutL S.marks (p,(a,b))=ins mlt S.marks (p,(a,b)):=by unfold cutL;rw[q,if_pos hk]
 rw[hk] at N;rw[q,hk,aD,y] at J;obtain⟨D,j⟩:=zx m.D;have HD:=z9 j;obtain⟨pb,nb,cb,l⟩:∃p n c,m.vb=.slice p n c:=by obtain⟨p,c,e,_⟩:=h.book;exact⟨_,_,_,e⟩
 obtain⟨pm,nm,cm,o⟩:∃p n c,m.vm=.slice p n c:=by obtain⟨p,c,e,_⟩:=h.marks;exact⟨_,_,_,e⟩
 have z:=z9 l;have aa:=z9 o;rw[l,o,<-j] at I;rw[l,<-j] at F;rw[o,<-j] at H;rw[<-j];rw[<-j] at J;have X:=aA k.out F;have Y:=aA k.out H;obtain⟨P,Q,R,T,U,V⟩:=aT w a b 3 p c vs 97;clear h j l o hbk hmk hp F H hs hj hsw hk y q hd;go_in;go_wp2_with fail;go_quiet (fail)
 go_wp2_with fail;generalize d:World.drewN _ _=wq;have A:Hid (zB w wq):=by rw[<-d];exact aC k.out _
 have k0:wq.cell? (zW w)=some (zI a):=by rw[<-d];exact P
 have k1:wq.cell? ⟨w.heap.size,1,none⟩=some (zI b):=by rw[<-d];exact Q
 have k2:wq.cell? ⟨w.heap.size,2,none⟩=some (zI 3):=by rw[<-d];exact R
 have k3:wq.cell? ⟨w.heap.size,3,none⟩=some (.string p):=by rw[<-d];exact T
 have k4:wq.cell? ⟨w.heap.size,4,none⟩=some (zI c):=by rw[<-d];exact U
 have k5:wq.cell? ⟨w.heap.size,5,none⟩=some vs:=by rw[<-d];exact V
 clear d X Y P Q R T U V k;go_wp2_with fail;refine(J.out wq A.out).mono ?_;rintro e w7 ⟨Z,rfl,r,B⟩;obtain⟨p7,n7,c7,rfl⟩:∃p n c,Z=.slice p n c:=by obtain⟨⟨p,c,e,_⟩,_⟩:=r;exact⟨_,_,_,e⟩
 have C:=z9 r;have E:=z9 (bel A.out B);clear r;clear B;go_wp2_with fail;go_ret3;refine DoPost.yes N.out E.out ?_ ?_ ?_ ?_
 ·rw[L.out,<-z.out];exact K.out.book.below E.out
 ·rw[<-z.out];exact K.out.bookG.mono fun g hg=>qH hg
 ·rw[O.out];exact C.out.1
 ·exact(uD C.out).mono fun g hg=>qF hg
theorem aEZ(h:DocMem w m S G)(hbk:Bm.bookE S.book=0)(hmk:marksE S.marks=0)(hp:Pm.chk p.toList=0)(hs:∀x ∈ m.M,x.2.2.length<=1048576)(hd:dotE a b=0)(hj:isIn (getJ m.M (a,b)) p=false)(hsw:saw S.ops p (a,b)=false)(k:Int)(hk:withM S.marks (p,(a,b))=k)(h0:k≠0):
  Calls prog 134 #[.pointer (some ⟨m.D,0,none⟩),.agg #[.int .i64 a,.int .i64 b,.int .i64 3,.string p,.int .i64 c,vs]] w (DoPost w m S G ((a,b),3,p,c,s)):=by
 have X:=z9 h;have y:=aB h.blk (i:=0) (u:=m.vb) rfl;have z:=aB h.blk (i:=1) (u:=m.vm) rfl;have g:Hid (zB w (w.alloc (.cells #[zI a,zI b,zI 3,.string p,zI c,vs] 97))):=(qD _ w).alloc (qC _) _
 have A:Hid (∀W,zB w W->W.cell? ⟨m.D,0,none⟩=some m.vb/\W.cell? ⟨m.D,1,none⟩=some m.vm/\W.frozen? ⟨m.D,0,none⟩=false/\W.frozen? ⟨m.D,1,none⟩=false):=fun W hb=>by
  have q:=(h.below hb).blk;exact⟨aB q rfl,aB q rfl,aF q,aF q⟩
 have B:Hid (∀W,zB w W->Calls prog 160 #[.pointer (some ⟨m.D,0,none⟩),.agg #[zI a,zI b,zI 3,.string p,zI c,vs]] W fun e w'=>∃v',e=.returned (.tuple #[v',errV (cutE S.marks (p,(a,b)))])/\MksNew w.heap.size w' v' (cutL S.marks (p,(a,b)))/\zB W w'):=
  fun W hb=>(aDi m S G a b 3 p c vs W (h.below hb) hs hj hmk (cE hp)).mono fun e w' ⟨v',h1,h2,h3⟩=>⟨v',h1,h2.mono hb.size,h3⟩
 have r:cutE S.marks (p,(a,b))=withM S.marks (p,(a,b)):=by
  unfold cutE;rw[if_neg (by simpa using hmk),if_neg (by unfold markE;rw[if_neg (by simpa using hp)];simpa using hd)]
 have E:Hid (doE S ((a,b),3,p,c,s)=withM S.marks (p,(a,b))):=by unfold Hid doE;rw[if_neg (by decide:¬(3:Int)=1),if_neg (by decide:¬(3:Int)=2),if_pos rfl];simp only[hsw];rfl
 have T:Hid (doM S ((a,b),3,p,c,s)=ins mlt S.marks (p,(a,b))):=by unfold Hid doM;rw[if_pos rfl];simp only[hsw];rfl
 have P:=z9 h0;rw[hk] at E;rw[r,hk,aH h0] at B;obtain⟨D,f⟩:=zx m.D;have Y:=z9 f;obtain⟨Z,nb,cb,j⟩:∃p n c,m.vb=.slice p n c:=by obtain⟨p,c,e,_⟩:=h.book;exact⟨_,_,_,e⟩
 obtain⟨pm,nm,cm,l⟩:∃p n c,m.vm=.slice p n c:=by obtain⟨p,c,e,_⟩:=h.marks;exact⟨_,_,_,e⟩
 have U:=z9 j;have V:=z9 l;rw[j,l,<-f] at A;rw[j,<-f] at y;rw[l,<-f] at z;rw[<-f];rw[<-f] at B;have Q:=aA g.out y;have R:=aA g.out z;obtain⟨F,H,I,J,K,L⟩:=aT w a b 3 p c vs 97;clear h f j l hbk hmk hp y z hs hj hsw hk r hd h0;go_in;go_wp2_with fail;go_quiet (fail)
 go_wp2_with fail;generalize d:World.drewN _ _=wq;have t:Hid (zB w wq):=by rw[<-d];exact aC g.out _
 have k0:wq.cell? (zW w)=some (zI a):=by rw[<-d];exact F
 have k1:wq.cell? ⟨w.heap.size,1,none⟩=some (zI b):=by rw[<-d];exact H
 have k2:wq.cell? ⟨w.heap.size,2,none⟩=some (zI 3):=by rw[<-d];exact I
 have k3:wq.cell? ⟨w.heap.size,3,none⟩=some (.string p):=by rw[<-d];exact J
 have k4:wq.cell? ⟨w.heap.size,4,none⟩=some (zI c):=by rw[<-d];exact K
 have k5:wq.cell? ⟨w.heap.size,5,none⟩=some vs:=by rw[<-d];exact L
 clear d Q R F H I J K L g;go_wp2_with fail;refine(B.out wq t.out).mono ?_;rintro e w7 ⟨v7,rfl,N,v⟩;have O:=z9 (bel t.out v);clear N v;go_wp2_with fail;go_ret3;exact DoPost.no E.out P.out O.out
theorem aBU(h:DocMem w m S G)(hbk:Bm.bookE S.book=0)(hmk:marksE S.marks=0)(hp:Pm.chk p.toList=0)(hd:DtsAt w vs s)(h0:aDt S.marks p s=0):
  Calls prog 134 #[.pointer (some ⟨m.D,0,none⟩),.agg #[.int .i64 a,.int .i64 b,.int .i64 4,.string p,.int .i64 c,vs]] w (DoPost w m S G ((a,b),4,p,c,s)):=by
 have I:=z9 h;have E:=aB h.blk (i:=0) (u:=m.vb) rfl;have F:=aB h.blk (i:=1) (u:=m.vm) rfl;have k:Hid (zB w (w.alloc (.cells #[zI a,zI b,zI 4,.string p,zI c,vs] 97))):=zb w _
 have H:Hid (∀W,zB w W->W.cell? ⟨m.D,0,none⟩=some m.vb/\W.cell? ⟨m.D,1,none⟩=some m.vm/\W.frozen? ⟨m.D,0,none⟩=false/\W.frozen? ⟨m.D,1,none⟩=false):=fun W hb=>by
  have r:=(h.below hb).blk;exact⟨aB r rfl,aB r rfl,aF r,aF r⟩
 have J:Hid (doB S ((a,b),4,p,c,s)=S.book):=by unfold Hid doB;rw[if_neg (by decide:¬(4:Int)=1),if_neg (by decide:¬(4:Int)=2)]
 have T:Hid (doE S ((a,b),4,p,c,s)=0):=by unfold Hid doE;rw[if_neg (by decide:¬(4:Int)=1),if_neg (by decide:¬(4:Int)=2),if_neg (by decide:¬(4:Int)=3)]
 have K:Hid (doM S ((a,b),4,p,c,s)=without S.marks p s):=by unfold Hid doM;rw[if_neg (by decide:¬(4:Int)=3),if_pos rfl]
 have v:∀x ∈ S.marks,x.1.size<=maxLen:=fun x hx=>tX ((aY.1 hmk).2.1 x hx)
 have L:Hid (∀W,zB w W->Calls prog 161 #[m.vm,.string p,vs] W fun e w'=>∃v',e=.returned (.tuple #[v',.nilIface])/\MksNew w.heap.size w' v' (without S.marks p s)/\zB W w'):=
  fun W hb=>(Nn.aG8 m.vm S.marks p vs s W (h.marks.below hb) v (cE hp) (hd.below hb) h0).mono fun e w' ⟨v',h1,h2,h3⟩=>⟨v',h1,h2.mono hb.size,h3⟩
 obtain⟨D,o⟩:=zx m.D;have Z:=z9 o;obtain⟨pb,nb,cb,l⟩:∃p n c,m.vb=.slice p n c:=by obtain⟨p,c,e,_⟩:=h.book;exact⟨_,_,_,e⟩
 obtain⟨pm,nm,cm,f⟩:∃p n c,m.vm=.slice p n c:=by obtain⟨p,c,e,_⟩:=h.marks;exact⟨_,_,_,e⟩
 have y:=z9 l;have Y:=z9 f;rw[l,f,<-o] at H;rw[l,<-o] at E;rw[f,<-o] at F;rw[<-o];rw[f] at L;have U:=aA k.out E;have V:=aA k.out F;obtain⟨M,N,O,P,Q,R⟩:=aT w a b 4 p c vs 97;clear h o l f hbk hmk hp E F hd h0 v;go_in;go_wp2_with fail;go_quiet (fail)
 go_wp2_with fail;generalize d:World.drewN _ _=wq;have z:Hid (zB w wq):=by rw[<-d];exact aC k.out _
 have k0:wq.cell? (zW w)=some (zI a):=by rw[<-d];exact M
 have k1:wq.cell? ⟨w.heap.size,1,none⟩=some (zI b):=by rw[<-d];exact N
 have k2:wq.cell? ⟨w.heap.size,2,none⟩=some (zI 4):=by rw[<-d];exact O
 have k3:wq.cell? ⟨w.heap.size,3,none⟩=some (.string p):=by rw[<-d];exact P
 have k4:wq.cell? ⟨w.heap.size,4,none⟩=some (zI c):=by rw[<-d];exact Q
 have k5:wq.cell? ⟨w.heap.size,5,none⟩=some vs:=by rw[<-d];exact R
 clear d U V M N O P Q R k;go_wp2_with fail;refine(L.out wq z.out).mono ?_;rintro e w7 ⟨X,rfl,q,A⟩;obtain⟨p7,n7,c7,rfl⟩:∃p n c,X=.slice p n c:=by obtain⟨⟨p,c,e,_⟩,_⟩:=q;exact⟨_,_,_,e⟩
 have B:=z9 q;have C:=z9 (bel z.out A);clear q;clear A;go_wp2_with fail;go_ret3;refine DoPost.yes T.out C.out ?_ ?_ ?_ ?_
 ·rw[J.out,<-y.out];exact I.out.book.below C.out
 ·rw[<-y.out];exact I.out.bookG.mono fun g hg=>qH hg
 ·rw[K.out];exact B.out.1
 ·exact(uD B.out).mono fun g hg=>qF hg
theorem zX(t:Int)(p:ByteArray)(c:Int)(vs:Value)(s:List Dt)(w:World)(h:DocOk w m S G)(ho:opE ((a,b),t,p,c,s)=0)(hd:DtsAt w vs s)(hun:kn S a<b):
  Calls prog 134 #[.pointer (some ⟨m.D,0,none⟩),.agg #[.int .i64 a,.int .i64 b,.int .i64 t,.string p,.int .i64 c,vs]] w (DoPost w m S G ((a,b),t,p,c,s)):=by
 obtain⟨j,n,f,k⟩:=aO.1 ho;simp only at j n f k;have e:=h.inv.book;have d:=h.inv.marks;have l:∀x ∈ m.M,x.2.2.length<=1048576:=fun x hx=>qO (h.short x hx) (by have:=h.inv.few;omega)
 have i:isIn (getJ m.M (a,b)) p=saw S.ops p (a,b):=by
  have:=h.jn (a,b) p j hun;rw[xP,oH];exact this
 have o:t=1\/t=2\/t=3\/t=4:=by omega
 rcases o with rfl | rfl | rfl | rfl
 ·by_cases g:Bm.writeE S.book p c=0
  ·exact aAN m S G a b p c vs s w h.mem e d f g
  ·exact aBb m S G a b p c vs s w h.mem e d f _ rfl g
 ·by_cases g:Bm.strikeE S.book p=0
  ·exact zG m S G a b p c vs s w h.mem e d f g
  ·exact aAg m S G a b p c vs s w h.mem e d f _ rfl g
 ·cases hsw:saw S.ops p (a,b)
  ·by_cases g:withM S.marks (p,(a,b))=0
   ·exact aD5 m S G a b p c vs s w h.mem e d f l j (i.trans hsw) hsw g
   ·exact aEZ m S G a b p c vs s w h.mem e d f l j (i.trans hsw) hsw _ rfl g
  ·exact aBy m S G a b p c vs s w h.mem e d f l (i.trans hsw) hsw
 ·have q:=rW.2 ⟨iL.2 ⟨d,f⟩,(bB.1 k).2.2.2.1,(bB.1 k).2.2.2.2⟩;exact aBU m S G a b p c vs s w h.mem e d f hd q
end Ie
end Go.Proofs.YtjcemlmlfoilmaaGreatDoor
