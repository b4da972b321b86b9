import Derived.Test.YtiamefgoeibhhaaGreatDoorSh
import Derived.Test.YtiamefgoeibhhaaGreatDoorV1
import Derived.Test.YtiamefgoeibhhaaGreatDoorJ10
import Derived.Lib.Builder
import Derived.Lib.AppendStr
import Derived.Shelf.Strings.Builder1
import Derived.RangeFuncNested
import Derived.RangeFuncBound
import Derived.RangeFuncCalls
import Derived.RangeFuncLeaves
import Derived.Shelf.RegionOpen
set_option linter.unusedVariables false
set_option maxRecDepth 100000
set_option maxHeartbeats 8000000
namespace Go.Proofs.YtiamefgoeibhhaaGreatDoor
namespace Rx8
open Go.ChangeShapes Go.WideShapes Go.ChangeAt Go.RowKit Go.Shelf Cm Ka Na Om Oa Oz Oc Ia
open La (bel bel_drew own_ge own_grow own_below)
open Vd (Grew)
open Ic (blk_cell blk_free)
theorem mkH {p:Prop} (h:p):Hid p:=h
theorem str_cells (s:ByteArray):Lib.strCells s=bc s.toList:=by
 unfold Lib.strCells bc;rw[ByteArray.toList_eq]
theorem app_str (w:World) (B:Nat) (v:Value) (l:List UInt8) (s:ByteArray) (h:Row w B v l) (hlen:l.length+s.size≤1000000000) (hB:B≤w.heap.size) (ty:TypeId):
  ∃v' w',(Builtin.append_ #[36,9] ty #[v,.string s]).run Tryz.prog w=.ok v' w'∧Row w' B v' (l++s.toList)∧Grew w w' v v'∧(v=.slice none 0 0→s.size=0→v'=.slice none 0 0):=by
 obtain⟨i0,hi,hz0,hz1,hz2⟩:=info_parts info5
 have h63:l.length+s.size≤maxLen:=by unfold maxLen;omega
 obtain⟨v',w',hr,h2,h3,h4⟩:=Lib.run_append_own_string (P:=Tryz.prog) w B 36 9 ty 5 i0 Tryz.underlying36 Tryz.underlying9 hi hz0 hz1 hz2 v l.length (bc l) h s h63 (by omega) hB
 refine⟨v',w',hr, ?_,⟨h3, ?_⟩,fun e1 e2=>h4.2 ⟨e1,e2⟩⟩
 ·unfold Row
  rw[List.length_append,bc_append,Om.len_eq,←str_cells];exact h2
 ·rcases h.2 with⟨rfl,h0⟩ | ⟨g,cap,cur,rfl,hbg,hg,hnc,hcm,hcs,htake⟩
  ·obtain⟨v2,w2,hr2,h22,_⟩:=Lib.run_append_own_string (P:=Tryz.prog) w w.heap.size 36 9 ty 5 i0 Tryz.underlying36 Tryz.underlying9 hi hz0 hz1 hz2 (.slice none 0 0) l.length (bc l) (by
    have:l=[]:=List.eq_nil_of_length_eq_zero h0
    subst this;exact World.ownsRow_nil _ _ _ _) s h63 (by omega) (Nat.le_refl _)
   rw[hr] at hr2
   injection hr2 with e1 e2
   subst e1 e2
   exact Or.inr fun k hk=>own_ge h22 k hk
  ·by_cases hroom:l.length+s.size≤cap
   ·have hcs':cur.size=cap:=by simpa using hcs
    have hr2:=Lib.run_append_room_string (P:=Tryz.prog) w 36 9 ty 5 i0 Tryz.underlying36 Tryz.underlying9 hi hz1 g l.length cap cur hg s hroom (by omega)
    rw[hr] at hr2
    injection hr2 with e1 e2
    subst e1
    exact Or.inl rfl
   ·have holds:∀j u,(bc l)[j]? =some u→w.cell? ((⟨g,0,none⟩:Addr).add j)=some u:=World.ownsRow.cells h (g:=g) rfl
    have hr2:=Lib.run_append_grow_string (P:=Tryz.prog) w 36 9 ty 5 i0 (.int .u8 0) Tryz.underlying36 Tryz.underlying9 hi hz0 ⟨g,0,none⟩ l.length cap (bc l) (by rw[hz1,bc_length];omega) holds s (by omega) (by omega) (by rw[hz2];exact growslice_fits (by omega) (by omega))
    rw[hr] at hr2
    injection hr2 with e1 e2
    subst e1
    exact Or.inr fun k hk=>by
     have h9:w.heap.size=k:=by simpa[Value.ownBlock] using hk
     omega
theorem wpList_app_str {ops:Array Oper} {rest:List Oper} {o:Oper} {a:Act} {Q:Exit→Act→World→Prop} (w:World) (hgd:o.guard=none) (sO xO:Operand)
  (ho:o.op=.call { callee:=.builtin .append,args:=#[sO,xO],argTypes:=#[36,9] }) (v:Value) (s:ByteArray) (v':Value) (w':World) (hs:a.eval sO=v) (hx:a.eval xO=.string s)
  (hr:(Builtin.append_ #[36,9] o.type #[v,.string s]).run Tryz.prog w=.ok v' w') (h:wpList Tryz.prog ops Q rest (a.put o.dst v') w'):wpList Tryz.prog ops Q (o::rest) a w:=by
 refine wpList_plain hgd fun K hK=> ?_
 unfold Oper.wp execOp
 simp only[ho,resolve,invoke,builtin,Sem.run_bind,Sem.run_pure,Result.andThen_ok,List.map_toArray,List.map_cons,List.map_nil,hs,hx,hr]
 exact hK _ _ h
structure Bd (w:World) (B b:Nat) (l:List UInt8) (G:Nat→Prop):Prop where
 at':∃p v,w.heap[b]? =some (.cells #[p,v] 38)∧(p=.pointer none∨p=.pointer (some ⟨b,0,none⟩))∧Row w B v l∧(∀g,G g↔(g=b∨v.ownBlock=some g))∧(l=[]→v=.slice none 0 0)
 ge:B≤b
theorem Bd.new (w:World) (B:Nat) (hB:B≤w.heap.size):Bd (w.alloc (.cells #[.pointer none,.slice none 0 0] 38)) B w.heap.size [] (fun g=>g=w.heap.size):=
 ⟨⟨_,_,heap_alloc_new w _,Or.inl rfl,Row.nil _ _,(fun g=>⟨Or.inl,fun h=>by
  rcases h with h | h
  ·exact h
  ·cases h⟩),fun _=>rfl⟩,hB⟩
theorem Bd.lt {w:World} {B b:Nat} {l:List UInt8} {G:Nat→Prop} (h:Bd w B b l G):∀g,G g→g<w.heap.size:=by
 obtain⟨p,v,h1,_,h3,h4,_⟩:=h.at'
 intro g hg
 rcases(h4 g).1 hg with e | e
 ·rw[e];exact(Array.getElem?_eq_some_iff.1 h1).1
 ·exact(World.ownsRow.lt h3 g e).2
theorem Bd.stay {w w':World} {B b:Nat} {l:List UInt8} {G:Nat→Prop} (h:Bd w B b l G) (hs:Stay G w w') (hz:w.heap.size≤w'.heap.size):Bd w' B b l G:=by
 obtain⟨p,v,h1,h2,h3,h4,h5⟩:=h.at'
 refine⟨⟨p,v,(hs b ((h4 b).2 (Or.inl rfl))).trans h1,h2, ?_,h4,h5⟩,h.ge⟩
 exact Ia.own_stay h3 (fun g hg=>hs g ((h4 g).2 (Or.inr hg)))
theorem Bd.below {w w':World} {B b:Nat} {l:List UInt8} {G:Nat→Prop} (h:Bd w B b l G) (hb:Below w.heap.size w w'):Bd w' B b l G:=h.stay (fun g hg=>hb.block g (h.lt g hg)) hb.size
theorem check_any (w:World) (b:Nat) (p v:Value) (h:w.heap[b]? =some (.cells #[p,v] 38)) (hp:p=.pointer none∨p=.pointer (some ⟨b,0,none⟩)):
  Calls Tryz.prog 30 #[.pointer (some ⟨b,0,none⟩)] w fun e w'=>e=.returned (.tuple #[])∧w'.heap[b]? =some (.cells #[.pointer (some ⟨b,0,none⟩),v] 38)∧Chg (fun g=>g=b) w w'∧w'.heap.size=w.heap.size:=by
 rcases hp with rfl | rfl
 ·refine(Any.Builder_copyCheck_fresh (ρ :=Tryz.lays156_ren) { Tryz.lays156 with } Tryz.Builder_Extra_156.toX72 b w (blk_cell h rfl) (by simp only[World.shape?,h];rfl) (blk_free h)).mono ?_
  rintro e w' ⟨rfl,rfl⟩
  exact⟨rfl,Ie.set_heap h,Chg.setCell (F:=fun g=>g=b) (p:=⟨b,0,none⟩) (Chg.refl _ _) rfl _,Ie.set_size _ _ _⟩
 ·refine(Any.Builder_copyCheck_used (ρ :=Tryz.lays156_ren) { Tryz.lays156 with } Tryz.Builder_Extra_156.toX72 b w (blk_cell h rfl)).mono ?_
  rintro e w' ⟨rfl,rfl⟩
  exact⟨rfl,h,Chg.refl _ _,rfl⟩
theorem write_any (w:World) (B b:Nat) (l:List UInt8) (G:Nat→Prop) (s:ByteArray) (h:Bd w B b l G) (hlen:l.length+s.size≤1000000000) (hB:B≤w.heap.size):
  Calls Tryz.prog 13 #[.pointer (some ⟨b,0,none⟩),.string s] w fun e w'=>e=.returned (.tuple #[.int .i64 s.size,.nilIface])∧∃G',Bd w' B b (l++s.toList) G'∧Chg G w w'∧∀g,G' g→G g∨w.heap.size≤g:=by
 obtain⟨p,v,h1,h2,h3,h4,h5⟩:=h.at'
 have C:=check_any w b p v h1 h2
 have HGE:=mkH h.ge
 have H3:=mkH h3
 have H4:=mkH h4
 have HBL:=mkH (Array.getElem?_eq_some_iff.1 h1).1
 have HN:=mkH (And.intro hlen hB)
 have H5:=mkH h5
 have hss:(s.size:Int)≤1000000000:=by omega
 have HVB:Hid (v.ownBlock≠some b):=fun e=>by
  obtain⟨_,cur,hc⟩:=Ia.own_lt h3 b e
  rw[h1] at hc
  injection hc with hc
  injection hc with _ hc
  exact absurd hc (by decide)
 clear h h1 h2 h3 h4 h5 hlen hB
 go_enter Tryz.func13,Tryz.ntmps13
 go_wp2_with fail
 refine C.mono ?_
 rintro e w1 ⟨rfl,q1,q2,q3⟩
 have hR1:Row w1 B v l:=Ia.own_stay H3.out (fun g hg=>q2.block g (World.ownsRow.lt H3.out g hg).2 (fun e=>HVB.out (by rw[←e];exact hg)))
 obtain⟨v',w2,hr,hR2,hG2,hN2⟩:=app_str w1 B v l s hR1 HN.out.1 (by rw[q3];exact HN.out.2) 36
 have Q1:=mkH q1
 have Q2:=mkH q2
 have Q3:=mkH q3
 have HR2:=mkH hR2
 have HG2:=mkH hG2
 have HB2:Hid (w2.heap[b]? =some (.cells #[.pointer (some ⟨b,0,none⟩),v] 38)):=by
  unfold Hid
  rw[hG2.1.block b (Array.getElem?_eq_some_iff.1 q1).1 (fun e=>HVB.out e.symm)];exact q1
 have c1:=blk_cell q1 (i:=1) (u:=v) rfl
 have d1:=blk_cell HB2.out (i:=1) (u:=v) rfl
 have f1:=blk_free HB2.out (i:=1)
 have HN2:=mkH hN2
 clear C q1 q2 q3 hR1 hR2 hG2 hN2
 obtain⟨va,vn,vc,rfl⟩:∃a n c,v'=.slice a n c:=by obtain⟨q,c,e,_⟩:=HR2.out.slice;exact⟨_,_,_,e⟩
 go_wp2_with (at_builtin;refine wpList_app_str _ rfl _ _ rfl v s _ w2 rfl rfl hr ?_)
 go_ret2
 have hvb:∀g,Value.ownBlock (.slice va vn vc)=some g→g≠b:=fun g hg e=>by
  subst e
  obtain⟨_,cur,hc⟩:=Ia.own_lt HR2.out g hg
  rw[HB2.out] at hc
  injection hc with hc
  injection hc with _ hc
  exact absurd hc (by decide)
 refine⟨rfl,fun g=>g=b∨Value.ownBlock (.slice va vn vc)=some g,⟨⟨.pointer (some ⟨b,0,none⟩),.slice va vn vc,Ie.set_heap HB2.out,Or.inr rfl, ?_,fun g=>Iff.rfl,fun h9=> ?_⟩,HGE.out⟩, ?_,fun g hg=> ?_⟩
 ·exact Ia.own_stay HR2.out (fun g hg=>Oi.set_block _ _ _ _ (hvb g hg))
 ·obtain⟨h8,h7⟩:=List.append_eq_nil_iff.1 h9
  exact HN2.out (H5.out h8) (by rw[←Om.len_eq,h7];rfl)
 ·refine Chg.setCell (p:=⟨b,1,none⟩) (((Q2.out.mono fun g e=>(H4.out g).2 (Or.inl e))).trans (Chg.grown HG2.out.1 fun g e=>(H4.out g).2 (Or.inr e))) ((H4.out b).2 (Or.inl rfl)) _
 ·rcases hg with e | e
  ·exact Or.inl ((H4.out g).2 (Or.inl e))
  ·rcases HG2.out.2 with e2 | e2
   ·exact Or.inl ((H4.out g).2 (Or.inr (by rw[←e2];exact e)))
   ·exact Or.inr (by have h9:=e2 g e;rw[Q3.out] at h9;exact h9)
theorem chg_freeze0 (w:World) (G:Nat→Prop) (g n:Nat) (hg:G g):Chg G w (w.freeze ⟨g,0,none⟩ n):=by
 unfold World.freeze
 split
 ·exact Chg.refl _ _
 ·refine⟨rfl,rfl,rfl,by simp,fun k hk hf=> ?_⟩
  have hne:¬g=k:=fun e=>hf (e▸hg)
  simp only[Array.getElem?_modify]
  rw[if_neg hne]
theorem chg_freeze (w:World) (G:Nat→Prop) (g n:Nat) (hg:G g):Chg G w (w.drew.freeze ⟨g,0,none⟩ n):=
 (Chg.ofBelow ((Below.refl w.heap.size w).drew) G).trans (chg_freeze0 w.drew G g n hg)
theorem string_none (w:World) (B b:Nat) (G:Nat→Prop) (h:Bd w B b [] G):Calls Tryz.prog 15 #[.pointer (some ⟨b,0,none⟩)] w fun e w'=>e=.returned (.string ⟨#[]⟩)∧Chg G w w':=by
 obtain⟨p,v,h1,_,_,_,h5⟩:=h.at'
 rw[h5 rfl] at h1
 refine(Any.Builder_String_nil (ρ :=Tryz.lays156_ren) { Tryz.lays156 with } Tryz.Builder_Extra_156 w.heap.size b p w h1).mono ?_
 rintro e w' ⟨rfl,hb⟩
 exact⟨rfl,Chg.ofBelow hb _⟩
theorem string_some (w:World) (B b:Nat) (l:List UInt8) (G:Nat→Prop) (h:Bd w B b l G) (h0:l≠[]) (hlen:l.length≤1000000000):Calls Tryz.prog 15 #[.pointer (some ⟨b,0,none⟩)] w fun e w'=>e=.returned (.string ⟨l.toArray⟩)∧Chg G w w':=by
 obtain⟨p,v,h1,_,h3,h4,_⟩:=h.at'
 have hl0:l.length≠0:=fun e=>h0 (List.eq_nil_of_length_eq_zero e)
 obtain⟨g,cap,cur,rfl,hbg,hg,hnc,hcm,hcs,htake⟩:∃g cap cur,v=.slice (some ⟨g,0,none⟩) l.length cap∧B≤g∧w.heap[g]? =some (.cells cur 5 (0,0))∧l.length≤cap∧cap≤maxLen∧cur.size=cap*1∧cur.toList.take (l.length*1)=bc l:=by
  rcases h3.2 with⟨_,hz⟩ | ⟨g,cap,cur,hv,r⟩
  ·exact absurd hz hl0
  ·exact⟨g,cap,cur,hv,r⟩
 have HGG:Hid (G g):=(h4 g).2 (Or.inr rfl)
 have c1:w.drew.cell? ⟨b,1,none⟩=some (.slice (some ⟨g,0,none⟩) l.length cap):=blk_cell (w:=w.drew) h1 rfl
 have hSD:(Builtin.unsafeSliceData_ #[36] 91 #[.slice (some ⟨g,0,none⟩) l.length cap]).run Tryz.prog w.drew=.ok (.pointer (some ⟨g,0,none⟩)) w.drew:=
  Lib.run_unsafeSliceData_row _ _ _ _ _ _ (by omega)
 have hUS:(Builtin.unsafeString_ #[91,3] 9 #[.pointer (some ⟨g,0,none⟩),.int .i64 l.length]).run Tryz.prog w.drew=.ok (.string ⟨l.toArray⟩) (w.drew.freeze ⟨g,0,none⟩ l.length):=by
  refine Lib.run_unsafeString_row w.drew 91 3 9 5 Tryz.underlying91 Tryz.Builder_Extra_156.cellsByte g cur.size (by have hg':w.drew.heap[g]? =some (.cells cur 5 (0,0)):=hg;simp[World.shape?,hg']) l h0 (by omega) (by unfold maxLen at hcm;omega) ?_
  intro j x hx
  have:=World.ownsRow.cells h3 (g:=g) rfl j (.int .u8 x.toNat) (by simp[bc,hx])
  exact this
 clear h h1 h3 h4 hbg hg hnc hcm hcs htake
 go_enter Tryz.func15,Tryz.ntmps15
 go_wp2
 go_region
 all_goals (go_wp2;go_ret;exact⟨rfl,chg_freeze w G g _ HGG.out⟩)
theorem string_any (w:World) (B b:Nat) (l:List UInt8) (G:Nat→Prop) (h:Bd w B b l G) (hlen:l.length≤1000000000):Calls Tryz.prog 15 #[.pointer (some ⟨b,0,none⟩)] w fun e w'=>e=.returned (.string ⟨l.toArray⟩)∧Chg G w w':=by
 by_cases h0:l=[]
 ·subst h0;exact string_none w B b G h
 ·exact string_some w B b l G h h0 hlen
theorem range_own {F:Fence} {n:Nat} {P:Program} {g:Operand} {ps:Array Tmp} {assign body:Code} {Q:Exit→Act→World→Prop} {a:Act} {w:World}
  (hro:F.round=none) (h1:1≤n) {gf:Nat} {lb:Array Value} (hg:a.eval g=.func (.func gf) #[] lb) (hFg:F.fn gf) (eg:∀args w,(callFunc gf args).run P w=.ok (.enter gf args) w)
  (hps:ps.size=1) (xs:List ByteArray) (J:List ByteArray→World→Prop) (hJb:∀pre W W',J pre W→Below W.heap.size W W'→J pre W') (hJl:∀pre W o,J pre W→J pre (W.putObj (w.heap.size+1) o))
  (hseq:∀(l:Nat) (K:List ByteArray→World→Prop) (W:World),Below w.heap.size w W→(∀pre W1 W2,K pre W1→Below W1.heap.size W1 W2→K pre W2)→(∀pre W1,K pre W1→J pre W1)→
   (∀pre x W1,K pre W1→pre++[x] <+:xs→YieldAt F (n-1-1) P l #[.string x] W1 fun e W'=>e=.returned (.bool true)∧K (pre++[x]) W')→K [] W→
   CallsIn F (n-1) P gf (#[.func (.yield l) #[] #[]]++lb) W fun e W'=>(∃v,e=.returned v)∧K xs W')
  (h0:J [] w) (a₁:ByteArray→Act)
  (hassign:∀(l:Nat) (x:ByteArray) (W:World) (K:Act→World→Prop),K (a₁ x) W→assign.wpIn (F.inRound l) (n-1-1) P (Exit.then K (fun _ _ _=>False)) { tmps:=(ps.zip #[Value.string x]).foldl (fun t (p,v)=>t.setIfInBounds p v) a.tmps,defers:=[] } W)
  (hbody:∀(pre:List ByteArray) (x:ByteArray) (W:World),J pre W→pre++[x] <+:xs→w.heap.size+1<W.heap.size→body.wpIn (F.inRound (w.heap.size+1)) (n-1-1) P
   (fun e _ W'=>e=.normal∧W'.heap[w.heap.size]? =W.heap[w.heap.size]? ∧W'.heap[w.heap.size+1]? =W.heap[w.heap.size+1]? ∧J (pre++[x]) W') (a₁ x) W)
  (hdone:∀(W:World),J xs W→W.heap[w.heap.size]? =some (.deferred (some []))→Q .normal { a with defers:={ target:=.collected w.heap.size,args:=#[] }::a.defers } W):
  (Code.rangeFunc g ps assign body).wpIn F n P Q a w:=by
 refine wpIn_rangeFunc ?_
 intro fn hfn
 rw[hro]
 obtain⟨lp,hlp⟩:∃lp:LoopState→Loop,lp=fun st=>{ state:=st,pending:=none,fn,tmps:=a.tmps,params:=ps,assign,body,defers:=w.heap.size }:=⟨_,rfl⟩
 obtain⟨W1,hW1⟩:∃W1,(w.alloc (.deferred (some []))).alloc (.loop (lp .ready))=W1:=⟨_,rfl⟩
 have hb1:Below w.heap.size w W1:=by
  rw[←hW1];exact((Below.refl _ w).alloc (Nat.le_refl _) _).alloc (by simp) _
 have hL1:W1.heap[w.heap.size+1]? =some (.loop (lp .ready)):=by
  rw[←hW1]
  have h9:=heap_alloc_new (w.alloc (.deferred (some []))) (.loop (lp .ready))
  rwa [World.size_alloc] at h9
 have hK1:W1.heap[w.heap.size]? =some (.deferred (some [])):=by
  rw[←hW1];exact(heap_alloc_old _ _ (by simp)).trans (heap_alloc_new w _)
 have hJ1:J [] W1:=hJb _ _ _ h0 hb1
 refine⟨w.heap.size+1,[{ target:=.collected w.heap.size,args:=#[] }],W1,{ target:=.fn (.func gf) lb,args:=#[.func (.yield (w.heap.size+1)) #[] #[]] },W1,gf,
  #[.func (.yield (w.heap.size+1)) #[] #[]]++lb,W1, ?_, ?_, ?_, ?_,fun _=>h1, ?_⟩
 ·rw[←hW1,hlp];exact run_enterLoop_outer _ _ _ _ _
 ·simp only[resolve,hg]
  simp[go_sem]
 ·intro f' hf';simp[Target.leads] at hf';subst hf';exact hFg
 ·simp[invoke,go_sem,eg]
 ·refine(hseq (w.heap.size+1) (fun pre W=>J pre W∧W.heap[w.heap.size+1]? =some (.loop (lp .ready))∧W.heap[w.heap.size]? =some (.deferred (some []))) W1 hb1 ?_ (fun _ _ h=>h.1) ?_ ⟨hJ1,hL1,hK1⟩).mono ?_
  ·rintro pre Wa Wb ⟨hi,hl,hk⟩ hb
   exact⟨hJb _ _ _ hi hb,(hb.block _ (Array.getElem?_eq_some_iff.1 hl).1).trans hl,(hb.block _ (Array.getElem?_eq_some_iff.1 hk).1).trans hk⟩
  ·rintro pre x W ⟨hi,hl,hk⟩ hpx
   have hlt:w.heap.size+1<W.heap.size:=(Array.getElem?_eq_some_iff.1 hl).1
   have hy:=run_yield (P:=P) (args:=#[Value.string x]) hl (by rw[hlp];exact hps.symm)
   rw[hlp] at hy
   refine⟨fn,_,assign,body,hy,roundIn_of_wpIn hfn (hassign _ x W _ ?_)⟩
   clear hy
   refine⟨_,run_beginRound hl (by rw[hlp]), ?_⟩
   have hl2:(W.putObj (w.heap.size+1) (.loop { lp .ready with state:=.busy })).heap[w.heap.size+1]? =some (.loop { lp .ready with state:=.busy }):=World.putObj_heap_same hlt
   have hk2:(W.putObj (w.heap.size+1) (.loop { lp .ready with state:=.busy })).heap[w.heap.size]? =some (.deferred (some [])):=(World.putObj_heap_other (by omega)).trans hk
   refine wpIn_mono (hbody pre x _ (hJl _ _ _ hi) hpx (Array.getElem?_eq_some_iff.1 hl2).1) ?_
   rintro e a3 W3 ⟨rfl,q1,q2,q3⟩
   have hl3:W3.heap[w.heap.size+1]? =some (.loop { lp .ready with state:=.busy }):=q2.trans hl2
   have hr:(Instr.endRound (w.heap.size+1) none).run P W3=.ok (.bool true) (W3.putObj (w.heap.size+1) (.loop (lp .ready))):=by
    have h9:=run_endRound (P:=P) none hl3
    rw[hlp] at h9 ⊢
    exact h9
   exact⟨_,_,hr,rfl,hJl _ _ _ q3,World.putObj_heap_same (Array.getElem?_eq_some_iff.1 hl3).1,(World.putObj_heap_other (by omega)).trans (q1.trans hk2)⟩
  ·rintro e W2 ⟨⟨v,rfl⟩,hi,hl,hk⟩
   exact⟨none,_,by have:=run_endLoop (P:=P) hl (by rw[hlp];simp);rw[hlp] at this;exact this,hdone _ (hJl _ _ _ hi) ((World.putObj_heap_other (by omega)).trans hk)⟩
end Rx8
end Go.Proofs.YtiamefgoeibhhaaGreatDoor
