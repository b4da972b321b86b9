import Derived.Test.YtiamefgoeibhhaaGreatDoorS0
import Derived.OwnWalk
import Derived.Deep.QuietTactic
import Derived.Laws.OwnMore
import Derived.BigQuiet
set_option linter.unusedVariables false
set_option maxRecDepth 100000
set_option maxHeartbeats 8000000
namespace Go.Proofs.YtiamefgoeibhhaaGreatDoor
namespace Se
open Go.ChangeShapes Go.WideShapes Go.ChangeAt Go.RowKit Cm Ka Kb Na Sm Sb Sd
open La (bel bel_drew errV_zero errV_ne own_ge own_grow own_below LeafsIn Lies)
open Bm (Leaf ahd bookE text)
open Nr (StsAt noS)
theorem wpList_make_lc {P:Program} (w:World) {ops:Array Oper} {rest:List Oper} {o:Oper} {a:Act} {Q:Exit→Act→World→Prop}
  (hg:o.guard=none) (l c:Operand) (t:TypeId) (hop:o.op=Op.makeSlice t l c)
  (base:Nat) (e:TypeId) (i:TypeInfo) (z:Value) (size:Nat) (h1:P.underlying t=some (.slice e)) (h2:P.info? e=some i) (h3:i.zero=some z) (h4:i.size=size)
  (kl kc:IntKind) (L C:Int) (k n:Nat) (hl:a.eval l=.int kl L) (hc:a.eval c=.int kc C) (hL:L=(k:Int)) (hC:C=(n:Int)) (hkn:k≤n) (b2:i.bytes*n≤281474976710656) (b3:n≤maxLen) (b4:base≤w.heap.size)
  (hK:∀w',w'.ownsRow base e size (.slice (some ⟨w.heap.size,0,none⟩) k n) k ((madeCells z.cells (n*size)).toList.take (k*size))→w.grownBy w' none→wpList P ops Q rest (a.put o.dst (.slice (some ⟨w.heap.size,0,none⟩) k n)) w'):
  wpList P ops Q (o::rest) a w:=by
 subst hL hC h4
 refine wpList_plain hg fun K hK'=> ?_
 have b3':(n:Int)≤9223372036854775807:=by simp[maxLen] at b3;omega
 have b2':(i.bytes:Int)*(n:Int)≤281474976710656:=by
  have h:((i.bytes*n:Nat):Int)≤281474976710656:=by omega
  rwa [Int.natCast_mul] at h
 have hr:=run_make (P:=P) w t e i z h1 h2 h3 kl kc k n (by omega) (by omega) b2' b3'
 simp only[Int.toNat_natCast] at hr
 unfold Oper.wp
 simp[execOp,hop,hl,hc,hr,Result.andThen]
 refine hK' _ _ (hK _ ⟨?_,Or.inr ⟨w.heap.size,n,_,rfl,b4,heap_alloc_new w _,hkn,b3,size_madeCells _ _,rfl⟩⟩ (World.grownBy_alloc w _ none))
 rw[List.length_take,Array.length_toList,size_madeCells]
 exact Nat.min_eq_left (Nat.mul_le_mul_right _ hkn)
theorem made_three (n:Nat) (hn:1≤n) (l:List Leaf):(madeCells (Value.agg #[.string ⟨#[]⟩,.int .i64 0,.int .i64 0]).cells (n*3)).toList.take (1*3)=flat (bare l [ByteArray.empty]):=by
 have e:bare l [ByteArray.empty]=[(ByteArray.empty,((0:Int),(0:Int)))]:=by
  show[(ByteArray.empty,((cutF l ByteArray.empty:Int),(0:Int)))]=_
  rw[cutF_nil];rfl
 have h3:min (1*3) (n*3)=3:=by omega
 rw[e]
 unfold madeCells
 rw[Array.toList_map,←List.map_take,Array.toList_range,List.take_range,h3]
 rfl
def T3 (w:World) (g:Nat) (l:List Leaf) (H:List ByteArray) (i:Nat):Prop:=∃cur:Array Value,w.heap[g]? =some (.cells cur 72 (0,0))∧∀j,j<H.length→cur[j*3]? =some (.string (H.getD j ByteArray.empty))∧cur[j*3+1]? =some (.int .i64 (beg l H j))∧cur[j*3+2]? =some (.int .i64 (if i≤j then(beg l H (j+1):Int)-beg l H j else 0))
theorem set_heap3 {w:World} {g i:Nat} {v:Value} {cs:Array Value} {t:TypeId} {f:Nat × Nat} (h:w.heap[g]? =some (.cells cs t f)):(w.setCell ⟨g,i,none⟩ v).heap[g]? =some (.cells (cs.setIfInBounds i v) t f):=by
 simp[World.setCell,Array.getElem?_modify,h]
theorem free3 {w:World} {D:Nat} {cs:Array Value} {t:TypeId} (h:w.heap[D]? =some (.cells cs t)) {i:Nat}:w.frozen? ⟨D,i,none⟩=false:=by
 simp[World.frozen?,h]
theorem T3.put {w:World} {g:Nat} {l:List Leaf} {H:List ByteArray} {i:Nat} (h:T3 w g l H (i+1)) (hi:i<H.length):T3 (w.setCell ⟨g,i*3+2,none⟩ (.int .i64 ((beg l H (i+1):Int)-beg l H i))) g l H i:=by
 obtain⟨cur,h1,h2⟩:=h
 refine⟨_,set_heap3 h1,fun j hj=> ?_⟩
 obtain⟨a1,a2,a3⟩:=h2 j hj
 have hlt:i*3+2<cur.size:=(Array.getElem?_eq_some_iff.1 (h2 i hi).2.2).1
 refine⟨by rw[Array.getElem?_setIfInBounds_ne (by omega)];exact a1,by rw[Array.getElem?_setIfInBounds_ne (by omega)];exact a2, ?_⟩
 by_cases e:j=i
 ·subst e
  rw[Array.getElem?_setIfInBounds_self_of_lt hlt,if_pos (by omega)]
 ·rw[Array.getElem?_setIfInBounds_ne (by omega),a3]
  by_cases h9:i+1≤j
  ·rw[if_pos h9,if_pos (by omega)]
  ·rw[if_neg h9,if_neg (by omega)]
theorem T3.start {w:World} {B:Nat} {l:List Leaf} {H:List ByteArray} {v:Value} (hH:0<H.length) (h:w.ownsRow B 72 3 v (bare l H).length (flat (bare l H))):∃g c,v=.slice (some ⟨g,0,none⟩) H.length c∧B≤g∧H.length≤c∧c≤maxLen∧T3 w g l H H.length:=by
 have hl:(bare l H).length=H.length:=by unfold bare;rw[List.length_map]
 rcases h.2 with⟨e,e0⟩ | ⟨g,cap,cur,h1,h2,h3,h4,h5,h6,h7⟩
 ·omega
 ·refine⟨g,cap,by rw[h1,hl],h2,by omega,h5,cur,h3,fun j hj=> ?_⟩
  have hget:(bare l H).getD j none1=(H.getD j ByteArray.empty,((cutF l (H.getD j ByteArray.empty):Int),(0:Int))):=by
   unfold bare;rw[List.getD_eq_getElem?_getD,List.getElem?_map,List.getElem?_eq_getElem hj,List.getD_eq_getElem?_getD,List.getElem?_eq_getElem hj];rfl
  obtain⟨f1,f2,f3⟩:=flat_at (l:=bare l H) (j:=j) (by omega)
  rw[hget] at f1 f2 f3
  have key:∀(i:Nat) (u:Value),(flat (bare l H))[i]? =some u→cur[i]? =some u:=fun i u hu=>by
   have h8:=hu
   rw[←h7] at h8
   have h9:=(List.getElem?_eq_some_iff.1 h8).1
   rw[List.length_take] at h9
   rw[List.getElem?_take_of_lt (by omega)] at h8
   have h9:=h8
   simpa using h9
  refine⟨key _ _ f1, ?_, ?_⟩
  ·rw[key _ _ f2];unfold beg;rw[if_pos hj]
  ·rw[key _ _ f3,if_neg (by omega)]
theorem T3.done {w:World} {g c:Nat} {l:List Leaf} {m:List Mk} (h:T3 w g l (heads m) 0) (hc:(heads m).length≤c) (hm:c≤maxLen):MksAt w (.slice (some ⟨g,0,none⟩) (heads m).length c) (stretches l m):=by
 obtain⟨cur,h1,h2⟩:=h
 refine⟨some ⟨g,0,none⟩,c,by rw[stretches_len],Or.inr ⟨g,0,rfl,fun j hj=> ?_⟩,by rw[stretches_len];exact hc,hm,fun e=>by cases e⟩
 rw[stretches_len] at hj
 have e:(stretches l m).getD j none1=stOf l (heads m) j:=by rw[List.getD_eq_getElem?_getD,stretches_at hj];rfl
 rw[e]
 obtain⟨a1,a2,a3⟩:=h2 j hj
 rw[if_pos (Nat.zero_le _)] at a3
 unfold MAt
 rw[Nat.zero_add]
 exact⟨cell_of h1 a1,cell_of h1 a2,cell_of h1 a3⟩
theorem wrap_in3 {x:Int} (h1: -1000000≤x) (h2:x≤1000000):IntKind.i64.wrap x=x:=by
 rw[IntKind.wrap_i64];omega
theorem measure_any (W0 w : World) (B g n c : Nat) (l : List Leaf) (H : List ByteArray) (hn : H.length = n) (hn4 : n ≤ 1000) (hl : l.length ≤ 300) (hT : T3 w g l H n) (hB : B ≤ g) (hb : Below B W0 w) :
  Calls Tryz.prog 155 #[.slice (some ⟨g, 0, none⟩) n c, .int .i64 (text l).length] w fun e w' => e = .returned (.tuple #[]) ∧ T3 w' g l H 0 ∧ Below B W0 w' := by
 have HT0 := z9 hT
 have HB0 := z9 hb
 have HN := z9 hn
 have HGB := z9 hB
 have HBL : Hid (∀ i, beg l H i ≤ 300) := fun i => by have h8 := beg_le l H i; have h9 := Bm.text_len_le l; omega
 have HEND : Hid (beg l H n = (text l).length) := beg_end l H (by omega)
 obtain ⟨e0, he0⟩ : ∃ e0, e0 = (text l).length := ⟨_, rfl⟩
 have HE0 : Hid (e0 = beg l H n) := by unfold Hid; rw [HEND.out]; exact he0
 rw [← he0]
 clear hT hb hn hB hl HEND he0
 go_enter Tryz.func155, Tryz.ntmps155
 go_wp2_with fail
 go_loopw [1, 4] (fun ve vi wr => ∃ (k e : Nat), k ≤ n ∧ vi = .int .i64 ((k : Int) - 1) ∧ ve = .int .i64 (e : Int) ∧ Hid (e = beg l H k) ∧ Hid (T3 wr g l H k) ∧ Hid (Below B W0 wr)) (fun _ vi _ => (intOf vi + 1).toNat)
 case atStart => exact ⟨n, e0, by omega, rfl, rfl, HE0, HT0, HB0⟩
 case round =>
  clear HT0 HB0 HE0
  obtain ⟨k, e, hk, rfl, rfl, HE, HT, HB⟩ := hrel
  by_cases hk0 : k = 0
  ·subst hk0
   go_wp2_with fail
   go_end0
   exact ⟨rfl, HT.out, HB.out⟩
  ·obtain ⟨j, rfl⟩ : ∃ j, k = j + 1 := ⟨k - 1, by omega⟩
   have hjn : j < n := by omega
   have hjh : j < H.length := by rw [HN.out]; exact hjn
   have hjz : (j : Int) < n := by omega
   obtain ⟨cur, hcur, hcs⟩ := HT.out
   obtain ⟨t1, t2, t3⟩ := hcs j hjh
   obtain ⟨b0, hb0⟩ : ∃ b0, b0 = beg l H j := ⟨_, rfl⟩
   have hb3 : b0 ≤ 300 := by rw [hb0]; exact HBL.out j
   have he3 : e ≤ 300 := by rw [HE.out]; exact HBL.out _
   rw [← hb0] at t2
   have z1 := cell_of hcur t2
   have z2 := cell_of hcur t3
   have z3 : wr.frozen? ⟨g, j * 3 + 2, none⟩ = false := free3 hcur
   have HPUT : Hid (T3 (wr.setCell ⟨g, j * 3 + 2, none⟩ (.int .i64 ((e : Int) - b0))) g l H j) := by rw [HE.out, hb0]; exact HT.out.put hjh
   have HB2 : Hid (Below B W0 (wr.setCell ⟨g, j * 3 + 2, none⟩ (.int .i64 ((e : Int) - b0)))) := HB.out.setCell (p := ⟨g, j * 3 + 2, none⟩) HGB.out _
   have HB0 := z9 hb0
   have hw1 : IntKind.i64.wrap ((e : Int) - b0) = (e : Int) - b0 := wrap_in3 (by omega) (by omega)
   have hj1 : ((j + 1 : Nat) : Int) - 1 = (j : Int) := by omega
   rw [hj1]
   clear hcs hcur t1 t2 t3 hb0 HT HB
   go_wp2_with fail
   go_roundw
   case rel => exact ⟨j, b0, by omega, rfl, rfl, HB0, HPUT, HB2⟩
   case measure => simp [intOf]
theorem wpList_put3 {ops:Array Oper} {rest:List Oper} {o:Oper} {a:Act} {w:World} {Q:Exit→Act→World→Prop} (hgd:o.guard=none) (sO xO:Operand)
  (ho:o.op=.call { callee:=.builtin .append,args:=#[sO,xO],argTypes:=#[69,69] })
  (B:Nat) (v:Value) (L:List Mk) (x:Mk) (hs:a.eval sO=v) (h0:Nat) (hx:a.eval xO=.slice (some ⟨h0,0,none⟩) 1 1)
  (hlen:L.length+1≤1048576) (hB:B≤w.heap.size) (hown:w.ownsRow B 72 3 v L.length (flat L)) (hc0:w.heap[h0]? =some (.cells #[.string x.1,.int .i64 x.2.1,.int .i64 x.2.2] 72))
  (h:∀v' w',w'.ownsRow B 72 3 v' (L++[x]).length (flat (L++[x]))→w.grownBy w' v.ownBlock→wpList Tryz.prog ops Q rest (a.put o.dst v') w'):
  wpList Tryz.prog ops Q (o::rest) a w:=by
 obtain⟨i0,hi,hz0,hz1,hz2⟩:=info_parts infoSt
 have e3:flat [x]=[.string x.1,.int .i64 x.2.1,.int .i64 x.2.2]:=rfl
 refine wpList_append_own_at w hgd sO xO 69 ho B 72 i0 (.agg #[.string ⟨#[]⟩,.int .i64 0,.int .i64 0]) 3 32 Tryz.underlying69 hi hz0 hz1 hz2 rfl (by decide) v L.length (flat L) hs hown ⟨h0,0,none⟩ 1 1 (flat [x]) hx rfl (by
  intro j u hu
  rw[Addr.add_lit,Nat.zero_add]
  rw[e3] at hu
  exact cell_of hc0 (by simpa using hu)) (by
  intro u hu
  rw[e3] at hu
  simp only[List.mem_cons,List.not_mem_nil,or_false] at hu
  rcases hu with rfl | rfl | rfl<;>rfl) (by unfold maxLen;omega) (by omega) hB ?_
 intro v' w' h2 h3 _ _
 refine h v' w' ?_ h3
 rw[flat_append,List.length_append]
 exact h2
theorem own_sh3 {w:World} {base:Nat} {t:TypeId} {z:Nat} {v:Value} {n:Nat} {xs:List Value} (h:w.ownsRow base t z v n xs):∃p N c,v=.slice p N c:=by
 rcases h.2 with⟨e,e0⟩ | ⟨g,cap,cur,h1,_⟩
 ·exact⟨none,0,0,e⟩
 ·exact⟨_,_,_,h1⟩
theorem bare_snoc3 (l:List Leaf) (H:List ByteArray) (p:ByteArray):bare l (H++[p])=bare l H++[(p,((cutF l p:Int),(0:Int)))]:=by unfold bare;rw[List.map_append];rfl
theorem heads_to (P:List ByteArray) (k:Nat) (hk:k<P.length):ByteArray.empty::P.take (k+1)=(ByteArray.empty::P.take k)++[P.getD k noS]:=by
 rw[List.take_add_one,List.getD_eq_getElem?_getD,List.getElem?_eq_getElem hk];rfl
theorem offR_cut {l:List Leaf} {p:ByteArray} (h1:bookE l=0) (h2:Pm.chk p.toList=0):Lf.offR l p=(cutF l p:Int):=by
 unfold Lf.offR
 rw[if_pos (Bm.withE_zero.2 ⟨h1,h2⟩)];rfl
theorem getD_in {P:List ByteArray} {k:Nat} (hk:k<P.length):P.getD k noS ∈ P:=by
 rw[List.getD_eq_getElem?_getD,List.getElem?_eq_getElem hk];exact List.getElem_mem hk
theorem chk_len {p:ByteArray} (h:Pm.chk p.toList=0):p.size≤maxLen:=by
 have:=(Bm.chk_pos h)
 have h9:=Kb.len_eq p
 unfold maxLen;omega
theorem cut_ok (q:Option Addr) (n c:Nat) (l:List Leaf) (u:Value) (m:List Mk) (w:World) (hl:l.length=n) (h:LeafsIn w q l) (hs:∀x ∈ l,x.1.size≤maxLen) (hn:n≤c) (hcm:c≤maxLen) (hA:MksAt w u m) (hsm:∀x ∈ m,x.1.size≤maxLen) (hb:bookE l=0) (hm:marksE m=0):
  Calls Tryz.prog 113 #[.slice q n c,u] w fun e w'=>∃g cd,e=.returned (.tuple #[.string ⟨(text l).toArray⟩,.slice (some ⟨g,0,none⟩) (heads m).length cd,.nilIface])∧w.heap.size≤g∧MksAt w' (.slice (some ⟨g,0,none⟩) (heads m).length cd) (stretches l m)∧Below w.heap.size w w':=by
 obtain⟨pu,nu,cu,hu⟩:∃p n c,u=.slice p n c:=by obtain⟨p,c,e,_⟩:=hA;exact⟨_,_,_,e⟩
 have C1:=Lf.text_any q n c l w hl h hs (Nat.le_trans hn hcm)
 rw[hb,errV_zero,show Lf.textR l=⟨(text l).toArray⟩ by unfold Lf.textR;rw[if_pos hb]] at C1
 have HC2:Hid (∀w2,Below w.heap.size w w2→Calls Tryz.prog 153 #[.slice pu nu cu] w2 fun e w'=>∃v',e=.returned (.tuple #[v',.nilIface])∧StsAt w' v' (placesL m)∧Below w2.heap.size w2 w'):=by
  intro w2 hb2
  have h9:=Ns.places_any u m w2 (hA.below hb2) hsm
  rw[hm,errV_zero,placesOf_eq hm,hu] at h9
  exact h9
 have HC3:Hid (∀w2 p,p ∈ placesL m→Below w.heap.size w w2→Calls Tryz.prog 154 #[.slice q n c,.string p] w2 fun e w'=>e=.returned (.tuple #[.int .i64 (cutF l p:Int),.nilIface])∧Below w2.heap.size w2 w'):=by
  intro w2 p hp hb2
  have hck:=places_chk hm hp
  have h9:=Lf.offset_any q n c l p w2 hl (h.below hb2) hs hn hcm (chk_len hck)
  rw[offR_cut hb hck,Bm.withE_zero.2 ⟨hb,hck⟩,errV_zero] at h9
  exact h9
 have hl3:l.length≤300:=(Bm.bookE_zero.1 hb).1
 have hh4:=heads_len hm
 have HP:Hid (heads m=ByteArray.empty::placesL m):=rfl
 have HPL:Hid ((heads m).length=(placesL m).length+1):=by simp[Hid,heads]
 obtain⟨T,hT⟩:∃T:ByteArray,T=⟨(text l).toArray⟩:=⟨_,rfl⟩
 have hTs:T.size=(text l).length:=by rw[hT];rfl
 have HTS:=z9 hTs
 have hT3:T.size≤300:=by rw[hTs];have:=Bm.text_len_le l;omega
 rw[hu]
 rw[←hT] at C1 ⊢
 obtain⟨i0,hi,hz0,hz1,hz2⟩:=info_parts infoSt
 have HL3:=z9 hl3
 have HH4:=z9 hh4
 have HHP:=z9 (heads_pos m)
 have HDONE:Hid (∀W g cd,T3 W g l (heads m) 0→(heads m).length≤cd→cd≤maxLen→MksAt W (.slice (some ⟨g,0,none⟩) (heads m).length cd) (stretches l m)):=fun W g cd h1 h2 h3=>T3.done h1 h2 h3
 obtain⟨P,hP⟩:∃P,P=placesL m:=⟨_,rfl⟩
 obtain⟨H,hH⟩:∃H,H=heads m:=⟨_,rfl⟩
 rw[←hH,←hP] at HP HPL
 rw[←hH] at HH4 HDONE HHP ⊢
 rw[←hP] at HC2 HC3
 obtain⟨S,hS⟩:∃S,S=stretches l m:=⟨_,rfl⟩
 rw[←hS] at HDONE ⊢
 clear hl h hs hn hcm hA hsm hb hm hu hT hTs hl3 hh4 hP hH hS
 go_enter Tryz.func113,Tryz.ntmps113
 go_wp2_with fail
 refine C1.mono ?_
 rintro e w1 ⟨rfl,hb1⟩
 have HB1:=z9 hb1
 have C2:=HC2.out w1 hb1
 clear hb1 C1 HC2
 go_wp2_with fail
 refine C2.mono ?_
 rintro e w2 ⟨v2,rfl,hs2,hb2⟩
 have HB2:=z9 (bel HB1.out hb2)
 have HS2:=z9 hs2
 obtain⟨pv,cv,rfl,hcv⟩:=hs2
 obtain⟨np,hnp⟩:∃np,np=P.length:=⟨_,rfl⟩
 have HNP:=z9 hnp.symm
 rw[←hnp] at HPL HS2 ⊢
 have hnp4:np≤40:=by have h1:=HPL.out;have h2:=HH4.out;omega
 have HCV:=z9 hcv
 have hby:i0.bytes*(np+1)≤281474976710656:=by rw[hz2];omega
 have hml:np+1≤maxLen:=by unfold maxLen;omega
 clear hb2 C2 hcv hnp HB1 HS2
 go_wp2_with (at_make;refine wpList_make_lc _ rfl (.const (.int .i64 1)) (.tmp 33) 69 rfl w2.heap.size 72 i0 (.agg #[.string ⟨#[]⟩,.int .i64 0,.int .i64 0]) 3 Tryz.underlying69 hi hz0 hz1 .i64 .i64 1 ((np:Int)+1) 1 (np+1) rfl rfl rfl (by omega) (by omega) hby hml (Nat.le_refl _) ?_;intro w3 hown hgrow;have HO3:Hid (w3.ownsRow w2.heap.size 72 3 (.slice (some ⟨w2.heap.size,0,none⟩) 1 (np+1)) (bare l (ByteArray.empty::P.take 0)).length (flat (bare l (ByteArray.empty::P.take 0)))):=(by have h9:=hown;rw[made_three (np+1) (by omega) l] at h9;exact h9);have HB3:Hid (Below w2.heap.size w2 w3):=(Below.refl _ w2).grown hgrow (Nat.le_refl _) (fun k hk=>by cases hk);clear hown hgrow)
 clear hi hz0 hz1 hz2 hby hml
 go_loopw [10,37] (fun vd vi wr=>∃(k:Nat),k≤np∧vi=.int .i64 k∧(∃p N c,vd=.slice p N c)∧Hid (wr.ownsRow w2.heap.size 72 3 vd (bare l (ByteArray.empty::P.take k)).length (flat (bare l (ByteArray.empty::P.take k))))∧Hid (Below w2.heap.size w2 wr)) (fun _ vi _=>np-(intOf vi).toNat)
 case atStart=>exact⟨0,by omega,rfl,⟨_,_,_,rfl⟩,HO3,HB3⟩
 case round=>
  clear HO3 HB3
  obtain⟨k,hk,rfl,⟨pd,nd,cd,rfl⟩,HO,HBk⟩:=hrel
  by_cases hlt:k<np
  ·have hltz:(k:Int)<np:=by omega
   have hkl:k<P.length:=by rw[HNP.out];exact hlt
   obtain⟨b,o,rfl,hc⟩:∃b o,pv=some ⟨b,o,none⟩∧∀j,j<P.length→w2.cell? ⟨b,o+j,none⟩=some (.string (P.getD j noS)):=by
    rcases HCV.out with h9 | h9
    ·rw[h9] at hkl;simp at hkl
    ·exact h9
   have a0:=hc k hkl
   have a1:wr.cell? ⟨b,o+k,none⟩=some (.string (P.getD k noS)):=(HBk.out.cell (p:=⟨b,o+k,none⟩) (World.block_lt_of_cell? _ _ a0)).trans a0
   obtain⟨p,hp⟩:∃p,p=P.getD k noS:=⟨_,rfl⟩
   rw[←hp] at a1
   have C3:=HC3.out wr p (by rw[hp];exact getD_in hkl) (bel HB2.out HBk.out)
   have HNX:Hid (bare l (ByteArray.empty::P.take (k+1))=bare l (ByteArray.empty::P.take k)++[(p,((cutF l p:Int),(0:Int)))]):=by unfold Hid;rw[heads_to P k hkl,bare_snoc3,←hp]
   have HLN:Hid ((bare l (ByteArray.empty::P.take k)).length+1≤1048576):=by unfold Hid bare;rw[List.length_map,List.length_cons,List.length_take];omega
   obtain⟨f,hf⟩:∃f,f=cutF l p:=⟨_,rfl⟩
   rw[←hf] at C3 HNX
   clear hc a0 hp hkl hf
   go_wp2_with fail
   refine C3.mono ?_
   rintro e w5 ⟨rfl,hb5⟩
   have HB5:=z9 (bel HBk.out hb5)
   have HO5:=z9 (own_below HO.out hb5)
   have HAB:Hid (∀O,Below w5.heap.size w5 (w5.alloc O)):=fun O=>(Below.refl _ w5).alloc (Nat.le_refl _) O
   have HAO:Hid (∀O,(w5.alloc O).ownsRow w2.heap.size 72 3 (.slice pd nd cd) (bare l (ByteArray.empty::P.take k)).length (flat (bare l (ByteArray.empty::P.take k)))):=fun O=>own_below HO5.out (HAB.out O)
   have HAS:Hid (∀O,w2.heap.size≤(w5.alloc O).heap.size):=fun O=>Nat.le_trans HB5.out.size (HAB.out O).size
   clear hb5 C3 HO HBk a1
   go_wp2_with (at_builtin;refine wpList_put3 rfl (.tmp 47) (.tmp 51) rfl w2.heap.size (.slice pd nd cd) (bare l (ByteArray.empty::P.take k)) (p,((f:Int),(0:Int))) rfl w5.heap.size rfl HLN.out (HAS.out _) (HAO.out _) (heap_alloc_new w5 _) ?_;intro v9 w9 hr9 hg9;obtain⟨p9,n9,c9,rfl⟩:=own_sh3 hr9;have HO9:Hid (w9.ownsRow w2.heap.size 72 3 (.slice p9 n9 c9) (bare l (ByteArray.empty::P.take (k+1))).length (flat (bare l (ByteArray.empty::P.take (k+1))))):=(by unfold Hid;rw[HNX.out];exact hr9);have HB9:Hid (Below w2.heap.size w2 w9):=own_grow HO5.out (bel HB5.out (HAB.out _)) hg9 (HAS.out _);clear hr9 hg9)
   go_roundw
   case rel=>exact⟨k+1,by omega,by go_num,⟨_,_,_,rfl⟩,HO9,HB9⟩
   case measure=>simp[intOf];omega
  ·obtain rfl:k=np:=by omega
   have hltz:¬(k:Int)<k:=by omega
   have HTK:Hid (ByteArray.empty::P.take k=H):=by unfold Hid;rw[←HNP.out,List.take_length,HP.out]
   rw[HTK.out] at HO
   obtain⟨g,c2,hv,hg2,hc2,hcm3,ht⟩:=T3.start HHP.out HO.out
   injection hv with e1 e2 e3
   subst e1 e3
   have HG:Hid (w2.heap.size≤g∧H.length≤cd∧cd≤maxLen):=⟨hg2,hc2,hcm3⟩
   have hndh:=z9 e2.symm
   have HNDS:Hid (nd≤41):=by have h9:=HH4.out;rw[hndh.out] at h9;exact h9
   have CM:=measure_any w2 wr w2.heap.size g nd cd l H hndh.out (by have h9:=HNDS.out;omega) HL3.out (by rw[←hndh.out];exact ht) hg2 HBk.out
   rw[←HTS.out] at CM
   clear ht hg2 hc2 hcm3 e2 HO
   go_wp2_with fail
   refine CM.mono ?_
   rintro e w6 ⟨rfl,ht6,hb6⟩
   have HD6:=z9 (HDONE.out w6 g cd ht6 HG.out.2.1 HG.out.2.2)
   have HB6:=z9 hb6
   clear CM ht6 hb6
   go_wp2_with fail
   go_ret3
   exact⟨g,cd,by rw[hndh.out];rfl,Nat.le_trans HB2.out.size HG.out.1,HD6.out,bel HB2.out HB6.out⟩
def DirAt (w w':World) (l:List Leaf) (m:List Mk) (v:Value):Prop:=MksAt w' v (stD l m)∧Below w.heap.size w w'∧(dirE l m=0→∃g cd,v=.slice (some ⟨g,0,none⟩) (heads m).length cd∧w.heap.size≤g)∧(dirE l m≠0→v=.slice none 0 0)
theorem cut_any (q:Option Addr) (n c:Nat) (l:List Leaf) (u:Value) (m:List Mk) (w:World) (hl:l.length=n) (h:LeafsIn w q l) (hs:∀x ∈ l,x.1.size≤maxLen) (hn:n≤c) (hcm:c≤maxLen) (hA:MksAt w u m) (hsm:∀x ∈ m,x.1.size≤maxLen):
  Calls Tryz.prog 113 #[.slice q n c,u] w fun e w'=>∃v,e=.returned (.tuple #[.string (textD l m),v,errV (dirE l m)])∧DirAt w w' l m v:=by
 by_cases hb:bookE l=0
 ·by_cases hm:marksE m=0
  ·have h0:dirE l m=0:=dirE_zero.2 ⟨hb,hm⟩
   refine(cut_ok q n c l u m w hl h hs hn hcm hA hsm hb hm).mono ?_
   rintro e w' ⟨g,cd,rfl,hg,hM,hB⟩
   refine⟨_,by unfold textD;rw[if_pos h0,h0];rfl, ?_,hB,fun _=>⟨g,cd,rfl,hg⟩,fun h9=>absurd h0 h9⟩
   unfold stD;rw[if_pos h0];exact hM
  ·have hd:dirE l m=marksE m:=by unfold dirE;rw[if_neg (by simp[hb])]
   have h0:¬dirE l m=0:=by rw[hd];exact hm
   have C1:=Lf.text_any q n c l w hl h hs (Nat.le_trans hn hcm)
   rw[hb,errV_zero] at C1
   have HC2:Hid (∀w2,Below w.heap.size w w2→Calls Tryz.prog 153 #[u] w2 fun e w'=>∃v',e=.returned (.tuple #[v',.iface 76 (.int .i64 (marksE m))])∧StsAt w' v' (Ns.placesOf m)∧Below w2.heap.size w2 w'):=by
    intro w2 hb2
    have h9:=Ns.places_any u m w2 (hA.below hb2) hsm
    rw[errV_ne hm] at h9
    exact h9
   obtain⟨pu,nu,cu,hu⟩:∃p n c,u=.slice p n c:=by obtain⟨p,c,e,_⟩:=hA;exact⟨_,_,_,e⟩
   have HR:Hid (textD l m=⟨#[]⟩∧errV (dirE l m)=.iface 76 (.int .i64 (marksE m))∧stD l m=[]):=⟨by unfold textD;rw[if_neg h0],by rw[errV_ne h0,hd],by unfold stD;rw[if_neg h0]⟩
   have HN0:=z9 h0
   obtain⟨T,hT⟩:∃T,T=Lf.textR l:=⟨_,rfl⟩
   obtain⟨z,hz⟩:∃z,z=marksE m:=⟨_,rfl⟩
   rw[←hT] at C1
   rw[←hz] at HC2 HR
   rw[HR.out.1,HR.out.2.1]
   rw[hu] at HC2 ⊢
   clear hl h hs hn hcm hA hsm hb hm hd h0 hu hT hz
   go_enter Tryz.func113,Tryz.ntmps113
   go_wp2_with fail
   refine C1.mono ?_
   rintro e w1 ⟨rfl,hb1⟩
   have HB1:=z9 hb1
   have C2:=HC2.out w1 hb1
   clear hb1 C1 HC2
   go_wp2_with fail
   refine C2.mono ?_
   rintro e w2 ⟨v2,rfl,hs2,hb2⟩
   have HB2:=z9 (bel HB1.out hb2)
   clear hb2 C2 hs2
   go_wp2_with fail
   go_ret3
   exact⟨_,rfl,by rw[HR.out.2.2];exact MksAt.nil _,HB2.out,fun h9=>absurd h9 HN0.out,fun _=>rfl⟩
 ·have hd:dirE l m=bookE l:=by unfold dirE;rw[if_pos hb]
  have h0:¬dirE l m=0:=by rw[hd];exact hb
  have C1:=Lf.text_any q n c l w hl h hs (Nat.le_trans hn hcm)
  rw[errV_ne hb] at C1
  have HR:Hid (textD l m=⟨#[]⟩∧errV (dirE l m)=.iface 76 (.int .i64 (bookE l))∧stD l m=[]):=⟨by unfold textD;rw[if_neg h0],by rw[errV_ne h0,hd],by unfold stD;rw[if_neg h0]⟩
  have HN0:=z9 h0
  obtain⟨pu,nu,cu,hu⟩:∃p n c,u=.slice p n c:=by obtain⟨p,c,e,_⟩:=hA;exact⟨_,_,_,e⟩
  obtain⟨T,hT⟩:∃T,T=Lf.textR l:=⟨_,rfl⟩
  obtain⟨z,hz⟩:∃z,z=bookE l:=⟨_,rfl⟩
  rw[←hT,←hz] at C1
  rw[←hz] at HR
  rw[HR.out.1,HR.out.2.1,hu]
  clear hl h hs hn hcm hA hsm hb hd h0 hu hT hz
  go_enter Tryz.func113,Tryz.ntmps113
  go_wp2_with fail
  refine C1.mono ?_
  rintro e w1 ⟨rfl,hb1⟩
  have HB1:=z9 hb1
  clear hb1 C1
  go_wp2_with fail
  go_ret3
  exact⟨_,rfl,by rw[HR.out.2.2];exact MksAt.nil _,HB1.out,fun h9=>absurd h9 HN0.out,fun _=>rfl⟩
end Se
namespace Sf
open Go.ChangeShapes Go.WideShapes Go.ChangeAt Go.RowKit Cm Ka Kb Na Sm Sb Sd Se
open La (bel bel_drew errV_zero errV_ne own_ge own_grow own_below LeafsIn Lies)
open Bm (Leaf ahd bookE text)
open Op (bytesLess)
theorem Mks_shape {w:World} {v:Value} {l:List Mk} (h:MksAt w v l):∃p n c,v=.slice p n c:=by obtain⟨p,c,e,_⟩:=h;exact⟨_,_,_,e⟩
theorem stD_ok {l:List Leaf} {m:List Mk} (h:dirE l m=0):stD l m=stretches l m:=by unfold stD;rw[if_pos h]
theorem mks_at {w:World} {g n c:Nat} {l:List Leaf} {m:List Mk} (h:MksAt w (.slice (some ⟨g,0,none⟩) n c) (stretches l m)) (k:Nat) (hk:k<(heads m).length):MAt w g 0 k (stOf l (heads m) k):=by
 obtain⟨p,c',e,hin,_⟩:=h
 injection e with e1 e2 e3
 subst e1
 obtain⟨b,o,e,hc⟩:=hin.some (by intro e;have:=stretches_len l m;rw[e] at this;have:=heads_pos m;simp at *;omega)
 injection e with e
 injection e with e1 e2
 subst e1 e2
 have h9:=hc k (by rw[stretches_len];exact hk)
 rw[List.getD_eq_getElem?_getD,stretches_at hk] at h9
 exact h9
theorem mk_list (l:List UInt8):(⟨l.toArray⟩:ByteArray).toList=l:=ByteArray.toList_mk l
theorem cut_slice (l:List Leaf) (H:List ByteArray) (k:Nat):(⟨(text l).toArray⟩:ByteArray).extract (beg l H k) (beg l H (k+1))=⟨(sliceB l H k).toArray⟩:=by
 apply Bm.bytes_inj
 rw[ByteArray.toList_eq,ByteArray.data_extract,Array.toList_extract,List.extract_eq_take_drop,mk_list]
 unfold sliceB
 rw[←List.drop_take]
structure FillS (w:World) (g n:Nat) (F:Nat→ByteArray) (k:Nat) (wr:World):Prop where
 done:∀j,j<k→wr.cell? ⟨g,j,none⟩=some (.string (F j))
 any:∀j,j<n→∃v,wr.cell? ⟨g,j,none⟩=some v
 free:∀j,wr.frozen? ⟨g,j,none⟩=false
 bel:Below w.heap.size w wr
 ge:w.heap.size≤g
 lt:g<wr.heap.size
theorem FillS.start {w w1:World} {t:TypeId} {F:Nat→ByteArray} {n cap:Nat} {g:Nat} {xs:List Value} (hg:w.heap.size≤g) (h:w1.ownsRow g t 1 (.slice (some ⟨g,0,none⟩) n cap) n xs) (hb:Below w.heap.size w w1):FillS w g n F 0 w1:=by
 rcases h.2 with⟨e,_⟩ | ⟨g',cap',cur,e,_,h2,h3,h4,h5,h6⟩
 ·cases e
 ·injection e with e1
  injection e1 with e1
  injection e1 with e1
  subst e1
  refine⟨fun j hj=>absurd hj (by omega),fun j hj=>⟨cur[j]'(by omega), ?_⟩,fun j=>by simp[World.frozen?,h2],hb,hg,(Array.getElem?_eq_some_iff.1 h2).1⟩
  simp only[World.cell?,h2]
  simp[show j<cur.size by omega]
theorem FillS.below {w wr w2:World} {g n k:Nat} {F:Nat→ByteArray} (h:FillS w g n F k wr) (hb:Below wr.heap.size wr w2):FillS w g n F k w2:=
 ⟨fun j hj=>by rw[hb.cell (p:=⟨g,j,none⟩) h.lt];exact h.done j hj,fun j hj=>by rw[hb.cell (p:=⟨g,j,none⟩) h.lt];exact h.any j hj,fun j=>by rw[hb.frozen (p:=⟨g,j,none⟩) h.lt];exact h.free j,La.bel h.bel hb,h.ge,Nat.lt_of_lt_of_le h.lt hb.size⟩
theorem FillS.step {w wr:World} {g n k:Nat} {F:Nat→ByteArray} (h:FillS w g n F k wr) (hk:k<n) (v:ByteArray) (hv:v=F k):FillS w g n F (k+1) (wr.setCell ⟨g,k,none⟩ (.string v)):=by
 refine⟨fun j hj=> ?_,fun j hj=> ?_,fun j=> ?_,h.bel.setCell (p:=⟨g,k,none⟩) h.ge _,h.ge,by simpa using h.lt⟩
 ·by_cases e:j=k
  ·subst e
   obtain⟨u,hu⟩:=h.any j hk
   rw[World.cell?_setCell_same _ _ _ hu,hv]
  ·rw[World.cell?_setCell_other _ _ _ _ (by intro e2;injection e2;omega)]
   exact h.done j (by omega)
 ·obtain⟨u,hu⟩:=h.any j hj
  exact cell?_setCell_some hu
 ·rw[World.frozen?_setCell];exact h.free j
theorem infoS:(Tryz.prog.info? 9).map (fun i=>(i.zero,i.size,i.bytes))=some (some (.string ByteArray.empty),1,16):=by kernel_rfl
def slcR (l:List Leaf) (m:List Mk) (k:Nat):ByteArray:=⟨(sliceB l (heads m) k).toArray⟩
structure SlcAt (w w':World) (l:List Leaf) (m:List Mk) (v:Value):Prop where
 bel:Below w.heap.size w w'
 bad:dirE l m≠0→v=.slice none 0 0
 ok:dirE l m=0→∃g,v=.slice (some ⟨g,0,none⟩) (heads m).length (heads m).length∧w.heap.size≤g∧∀j,j<(heads m).length→w'.cell? ⟨g,j,none⟩=some (.string (slcR l m j))
theorem slices_any (q:Option Addr) (n c:Nat) (l:List Leaf) (u:Value) (m:List Mk) (w:World) (hl:l.length=n) (h:LeafsIn w q l) (hs:∀x ∈ l,x.1.size≤maxLen) (hn:n≤c) (hcm:c≤maxLen) (hA:MksAt w u m) (hsm:∀x ∈ m,x.1.size≤maxLen):
  Calls Tryz.prog 78 #[.slice q n c,u] w fun e w'=>∃p n' c',e=.returned (.tuple #[.slice p n' c',errV (dirE l m)])∧SlcAt w w' l m (.slice p n' c'):=by
 have C:=cut_any q n c l u m w hl h hs hn hcm hA hsm
 obtain⟨pu,nu,cu,hu⟩:=Mks_shape hA
 rw[hu] at C ⊢
 by_cases h0:dirE l m=0
 ·rw[h0,errV_zero,show textD l m=⟨(text l).toArray⟩ by unfold textD;rw[if_pos h0]] at C
  rw[h0,errV_zero]
  have hbm:=dirE_zero.1 h0
  have HBG:Hid (∀k,beg l (heads m) k≤(text l).length):=beg_le l _
  have HTL:Hid ((text l).length≤300):=by have h9:=Bm.text_len_le l;have:=(Bm.bookE_zero.1 hbm.1).1;unfold Hid;omega
  have HRI:Hid (Bm.Rise l∧marksE m=0):=⟨(Lf.book_ok hbm.1).2.1,hbm.2⟩
  have HH4:=z9 (heads_len hbm.2)
  have H0:=z9 h0
  obtain⟨T,hT⟩:∃T:ByteArray,T=⟨(text l).toArray⟩:=⟨_,rfl⟩
  have HTE:=z9 hT
  have HTS:Hid (T.size=(text l).length):=by rw[hT];rfl
  rw[←hT] at C
  obtain⟨i0,hi,hz0,hz1,hz2⟩:=info_parts infoS
  clear hl h hs hn hcm hA hsm hu hT h0 hbm
  go_enter Tryz.func78,Tryz.ntmps78
  go_wp2_with fail
  refine C.mono ?_
  rintro e w1 ⟨v1,rfl,hd1⟩
  obtain⟨hm1,hb1,hg1,_⟩:=hd1
  obtain⟨g,cd,rfl,hgl⟩:=hg1 H0.out
  rw[stD_ok H0.out] at hm1
  have HM1:=z9 (mks_at hm1)
  have HB1:=z9 hb1
  obtain⟨nh,hnh⟩:∃nh,nh=(heads m).length:=⟨_,rfl⟩
  rw[←hnh] at HM1 HH4 ⊢
  have HNH:=z9 hnh
  have hn41:nh≤41:=HH4.out
  clear hm1 hb1 hg1 hgl C hnh
  go_wp2_with (at_make;refine wpList_make_full _ rfl (.tmp 23) (.tmp 23) 23 rfl w1.heap.size 9 i0 (.string ByteArray.empty) 1 Tryz.underlying23 hi hz0 hz1 .i64 .i64 nh nh nh rfl rfl rfl rfl (by rw[hz2];omega) (by unfold maxLen;omega) (Nat.le_refl _) ?_;intro w2 hown hgrow;have HF:Hid (FillS w1 w1.heap.size nh (slcR l m) 0 w2):=FillS.start (Nat.le_refl _) hown ((Below.refl _ w1).grown hgrow (Nat.le_refl _) (fun k hk=>by cases hk));clear hown hgrow)
  go_loopw [10,11,27] (fun _ _ vi wr=>∃(k:Nat),k≤nh∧vi=.int .i64 k∧Hid (FillS w1 w1.heap.size nh (slcR l m) k wr)) (fun _ _ vi _=>nh-(intOf vi).toNat)
  case atStart=>exact⟨0,by omega,rfl,HF⟩
  case round=>
   clear HF
   obtain⟨k,hk,rfl,HF⟩:=hrel
   by_cases hlt:k<nh
   ·have hltz:(k:Int)<nh:=by omega
    have ha:=(HM1.out k hlt).below HF.out.bel (HM1.out k hlt).lt
    obtain⟨a1,a2,a3⟩:=ha
    simp only[stOf,Nat.zero_add] at a1 a2 a3
    obtain⟨b0,hb0⟩:∃b0,b0=beg l (heads m) k:=⟨_,rfl⟩
    obtain⟨b1,hb1'⟩:∃b1,b1=beg l (heads m) (k+1):=⟨_,rfl⟩
    obtain⟨sp,hsp⟩:∃sp,sp=(heads m).getD k ByteArray.empty:=⟨_,rfl⟩
    rw[←hb0] at a2 a3
    rw[←hb1'] at a3
    rw[←hsp] at a1
    have h3a:b0≤b1:=by rw[hb0,hb1'];exact beg_mono HRI.out.1 HRI.out.2 (Nat.le_succ k)
    have h3b:b1≤T.size:=by rw[hb1',HTS.out];exact HBG.out _
    have h3c:T.size≤300:=by rw[HTS.out];exact HTL.out
    have h3z:(b0:Int)≤b1:=by omega
    have h3y:(b1:Int)≤T.size:=by omega
    obtain⟨d,hd⟩:∃d:Int,d=(b1:Int)-b0:=⟨_,rfl⟩
    rw[←hd] at a3
    have hw:IntKind.i64.wrap ((b0:Int)+d)=(b1:Int):=by rw[hd,show(b0:Int)+(b1-b0)=b1 by omega];exact wrap_in3 (by omega) (by omega)
    have HSL:Hid (T.extract b0 b1=slcR l m k):=by unfold Hid slcR;rw[HTE.out,hb0,hb1'];exact cut_slice l _ k
    have HFA:Hid (FillS w1 w1.heap.size nh (slcR l m) k (wr.alloc (.cells #[.string sp,.int .i64 b0,.int .i64 d] 72))):=HF.out.below ((Below.refl _ wr).alloc (Nat.le_refl _) _)
    obtain⟨old,d3⟩:=HFA.out.any k hlt
    have d4:=HFA.out.free k
    have HN:Hid (FillS w1 w1.heap.size nh (slcR l m) (k+1) ((wr.alloc (.cells #[.string sp,.int .i64 b0,.int .i64 d] 72)).setCell ⟨w1.heap.size,k,none⟩ (.string (T.extract b0 b1)))):=HFA.out.step hlt _ HSL.out
    clear hb0 hb1' hsp hd
    go_wp2_with fail
    go_roundw
    case rel=>exact⟨k+1,by omega,by go_num,HN⟩
    case measure=>simp[intOf];omega
   ·obtain rfl:k=nh:=by omega
    have hltz:¬(k:Int)<k:=by omega
    go_wp2_with fail
    go_ret2
    refine⟨_,_,_,rfl,bel HB1.out HF.out.bel,fun h9=>absurd H0.out h9,fun _=>⟨w1.heap.size,by rw[HNH.out],HB1.out.size,fun j hj=>HF.out.done j (by rw[HNH.out];exact hj)⟩⟩
 ·rw[errV_ne h0] at C
  rw[errV_ne h0]
  obtain⟨T,hT⟩:∃T,T=textD l m:=⟨_,rfl⟩
  have H0:=z9 h0
  obtain⟨z,hz⟩:∃z,z=dirE l m:=⟨_,rfl⟩
  rw[←hz,←hT] at C
  rw[←hz]
  clear hl h hs hn hcm hA hsm hu hT h0 hz
  go_enter Tryz.func78,Tryz.ntmps78
  go_wp2_with fail
  refine C.mono ?_
  rintro e w1 ⟨v1,rfl,hd1⟩
  have HD1:=z9 hd1
  clear hd1 C
  go_wp2_with fail
  go_ret2
  exact⟨_,_,_,rfl,HD1.out.2.1,fun _=>rfl,fun h9=>absurd h9 H0.out⟩
end Sf
end Go.Proofs.YtiamefgoeibhhaaGreatDoor
