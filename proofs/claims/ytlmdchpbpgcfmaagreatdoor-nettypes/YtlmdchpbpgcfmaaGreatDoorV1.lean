import Derived.Test.YtlmdchpbpgcfmaaGreatDoorJ8
import Derived.Deep.AppendLies
import Derived.Lib.AppendStr
set_option linter.unusedVariables false
set_option maxRecDepth 100000
set_option maxHeartbeats 8000000
/- What the small functions of package op answer that set bytes behind a row: appendTwo, appendDot, sum. -/
namespace Go.Proofs.YtlmdchpbpgcfmaaGreatDoor
namespace Vd
open Go.ChangeShapes Go.WideShapes Go.ChangeAt Go.RowKit Cm Ka Kb Na Om Oa Oz Oc Og Oi Ov Va Vb Vc
open La (bel bel_drew errV_zero errV_ne own_ge own_grow own_below)
/- a row grows: no other block is written -/
def Grew (w w':World) (v v':Value):Prop:=w.grownBy w' v.ownBlock∧(v'.ownBlock=v.ownBlock∨∀k,v'.ownBlock=some k→w.heap.size≤k)
theorem Grew.trans {w w1 w2:World} {v v1 v2:Value} (h:Grew w w1 v v1) (k:Grew w1 w2 v1 v2):Grew w w2 v v2:=by
 obtain⟨g,e⟩:=h
 obtain⟨g2,e2⟩:=k
 refine⟨⟨g2.os.trans g.os,g2.tape.trans g.tape,g2.output.trans g.output,Nat.le_trans g.size g2.size,fun j hj hne=> ?_⟩, ?_⟩
 ·refine(g2.block j (Nat.lt_of_lt_of_le hj g.size) ?_).trans (g.block j hj hne)
  intro e3
  rcases e with e | e
  ·exact hne (e3.trans e)
  ·have:=e j e3.symm;omega
 ·rcases e2 with e2 | e2
  ·rcases e with e | e
   ·exact Or.inl (e2.trans e)
   ·exact Or.inr fun j hj=>e j (e2.symm.trans hj)
  ·exact Or.inr fun j hj=>Nat.le_trans g.size (e2 j hj)
theorem Grew.alloc (w:World) (v:Value) (o:Obj):Grew w (w.alloc o) v v:=⟨World.grownBy_alloc w o _,Or.inl rfl⟩
theorem Grew.drew {w w':World} {v v':Value} (h:Grew w w' v v'):Grew w w'.drew v v':=⟨⟨h.1.os,h.1.tape,h.1.output,h.1.size,h.1.block⟩,h.2⟩
theorem Grew.below {w w':World} {B:Nat} {v v':Value} {l:List UInt8} (h:Grew w w' v v') (hr:Row w B v l) (hB:B≤w.heap.size):Below B w w':=
 ⟨h.1.os,h.1.tape,h.1.output,h.1.size,fun k hk=>h.1.block k (by omega) (fun e=>by have:=(World.ownsRow.lt hr k e.symm).1;omega)⟩
theorem Grew.ne {w w':World} {v v':Value} {k:Nat} (h:Grew w w' v v') (hk:k<w.heap.size) (hne:some k≠v.ownBlock):some k≠v'.ownBlock:=by
 intro e
 rcases h.2 with h | h
 ·exact hne (e.trans h)
 ·have:=h k e.symm;omega
theorem Grew.cell {w w':World} {v v':Value} (h:Grew w w' v v') {p:Addr} {u:Value} (hc:w.cell? p=some u) (hne:some p.block≠v.ownBlock):w'.cell? p=some u:=h.1.cell hc hne
/- two bytes more: their own block has just been laid -/
theorem two_new (w:World) (x y:Value) (t:TypeId):(w.alloc (.cells #[x,y] t)).cell? ⟨w.heap.size,0,none⟩=some x∧(w.alloc (.cells #[x,y] t)).cell? ⟨w.heap.size,1,none⟩=some y:=by
 have h2:=heap_alloc_new w (.cells #[x,y] t)
 constructor<;>(simp only[World.cell?,h2];rfl)
theorem wpList_put2 {ops:Array Oper} {rest:List Oper} {o:Oper} {a:Act} {Q:Exit→Act→World→Prop} (wr:World) (hgd:o.guard=none) (sO xO:Operand)
  (ho:o.op=.call { callee:=.builtin .append,args:=#[sO,xO],argTypes:=#[178,178] })
  (B:Nat) (v:Value) (l:List UInt8) (x y:Int) (c d:UInt8) (t:TypeId) (hs:a.eval sO=v) (hown:Row wr B v l) (h0:Nat) (hx:a.eval xO=.slice (some ⟨h0,0,none⟩) 2 2) (hh:h0=wr.heap.size)
  (hc:x=(c.toNat:Int)) (hd:y=(d.toNat:Int)) (hlen:l.length+2≤1000000000) (hB:B≤wr.heap.size)
  (h:∀v' w',Row w' B v' (l++[c,d])→Grew wr w' v v'→wpList Tryz.prog ops Q rest (a.put o.dst v') w'):
  wpList Tryz.prog ops Q (o::rest) a (wr.alloc (.cells #[.int .u8 x,.int .u8 y] t)):=by
 subst hh
 obtain⟨i0,hi,hz0,hz1,hz2⟩:=info_parts info5
 obtain⟨k0,k1⟩:=two_new wr (.int .u8 x) (.int .u8 y) t
 refine wpList_append_own_at _ hgd sO xO 178 ho B 5 i0 (.int .u8 0) 1 1 Tryz.underlying178 hi hz0 hz1 hz2 rfl (by decide) v l.length (bc l) hs (Row.alloc hown _) ⟨wr.heap.size,0,none⟩ 2 2 (bc [c,d]) hx rfl ?_ (bc_one _) (by unfold maxLen;omega) (by omega) (by simp;omega) ?_
 ·intro j u hu
  obtain⟨hj,rfl⟩:=bc_get hu
  rw[addr_zero]
  rcases j with _ | _ | j
  ·rw[k0,hc];rfl
  ·rw[k1,hd];rfl
  ·simp at hj;omega
 ·intro v' w' hown' hg _ hat
  refine h v' w' ?_ ((Grew.alloc wr v _).trans ⟨hg, ?_⟩)
  ·unfold Row
   rw[List.length_append,bc_append];exact hown'
  ·rcases hat with e | e
   ·exact Or.inl e
   ·refine Or.inr fun k hk=> ?_
    rw[e] at hk;injection hk with hk;omega
/- one byte more, at a step of a region that draws -/
theorem step_put1 {ops:Array Oper} {o:Oper} {a:Act} {W:World} {K:Act→World→Prop} {Q:Exit→Act→World→Prop} {E:Prop} (hgd:o.guard=none) (sO xO:Operand)
  (ho:o.op=.call { callee:=.builtin .append,args:=#[sO,xO],argTypes:=#[178,178] })
  (B:Nat) (v:Value) (l:List UInt8) (x:Int) (c:UInt8) (hs:a.eval sO=v) (h0:Nat) (hx:a.eval xO=.slice (some ⟨h0,0,none⟩) 1 1)
  (hc:x=(c.toNat:Int)) (hlen:l.length+1≤1000000000) (hown:Row W B v l) (hB:B≤W.heap.size) (hcell:W.cell? ⟨h0,0,none⟩=some (.int .u8 x))
  (h:∀v' w',Row w' B v' (l++[c])→Grew W w' v v'→K (a.put o.dst v') w'):
  if Region.wanted o (yielded ops a.tmps)=true then Oper.wp Tryz.prog o a W K Q else E:=by
 have hw:Region.wanted o (yielded ops a.tmps)=true:=by simp[Region.wanted,hgd]
 rw[if_pos hw]
 obtain⟨i0,hi,hz0,hz1,hz2⟩:=info_parts info5
 obtain⟨v',w',hr,h2,h3,_,h5⟩:=run_append_own_at (P:=Tryz.prog) W B 178 o.type 5 i0 (.int .u8 0) 1 1 Tryz.underlying178 hi hz0 hz1 hz2 rfl (by decide) v l.length (bc l) hown ⟨h0,0,none⟩ 1 1 (bc [c]) rfl (by
  intro j u hu
  obtain⟨hj,rfl⟩:=bc_get hu
  rw[addr_zero]
  rcases j with _ | j
  ·rw[hcell,hc];rfl
  ·simp at hj) (bc_one _) (by unfold maxLen;omega) (by omega) hB
 unfold Oper.wp execOp
 simp only[ho,resolve,invoke,builtin,Sem.run_bind,Sem.run_pure,Result.andThen_ok,List.map_toArray,List.map_cons,List.map_nil,hs,hx,hr]
 refine h v' w' ?_ ⟨h3, ?_⟩
 ·unfold Row
  rw[List.length_append,bc_append];exact h2
 ·rcases h5 with e | e
  ·exact Or.inl e
  ·refine Or.inr fun k hk=> ?_
   rw[e] at hk;injection hk with hk;omega
theorem appendTwo_any (B:Nat) (v:Value) (l:List UInt8) (n:Int) (w:World) (hv:Row w B v l) (hn0:0≤n) (hn1:n≤65535) (hl:l.length≤1000000) (hB:B≤w.heap.size):
  Calls Tryz.prog 162 #[v,.int .i64 n] w fun e w'=>∃v',e=.returned v'∧Row w' B v' (l++b2 n)∧Grew w w' v v':=by
 obtain⟨p,N,c,rfl,_⟩:=hv.shape
 have HR:=z9 hv
 have HL:Hid (l.length+2≤1000000000):=by unfold Hid;omega
 have HA:Hid (n/256=((u8 (n/256)).toNat:Int)):=(u8_val (by omega) (by omega)).symm
 have HC:Hid (n%256=((u8 (n%256)).toNat:Int)):=(u8_val (by omega) (by omega)).symm
 clear hv hl
 go_enter Tryz.func162,Tryz.ntmps162
 go_wp2_with (at_builtin;refine wpList_put2 w rfl (.tmp 5) (.tmp 11) rfl B (.slice p N c) l _ _ (u8 (n/256)) (u8 (n%256)) _ rfl HR.out _ rfl rfl HA.out HC.out HL.out hB ?_;intro v1 w1 hr1 hg1;have HR1:=z9 hr1;have HG1:=z9 hg1;clear hr1 hg1)
 go_ret
 exact⟨_,rfl,HR1.out,HG1.out⟩
theorem appendDot_any (B : Nat) (v : Value) (l : List UInt8) (a n : Int) (w : World) (hv : Row w B v l) (ha0 : 0 ≤ a) (ha1 : a ≤ 255) (hn0 : 0 ≤ n) (hn1 : n ≤ 65535) (hl : l.length ≤ 999999) (hB : B ≤ w.heap.size) :
  Calls Tryz.prog 189 #[v, .agg #[.int .i64 a, .int .i64 n]] w fun e w' => ∃ v', e = .returned v' ∧ Row w' B v' (l ++ (u8 a :: b2 n)) ∧ Below B w w' ∧ B ≤ w'.heap.size := by
 obtain ⟨p, N, c, rfl, _⟩ := hv.shape
 have HR : Hid (Row w B (.slice p N c) l) := hv
 have HL : Hid (l.length + 1 ≤ 1000000000) := by unfold Hid; omega
 have HL2 : Hid ((l ++ [u8 a]).length ≤ 1000000) := by unfold Hid; simp; omega
 have HA : Hid (IntKind.u8.wrap a = ((u8 a).toNat : Int)) := u8_wrap (by omega)
 have HN : Hid (some w.heap.size ≠ (Value.slice p N c).ownBlock) := fun e => by have := (World.ownsRow.lt hv w.heap.size e.symm).2; omega
 have HE : Hid (∀ W v1, Grew w W (.slice p N c) v1 → Below B w W ∧ B ≤ W.heap.size) := fun W v1 h => ⟨h.below hv hB, Nat.le_trans hB h.1.size⟩
 have HRW : Hid (∀ X Y, Row ((w.alloc X).alloc Y).drew B (.slice p N c) l) := fun X Y => show Row ((w.alloc X).alloc Y) B (.slice p N c) l from Row.alloc (Row.alloc hv X) Y
 have HGW : Hid (∀ X Y, Grew w ((w.alloc X).alloc Y).drew (.slice p N c) (.slice p N c)) := fun X Y => ((Grew.alloc w _ X).trans (Grew.alloc _ _ Y)).drew
 have HBW : Hid (∀ X Y, B ≤ ((w.alloc X).alloc Y).drew.heap.size) := fun X Y => by simp; omega
 have HSW : Hid (∀ X Y, w.heap.size < ((w.alloc X).alloc Y).drew.heap.size) := fun X Y => by simp; omega
 have HCW : Hid (∀ X x, ((w.alloc X).alloc (.cells #[x] 5)).drew.cell? ⟨w.heap.size + 1, 0, none⟩ = some x) := fun X x => by
  have := one_new (w.alloc X) x 5
  rwa [show (w.alloc X).heap.size = w.heap.size + 1 by simp] at this
 have HAS : Hid (l ++ [u8 a] ++ b2 n = l ++ (u8 a :: b2 n)) := by unfold Hid; rw [List.append_assoc]; rfl
 clear hv hl
 go_enter Tryz.func189, Tryz.ntmps189
 go_wp2_with fail
 go_region_held3 (fun W => W.cell? ⟨w.heap.size, 0, none⟩ = some (.int .i64 a) ∧ W.cell? ⟨w.heap.size, 1, none⟩ = some (.int .i64 n)) (first | (go_keep; done) | (refine ⟨hg2.cell ?_ HN1.out, hg2.cell ?_ HN1.out⟩ <;> (go_split_ands; assumption)) | (refine ⟨hg1.cell ?_ HN.out, hg1.cell ?_ HN.out⟩ <;> (go_split_ands; assumption))) (first
  | ((refine step_put1 (by rfl) (.tmp 5) (.tmp 9) (by rfl) B (.slice p N c) l _ (u8 a) (by rfl) (w.heap.size + 1) (by rfl) HA.out HL.out (HRW.out _ _) (HBW.out _ _) (HCW.out _ _) ?_; intro v1 w1 hr1 hg1; have HN1 : Hid (some w.heap.size ≠ v1.ownBlock) := hg1.ne (HSW.out _ _) HN.out; have HS1 : Hid (B ≤ w1.heap.size) := Nat.le_trans (HBW.out _ _) hg1.1.size))
  | (go_at_call 162; refine (appendTwo_any B v1 (l ++ [u8 a]) n _ hr1 hn0 hn1 HL2.out HS1.out).mono ?_; rintro e w2 ⟨v2, rfl, hr2, hg2⟩))
 all_goals
  have HR2 : Hid (Row w2 B v2 (l ++ (u8 a :: b2 n))) := by unfold Hid; rw [← HAS.out]; exact hr2
  have HG2 : Hid (Grew w w2 (.slice p N c) v2) := ((HGW.out _ _).trans hg1).trans hg2
  clear hr1 hr2 hg1 hg2
  go_wp2_with fail
  go_ret
  exact ⟨_, rfl, HR2.out, (HE.out _ _ HG2.out).1, (HE.out _ _ HG2.out).2⟩
theorem Row.full {w:World} {B:Nat} {v:Value} {l:List UInt8} (h:Row w B v l) (hl:l≠[]):∃g N c,v=.slice (some ⟨g,0,none⟩) N c∧Hid (N=l.length)∧Hid (∀j,j<l.length→w.cell? ⟨g,j,none⟩=some (.int .u8 ((l.getD j 0).toNat:Int))):=by
 obtain⟨p,c,rfl,h1,h2⟩:=h.slice
 obtain⟨g,rfl,_⟩:=h1 hl
 exact⟨g,_,c,rfl,rfl,h2 g rfl⟩
theorem sum_step {l:List UInt8} {k:Nat} (hk:k<l.length):sumB (l.take (k+1))=sumB (l.take k)+((l.getD k 0).toNat:Int):=by
 rw[List.take_add_one,List.getElem?_eq_getElem hk,List.getD_eq_getElem?_getD,List.getElem?_eq_getElem hk]
 exact sumB_snoc _ _
theorem sum_any (B:Nat) (v:Value) (LL:List UInt8) (w:World) (hv:Row w B v LL) (hne:LL≠[]) (hl:LL.length≤1000000):
  Calls Tryz.prog 190 #[v] w fun e w'=>e=.returned (.int .u8 ((u8 (sumB LL%253)).toNat:Int))∧w'=w:=by
 obtain⟨g,N,c,rfl,HNN,HC⟩:=Row.full hv hne
 have hNL:N≤1000000:=by rw[HNN.out];exact hl
 clear hv hne hl
 go_enter Tryz.func190,Tryz.ntmps190
 go_wp2_with fail
 go_loop [3,8] (fun sm i=>∃(k:Nat) (S:Int),k≤N∧i=.int .i64 k∧sm=.int .i64 S∧0≤S∧S≤255*k∧Hid (S=sumB (LL.take k))) (fun _ i=>N-(intOf i).toNat)
 case atStart=>exact⟨0,0,by omega,rfl,rfl,by omega,by omega,rfl⟩
 case round=>
  obtain⟨k,S,hk,rfl,rfl,hS0,hS1,HSS⟩:=hrel
  by_cases hlt:k<N
  ·have hltz:(k:Int)<N:=by omega
   have hkL:k<LL.length:=by rw[←HNN.out];exact hlt
   have hcell:=HC.out k hkL
   have HST:=sum_step hkL
   obtain⟨x,hx⟩:∃x,x=LL.getD k 0:=⟨_,rfl⟩
   rw[←hx] at hcell HST
   have hxb:x.toNat<256:=UInt8.toNat_lt x
   obtain⟨z,hz⟩:∃z:Int,z=(x.toNat:Int):=⟨_,rfl⟩
   rw[←hz] at hcell HST
   have hz0:0≤z:=by omega
   have hz1:z≤255:=by omega
   have HST2:Hid (S+z=sumB (LL.take (k+1))):=by unfold Hid;rw[HST,HSS.out]
   clear hx hz hxb HST hkL
   go_wp2_with fail
   go_round
   case rel=>exact⟨k+1,S+z,by omega,by go_num,by go_num,by omega,by omega,HST2⟩
   case measure=>simp[intOf];omega
  ·obtain rfl:k=N:=by omega
   have HSE:Hid (S=sumB LL):=by
    have h9:=HSS.out
    rw[List.take_of_length_le (by rw[←HNN.out];exact Nat.le_refl _)] at h9
    exact h9
   have FS:Hid (S%253=((u8 (S%253)).toNat:Int)):=(u8_val (by omega) (by omega)).symm
   have hltz:¬(k:Int)<k:=by omega
   go_wp2_with fail
   go_ret
   exact⟨by rw[←HSE.out,←FS.out];rfl,rfl⟩
end Vd
end Go.Proofs.YtlmdchpbpgcfmaaGreatDoor
/- What op.Encode answers. -/
namespace Go.Proofs.YtlmdchpbpgcfmaaGreatDoor
namespace Ve
open Go.ChangeShapes Go.WideShapes Go.ChangeAt Go.RowKit Cm Ka Kb Na Om Oa Oz Oc Og Oi Ov Va Vb Vc Vd
open La (bel bel_drew errV_zero errV_ne own_ge own_grow own_below)
/- a row of one byte that has just been laid -/
theorem Row.one (w:World) (B:Nat) (x:Int) (c:UInt8) (hx:x=(c.toNat:Int)) (hB:B≤w.heap.size):Row (w.alloc (.cells #[.int .u8 x] 5)) B (.slice (some ⟨w.heap.size,0,none⟩) 1 1) [c]:=by
 subst hx
 refine⟨rfl,.inr ⟨w.heap.size,1,_,rfl,hB,heap_alloc_new w _,Nat.le_refl _,by unfold maxLen;omega,rfl,rfl⟩⟩
/- a text more behind a row -/
theorem wpList_putT {ops:Array Oper} {rest:List Oper} {o:Oper} {a:Act} {Q:Exit→Act→World→Prop} (w:World) (hgd:o.guard=none) (sO xO:Operand)
  (ho:o.op=.call { callee:=.builtin .append,args:=#[sO,xO],argTypes:=#[178,9] })
  (B:Nat) (v:Value) (l:List UInt8) (s:ByteArray) (hs:a.eval sO=v) (hown:Row w B v l) (hx:a.eval xO=.string s) (hlen:l.length+s.size≤1000000000) (hB:B≤w.heap.size)
  (h:∀v' w',Row w' B v' (l++s.toList)→Below B w w'→B≤w'.heap.size→wpList Tryz.prog ops Q rest (a.put o.dst v') w'):
  wpList Tryz.prog ops Q (o::rest) a w:=by
 obtain⟨i0,hi,hz0,hz1,hz2⟩:=info_parts info5
 refine Lib.wpList_append_own_string w hgd sO xO 178 9 ho B 5 i0 Tryz.underlying178 Tryz.underlying9 hi hz0 hz1 hz2 v l.length (bc l) hs hown s hx (by unfold maxLen;omega) (by omega) hB ?_
 intro v' w' hown' hg _
 refine h v' w' ?_ (own_grow hown (Below.refl _ _) hg hB) (Nat.le_trans hB hg.size)
 unfold Row
 rw[List.length_append,bc_append,Om.len_eq]
 have e:bc s.toList=Lib.strCells s:=by unfold bc Lib.strCells;rw[ByteArray.toList_eq]
 rw[e];exact hown'
theorem seen_step {s:List Dt} {k:Nat} (hk:k<s.length):seenB (s.take (k+1))=seenB (s.take k)++(u8 (s.getD k noneD).1::b2 (s.getD k noneD).2):=by
 rw[List.take_add_one,List.getElem?_eq_getElem hk,List.getD_eq_getElem?_getD,List.getElem?_eq_getElem hk,seenB_append]
 show _++seenB [s[k]]=_
 unfold seenB;simp
theorem dts_at {W:World} {b0 o0 n cs:Nat} {s:List Dt} {k:Nat} (h:DtsAt W (.slice (some ⟨b0,o0,none⟩) n cs) s) (hk:k<s.length):DAt W b0 o0 k (s.getD k noneD):=by
 obtain⟨q,c,e,hi,_⟩:=h
 injection e with e1 e2 e3
 obtain⟨b,o,e4,hc⟩:=hi.some (by intro e;rw[e] at hk;simp at hk)
 rw[←e1] at e4
 injection e4 with e4
 injection e4 with e5 e6
 subst e5 e6
 exact hc k hk
theorem dts_some {W:World} {ps:Option Addr} {n cs:Nat} {s:List Dt} {k:Nat} (h:DtsAt W (.slice ps n cs) s) (hk:k<s.length):∃b o,ps=some ⟨b,o,none⟩:=by
 obtain⟨q,c,e,hi,_⟩:=h
 injection e with e1 e2 e3
 obtain⟨b,o,e4,hc⟩:=hi.some (by intro e;rw[e] at hk;simp at hk)
 exact⟨b,o,by rw[e1,e4]⟩
theorem encode_wrong (a b t:Int) (p:ByteArray) (c:Int) (v:Value) (s:List Dt) (w:World) (hd:DtsAt w v s) (hp:p.size≤maxLen) (h0:¬opE ((a,b),t,p,c,s)=0):
  Calls Tryz.prog 163 #[.agg #[.int .i64 a,.int .i64 b,.int .i64 t,.string p,.int .i64 c,v]] w fun e w'=>e=.returned (.tuple #[.string ⟨#[]⟩,errV (opE ((a,b),t,p,c,s))])∧Below w.heap.size w w':=by
 obtain⟨ps,cs,hv,_⟩:=id hd
 obtain⟨n,hn⟩:∃n,n=s.length:=⟨_,rfl⟩
 rw[←hn] at hv
 subst hv
 have HD:Hid (∀O,DtsAt (w.alloc O) (.slice ps n cs) s):=fun O=>hd.below ((Below.refl _ w).alloc (Nat.le_refl _) O)
 have C:Hid (∀W,DtsAt W (.slice ps n cs) s→Calls Tryz.prog 110 #[.agg #[.int .i64 a,.int .i64 b,.int .i64 t,.string p,.int .i64 c,.slice ps n cs]] W fun e w'=>e=.returned (errV (opE ((a,b),t,p,c,s)))∧Below W.heap.size W w'):=fun W h=>check_says a b t p c _ s W h hp
 rw[errV_ne h0] at C
 rw[errV_ne h0]
 obtain⟨k,hk⟩:∃k,k=opE ((a,b),t,p,c,s):=⟨_,rfl⟩
 rw[←hk] at C
 rw[←hk]
 clear hd hn h0 hk
 go_enter Tryz.func163,Tryz.ntmps163
 go_wp2_with fail
 refine(C.out _ (HD.out _)).mono ?_
 rintro e w2 ⟨rfl,hb2⟩
 have HB2:Hid (Below w.heap.size w w2):=(six_in hb2).2
 clear hb2
 go_wp2_with fail
 go_ret2
 exact⟨rfl,HB2.out⟩
theorem encode_right (a b t:Int) (p:ByteArray) (c:Int) (vs:Value) (s:List Dt) (w:World) (hd:DtsAt w vs s) (h0:opE ((a,b),t,p,c,s)=0):
  Calls Tryz.prog 163 #[.agg #[.int .i64 a,.int .i64 b,.int .i64 t,.string p,.int .i64 c,vs]] w fun e w'=>e=.returned (.tuple #[.string (bytesS ((a,b),t,p,c,s)),.nilIface])∧Below w.heap.size w w':=by
 obtain⟨e1,e2,e3,e4⟩:=opE_zero.1 h0
 obtain⟨g1,g2,g3,g4,g5⟩:=lawOf_zero.1 e4
 simp only at e1 e2 e3 g1 g2 g3 g4 g5
 obtain⟨ha1,ha2,hb1,hb2⟩:=dotE_iff.1 e1
 have hpl:=Bm.chk_pos e3
 rw[Om.len_eq] at hpl
 obtain⟨hp2,hp12⟩:=hpl
 obtain⟨ht1,ht4⟩:=e2
 have hdots:∀d ∈ s,dotE d.1 d.2=0:=(dotsE_zero.1 g5).1
 have HD:Hid (∀d ∈ s,1≤d.1∧d.1≤8∧1≤d.2∧d.2≤9999):=fun d hd=>dotE_iff.1 (hdots d hd)
 have hpm:p.size≤maxLen:=by unfold maxLen;omega
 obtain⟨ps,cs,hvs,_⟩:=id hd
 obtain⟨n,hn⟩:∃n,n=s.length:=⟨_,rfl⟩
 rw[←hn] at hvs g4
 have HLN:=z9 hn.symm
 subst hvs
 have C:Hid (∀W,DtsAt W (.slice ps n cs) s→Calls Tryz.prog 110 #[.agg #[.int .i64 a,.int .i64 b,.int .i64 t,.string p,.int .i64 c,.slice ps n cs]] W fun e w'=>e=.returned .nilIface∧Below W.heap.size W w'):=by
  intro W h;have:=check_says a b t p c _ s W h hpm;rwa [h0,errV_zero] at this
 obtain⟨B,hBe⟩:∃B,B=(w.alloc (.cells #[.int .i64 a,.int .i64 b,.int .i64 t,.string p,.int .i64 c,.slice ps n cs] 75)).heap.size:=⟨_,rfl⟩
 have HBE:=z9 hBe
 have HS:Hid (∀W,Below B (w.alloc (.cells #[.int .i64 a,.int .i64 b,.int .i64 t,.string p,.int .i64 c,.slice ps n cs] 75)) W→Six W w.heap.size a b t p c (.slice ps n cs)∧DtsAt W (.slice ps n cs) s∧Below w.heap.size w W):=by
  intro W hb
  rw[hBe] at hb
  have hbw:=bel_new (Below.refl _ w) hb
  exact⟨(six_new w a b t p c (.slice ps n cs) 75).below hb,hd.below hbw,hbw⟩
 have FT:Hid (t=((u8 t).toNat:Int)):=(u8_val (by omega) (by omega)).symm
 have FP:Hid ((p.size:Int)=((u8 (p.size:Int)).toNat:Int)):=(u8_val (by omega) (by omega)).symm
 have HB0:Hid (∀O,DtsAt (w.alloc O) (.slice ps n cs) s):=fun O=>hd.below ((Below.refl _ w).alloc (Nat.le_refl _) O)
 have hpz:(p.size:Int)≤12:=by omega
 have hap:0≤a:=by omega
 have hap2:a≤255:=by omega
 have hbp:0≤b:=by omega
 have hbp2:b≤65535:=by omega
 clear hd hBe hn hdots g5 e1 e3 e4 h0
 by_cases t1:t=1
 case pos=>
  subst t1
  obtain⟨hc1,hc2⟩:=g1 rfl
  have FC:Hid (c=((u8 c).toNat:Int)):=(u8_val (by omega) (by omega)).symm
  have hs0:=g3 (by decide)
  subst hs0
  clear g1 g2 g3
  go_enter Tryz.func163,Tryz.ntmps163
  go_wp2_with fail
  refine(C.out _ (HB0.out _)).mono ?_
  rintro e w2 ⟨rfl,hb2⟩
  have HK2:Hid (Below B (w.alloc (.cells #[.int .i64 a,.int .i64 b,.int .i64 1,.string p,.int .i64 c,.slice ps n cs] 75)) w2):=by rw[HBE.out];exact hb2
  have HB2:Hid (B≤w2.heap.size):=by rw[HBE.out];exact hb2.size
  obtain⟨⟨d0,d1,d2,d3,d4,d5⟩,_,_⟩:=HS.out _ HK2.out
  have HR2:Hid (Row (w2.alloc (.cells #[.int .u8 1] 5)) B (.slice (some ⟨w2.heap.size,0,none⟩) 1 1) [u8 1]):=Row.one w2 B _ _ FT.out HB2.out
  have HA2:Hid (Below B w2 (w2.alloc (.cells #[.int .u8 1] 5))∧B≤(w2.alloc (.cells #[.int .u8 1] 5)).heap.size):=⟨(Below.refl _ _).alloc HB2.out _,by have:=HB2.out;simp;omega⟩
  obtain⟨⟨k0,k1,_,_,_,_⟩,_,_⟩:=HS.out _ (HK2.out.trans HA2.out.1)
  clear hb2 C
  go_wp2_with fail
  refine(appendDot_any B _ [u8 1] a b _ HR2.out hap hap2 hbp hbp2 (by simp) HA2.out.2).mono ?_
  rintro e w3 ⟨v3,rfl,hr3,hb3,hs3⟩
  obtain⟨p3,N3,c3,rfl,_⟩:=hr3.shape
  have HR3:=z9 hr3
  have HK3:Hid (Below B (w.alloc (.cells #[.int .i64 a,.int .i64 b,.int .i64 1,.string p,.int .i64 c,.slice ps n cs] 75)) w3):=(HK2.out.trans HA2.out.1).trans hb3
  clear hr3 hb3 d0 d1 d2 d3 d4 d5 k0 k1 HR2 HA2 HK2 HB2
  obtain⟨⟨d0,d1,d2,d3,d4,d5⟩,_,_⟩:=HS.out _ HK3.out
  go_wp2_with (first
   | (at_builtin;refine wpList_put1 _ rfl (.tmp 20) (.tmp 25) rfl B (.slice p3 N3 c3) ([u8 1]++(u8 a::b2 b)) _ (u8 (p.size:Int)) _ rfl HR3.out _ rfl (by first | rfl | simp) FP.out (by simp[b2_len]) hs3 ?_;intro v4 w4 hr4 hb4 hs4;obtain⟨p4,N4,c4,rfl,_⟩:=hr4.shape;have HR4:=z9 hr4;have HK4:=z9 (HK3.out.trans hb4);clear d0 d1 d2 d3 d4 d5;obtain⟨⟨d0,d1,d2,d3,d4,d5⟩,_,_⟩:=HS.out _ HK4.out;clear hr4 hb4)
   | (at_builtin;refine wpList_putT _ rfl (.tmp 27) (.tmp 29) rfl B (.slice p4 N4 c4) ([u8 1]++(u8 a::b2 b)++[u8 (p.size:Int)]) p rfl HR4.out rfl (by simp[b2_len];omega) hs4 ?_;intro v5 w5 hr5 hb5 hs5;obtain⟨p5,N5,c5,rfl,_⟩:=hr5.shape;have HR5:=z9 hr5;have HK5:=z9 (HK4.out.trans hb5);clear d0 d1 d2 d3 d4 d5;obtain⟨⟨d0,d1,d2,d3,d4,d5⟩,_,_⟩:=HS.out _ HK5.out;clear hr5 hb5)
   | (at_builtin;refine wpList_put1 _ rfl (.tmp 35) (.tmp 39) rfl B (.slice p5 N5 c5) ([u8 1]++(u8 a::b2 b)++[u8 (p.size:Int)]++p.toList) _ (u8 c) _ rfl HR5.out _ rfl (by first | rfl | simp) FC.out (by simp[b2_len,Om.len_eq];omega) hs5 ?_;intro v6 w6 hr6 hb6 hs6;obtain⟨p6,N6,c6,rfl,_⟩:=hr6.shape;have HR6:=z9 hr6;have HK6:=z9 (HK5.out.trans hb6);clear d0 d1 d2 d3 d4 d5;clear hr6 hb6))
  obtain⟨LL,hLL⟩:∃LL,LL=[u8 1]++(u8 a::b2 b)++[u8 (p.size:Int)]++p.toList++[u8 c]:=⟨_,rfl⟩
  have HLE:Hid (LL++[u8 (sumB LL%253)]=bytesB ((a,b),1,p,c,[])):=by
   unfold Hid;rw[hLL];unfold bytesB frontB tailB b2
   simp
  have HLN2:Hid (LL≠[]):=by unfold Hid;rw[hLL];simp
  have HLb:Hid (LL.length≤1000000):=by unfold Hid;rw[hLL];simp[b2_len,Om.len_eq];omega
  have HLb2:Hid (LL.length+1≤1000000000):=by unfold Hid;have:=HLb.out;omega
  have HRL:Hid (Row w6 B (.slice p6 N6 c6) LL):=by rw[hLL];exact HR6.out
  clear hLL HR6
  go_wp2_with fail
  refine(sum_any B _ LL _ HRL.out HLN2.out HLb.out).mono ?_
  rintro e w8 ⟨rfl,hw⟩
  have hw2:=hw.symm;subst hw2;clear hw
  go_wp2_with (at_builtin;refine wpList_put1 _ rfl (.tmp 61) (.tmp 64) rfl B (.slice p6 N6 c6) LL _ (u8 (sumB LL%253)) _ rfl HRL.out _ rfl (by first | rfl | simp) rfl HLb2.out hs6 ?_;intro v9 w9 hr9 hb9 hs9;have hcv9:=hr9.reads (by simp);obtain⟨p9,N9,c9,rfl,_⟩:=hr9.shape;have HK9:=z9 (HK6.out.trans hb9);rw[HLE.out] at hcv9;clear hr9 hb9)
  go_ret2
  exact⟨rfl,(HS.out _ HK9.out).2.2⟩
 by_cases t4:t=4
 case neg=>
  have t1b:(t==1)=false:=by simpa using t1
  have t4b:(t==4)=false:=by simpa using t4
  have hs0:=g3 t4
  subst hs0
  have HT1:=z9 t1
  have HT4:=z9 t4
  clear g1 g2 g3 t1 t4
  go_enter Tryz.func163,Tryz.ntmps163
  go_wp2_with fail
  refine(C.out _ (HB0.out _)).mono ?_
  rintro e w2 ⟨rfl,hb2⟩
  have HK2:Hid (Below B (w.alloc (.cells #[.int .i64 a,.int .i64 b,.int .i64 t,.string p,.int .i64 c,.slice ps n cs] 75)) w2):=by rw[HBE.out];exact hb2
  have HB2:Hid (B≤w2.heap.size):=by rw[HBE.out];exact hb2.size
  obtain⟨⟨d0,d1,d2,d3,d4,d5⟩,_,_⟩:=HS.out _ HK2.out
  have HR2:Hid (Row (w2.alloc (.cells #[.int .u8 t] 5)) B (.slice (some ⟨w2.heap.size,0,none⟩) 1 1) [u8 t]):=Row.one w2 B _ _ FT.out HB2.out
  have HA2:Hid (Below B w2 (w2.alloc (.cells #[.int .u8 t] 5))∧B≤(w2.alloc (.cells #[.int .u8 t] 5)).heap.size):=⟨(Below.refl _ _).alloc HB2.out _,by have:=HB2.out;simp;omega⟩
  obtain⟨⟨k0,k1,_,_,_,_⟩,_,_⟩:=HS.out _ (HK2.out.trans HA2.out.1)
  clear hb2 C
  go_wp2_with fail
  refine(appendDot_any B _ [u8 t] a b _ HR2.out hap hap2 hbp hbp2 (by simp) HA2.out.2).mono ?_
  rintro e w3 ⟨v3,rfl,hr3,hb3,hs3⟩
  obtain⟨p3,N3,c3,rfl,_⟩:=hr3.shape
  have HR3:=z9 hr3
  have HK3:Hid (Below B (w.alloc (.cells #[.int .i64 a,.int .i64 b,.int .i64 t,.string p,.int .i64 c,.slice ps n cs] 75)) w3):=(HK2.out.trans HA2.out.1).trans hb3
  clear hr3 hb3 d0 d1 d2 d3 d4 d5 k0 k1 HR2 HA2 HK2 HB2
  obtain⟨⟨d0,d1,d2,d3,d4,d5⟩,_,_⟩:=HS.out _ HK3.out
  go_wp2_with (first
   | (at_builtin;refine wpList_put1 _ rfl (.tmp 20) (.tmp 25) rfl B (.slice p3 N3 c3) ([u8 t]++(u8 a::b2 b)) _ (u8 (p.size:Int)) _ rfl HR3.out _ rfl (by first | rfl | simp) FP.out (by simp[b2_len]) hs3 ?_;intro v4 w4 hr4 hb4 hs4;obtain⟨p4,N4,c4,rfl,_⟩:=hr4.shape;have HR4:=z9 hr4;have HK4:=z9 (HK3.out.trans hb4);clear d0 d1 d2 d3 d4 d5;obtain⟨⟨d0,d1,d2,d3,d4,d5⟩,_,_⟩:=HS.out _ HK4.out;clear hr4 hb4)
   | (at_builtin;refine wpList_putT _ rfl (.tmp 27) (.tmp 29) rfl B (.slice p4 N4 c4) ([u8 t]++(u8 a::b2 b)++[u8 (p.size:Int)]) p rfl HR4.out rfl (by simp[b2_len];omega) hs4 ?_;intro v5 w5 hr5 hb5 hs5;obtain⟨p5,N5,c5,rfl,_⟩:=hr5.shape;have HR5:=z9 hr5;have HK5:=z9 (HK4.out.trans hb5);clear d0 d1 d2 d3 d4 d5;obtain⟨⟨d0,d1,d2,d3,d4,d5⟩,_,_⟩:=HS.out _ HK5.out;clear hr5 hb5))
  obtain⟨LL,hLL⟩:∃LL,LL=[u8 t]++(u8 a::b2 b)++[u8 (p.size:Int)]++p.toList:=⟨_,rfl⟩
  have HLE:Hid (LL++[u8 (sumB LL%253)]=bytesB ((a,b),t,p,c,[])):=by
   unfold Hid;rw[hLL];unfold bytesB frontB tailB b2
   simp[HT1.out,HT4.out]
  have HLN2:Hid (LL≠[]):=by unfold Hid;rw[hLL];simp
  have HLb:Hid (LL.length≤1000000):=by unfold Hid;rw[hLL];simp[b2_len,Om.len_eq];omega
  have HLb2:Hid (LL.length+1≤1000000000):=by unfold Hid;have:=HLb.out;omega
  have HRL:Hid (Row w5 B (.slice p5 N5 c5) LL):=by rw[hLL];exact HR5.out
  clear hLL HR5
  go_wp2_with fail
  refine(sum_any B _ LL _ HRL.out HLN2.out HLb.out).mono ?_
  rintro e w8 ⟨rfl,hw⟩
  have hw2:=hw.symm;subst hw2;clear hw
  go_wp2_with (at_builtin;refine wpList_put1 _ rfl (.tmp 61) (.tmp 64) rfl B (.slice p5 N5 c5) LL _ (u8 (sumB LL%253)) _ rfl HRL.out _ rfl (by first | rfl | simp) rfl HLb2.out hs5 ?_;intro v9 w9 hr9 hb9 hs9;have hcv9:=hr9.reads (by simp);obtain⟨p9,N9,c9,rfl,_⟩:=hr9.shape;have HK9:=z9 (HK5.out.trans hb9);rw[HLE.out] at hcv9;clear hr9 hb9)
  go_ret2
  exact⟨rfl,(HS.out _ HK9.out).2.2⟩
 subst t4
 have FN:Hid ((n:Int)=((u8 (n:Int)).toNat:Int)):=(u8_val (by omega) (by omega)).symm
 clear g1 g2 g3 t1
 go_enter Tryz.func163,Tryz.ntmps163
 go_wp2_with fail
 refine(C.out _ (HB0.out _)).mono ?_
 rintro e w2 ⟨rfl,hb2⟩
 have HK2:Hid (Below B (w.alloc (.cells #[.int .i64 a,.int .i64 b,.int .i64 4,.string p,.int .i64 c,.slice ps n cs] 75)) w2):=by rw[HBE.out];exact hb2
 have HB2:Hid (B≤w2.heap.size):=by rw[HBE.out];exact hb2.size
 obtain⟨⟨d0,d1,d2,d3,d4,d5⟩,_,_⟩:=HS.out _ HK2.out
 have HR2:Hid (Row (w2.alloc (.cells #[.int .u8 4] 5)) B (.slice (some ⟨w2.heap.size,0,none⟩) 1 1) [u8 4]):=Row.one w2 B _ _ FT.out HB2.out
 have HA2:Hid (Below B w2 (w2.alloc (.cells #[.int .u8 4] 5))∧B≤(w2.alloc (.cells #[.int .u8 4] 5)).heap.size):=⟨(Below.refl _ _).alloc HB2.out _,by have:=HB2.out;simp;omega⟩
 obtain⟨⟨k0,k1,_,_,_,_⟩,_,_⟩:=HS.out _ (HK2.out.trans HA2.out.1)
 clear hb2 C
 go_wp2_with fail
 refine(appendDot_any B _ [u8 4] a b _ HR2.out hap hap2 hbp hbp2 (by simp) HA2.out.2).mono ?_
 rintro e w3 ⟨v3,rfl,hr3,hb3,hs3⟩
 obtain⟨p3,N3,c3,rfl,_⟩:=hr3.shape
 have HR3:=z9 hr3
 have HK3:Hid (Below B (w.alloc (.cells #[.int .i64 a,.int .i64 b,.int .i64 4,.string p,.int .i64 c,.slice ps n cs] 75)) w3):=(HK2.out.trans HA2.out.1).trans hb3
 clear hr3 hb3 d0 d1 d2 d3 d4 d5 k0 k1 HR2 HA2 HK2 HB2
 obtain⟨⟨d0,d1,d2,d3,d4,d5⟩,_,_⟩:=HS.out _ HK3.out
 go_wp2_with (first
  | (at_builtin;refine wpList_put1 _ rfl (.tmp 20) (.tmp 25) rfl B (.slice p3 N3 c3) ([u8 4]++(u8 a::b2 b)) _ (u8 (p.size:Int)) _ rfl HR3.out _ rfl (by first | rfl | simp) FP.out (by simp[b2_len]) hs3 ?_;intro v4 w4 hr4 hb4 hs4;obtain⟨p4,N4,c4,rfl,_⟩:=hr4.shape;have HR4:=z9 hr4;have HK4:=z9 (HK3.out.trans hb4);clear d0 d1 d2 d3 d4 d5;obtain⟨⟨d0,d1,d2,d3,d4,d5⟩,_,_⟩:=HS.out _ HK4.out;clear hr4 hb4)
  | (at_builtin;refine wpList_putT _ rfl (.tmp 27) (.tmp 29) rfl B (.slice p4 N4 c4) ([u8 4]++(u8 a::b2 b)++[u8 (p.size:Int)]) p rfl HR4.out rfl (by simp[b2_len];omega) hs4 ?_;intro v5 w5 hr5 hb5 hs5;obtain⟨p5,N5,c5,rfl,_⟩:=hr5.shape;have HR5:=z9 hr5;have HK5:=z9 (HK4.out.trans hb5);clear d0 d1 d2 d3 d4 d5;obtain⟨⟨d0,d1,d2,d3,d4,d5⟩,_,_⟩:=HS.out _ HK5.out;clear hr5 hb5)
  | (at_builtin;refine wpList_put1 _ rfl (.tmp 43) (.tmp 48) rfl B (.slice p5 N5 c5) ([u8 4]++(u8 a::b2 b)++[u8 (p.size:Int)]++p.toList) _ (u8 (n:Int)) _ rfl HR5.out _ rfl (by first | rfl | simp) FN.out (by simp[b2_len,Om.len_eq];omega) hs5 ?_;intro v6 w6 hr6 hb6 hs6;obtain⟨p6,N6,c6,rfl,_⟩:=hr6.shape;have HR6:=z9 hr6;have HK6:=z9 (HK5.out.trans hb6);clear d0 d1 d2 d3 d4 d5;obtain⟨⟨d0,d1,d2,d3,d4,d5⟩,_,_⟩:=HS.out _ HK6.out;clear hr6 hb6))
 obtain⟨Q6,hQ6⟩:∃Q,Q=[u8 4]++(u8 a::b2 b)++[u8 (p.size:Int)]++p.toList++[u8 (n:Int)]:=⟨_,rfl⟩
 have HQ6:=z9 hQ6
 have HQL:Hid (Q6.length≤30):=by rw[hQ6];unfold Hid;simp[Om.len_eq,b2_len];omega
 have HR6b:Hid (Row w6 B (.slice p6 N6 c6) (Q6++seenB (s.take 0))):=by
  have h9:=HR6.out
  rw[←hQ6] at h9
  rw[show seenB (s.take 0)=[] from rfl,List.append_nil];exact h9
 clear hQ6 HR6 d0 d1 d2 d3 d4 d5
 go_loopw [5,53] (fun v i wr=>∃(k:Nat),k≤n∧i=.int .i64 k∧(∃P N C,v=.slice P N C)∧Hid (Row wr B v (Q6++seenB (s.take k)))∧Hid (Below B (w.alloc (.cells #[.int .i64 a,.int .i64 b,.int .i64 4,.string p,.int .i64 c,.slice ps n cs] 75)) wr)∧B≤wr.heap.size) (fun _ i _=>n-(intOf i).toNat)
 case atStart=>exact⟨0,by omega,rfl,⟨_,_,_,rfl⟩,HR6b,HK6,hs6⟩
 case round=>
  clear HR6b HK6 hs6
  obtain⟨k,hk,rfl,⟨p6,N6,c6,rfl⟩,HR6,HK6,hs6⟩:=hrel
  obtain⟨_,hdd,_⟩:=HS.out _ HK6.out
  by_cases hlt:k<n
  ·have hltz:(k:Int)<n:=by omega
   have hks:k<s.length:=by rw[HLN.out];exact hlt
   obtain⟨b0,o0,rfl⟩:=dts_some hdd hks
   have hx:=dts_at hdd hks
   have HST:=seen_step hks
   have HXD:=HD.out _ (getD_mem hks)
   obtain⟨x,hxe⟩:∃x,x=s.getD k noneD:=⟨_,rfl⟩
   rw[←hxe] at hx HST HXD
   obtain⟨x1,x2⟩:=x
   obtain⟨f1,f2⟩:=hx
   simp only at f1 f2 HST HXD
   obtain⟨hx1,hx2,hx3,hx4⟩:=HXD
   have HLK:Hid ((Q6++seenB (s.take k)).length≤999999):=by
    unfold Hid;rw[List.length_append,seenB_len,List.length_take];have:=HQL.out;omega
   have HST2:Hid (Q6++seenB (s.take (k+1))=(Q6++seenB (s.take k))++(u8 x1::b2 x2)):=by unfold Hid;rw[HST];simp
   clear hxe HST hdd hks
   obtain⟨Q7,hQ7⟩:∃Q,Q=Q6++seenB (s.take k):=⟨_,rfl⟩
   rw[←hQ7] at HR6 HLK HST2
   clear hQ7
   have HR7:Hid (∀O,Row (wr.alloc O) B (.slice p6 N6 c6) Q7):=fun O=>Row.alloc HR6.out O
   have HB7:Hid (∀O,Below B wr (wr.alloc O)∧B≤(wr.alloc O).heap.size):=fun O=>⟨(Below.refl _ _).alloc hs6 O,by simp;omega⟩
   go_wp2_with fail
   refine(appendDot_any B _ Q7 x1 x2 _ (HR7.out _) (by omega) (by omega) (by omega) (by omega) HLK.out (HB7.out _).2).mono ?_
   rintro e w8 ⟨v8,rfl,hr8,hb8,hs8⟩
   obtain⟨p8,N8,c8,rfl,_⟩:=hr8.shape
   have HR8:Hid (Row w8 B (.slice p8 N8 c8) (Q6++seenB (s.take (k+1)))):=by unfold Hid;rw[HST2.out];exact hr8
   have HK8:Hid (Below B (w.alloc (.cells #[.int .i64 a,.int .i64 b,.int .i64 4,.string p,.int .i64 c,.slice (some ⟨b0,o0,none⟩) n cs] 75)) w8):=(HK6.out.trans (HB7.out _).1).trans hb8
   clear hr8 hb8 HR7 HB7
   go_wp2_with fail
   go_roundw
   case rel=>exact⟨k+1,by omega,by go_num,⟨_,_,_,rfl⟩,HR8,HK8,hs8⟩
   case measure=>simp[intOf];omega
  ·obtain rfl:n=k:=by omega
   have hltz:¬(n:Int)<n:=by omega
   rw[List.take_of_length_le (by rw[HLN.out];exact Nat.le_refl _)] at HR6
   clear hlt hk hdd
   obtain⟨LL,hLL⟩:∃LL,LL=Q6++seenB s:=⟨_,rfl⟩
   have HLE:Hid (LL++[u8 (sumB LL%253)]=bytesB ((a,b),4,p,c,s)):=by
    unfold Hid;rw[hLL];rw[HQ6.out];unfold bytesB frontB tailB b2
    simp[HLN.out]
   have HLN2:Hid (LL≠[]):=by unfold Hid;rw[hLL,HQ6.out];simp
   have HLb:Hid (LL.length≤1000000):=by unfold Hid;rw[hLL];rw[List.length_append,seenB_len,HLN.out];have:=HQL.out;omega
   have HLb2:Hid (LL.length+1≤1000000000):=by unfold Hid;have:=HLb.out;omega
   have HRL:Hid (Row wr B (.slice p6 N6 c6) LL):=by rw[hLL];exact HR6.out
   clear hLL HR6
   go_wp2_with fail
   refine(sum_any B _ LL _ HRL.out HLN2.out HLb.out).mono ?_
   rintro e w8 ⟨rfl,hw⟩
   have hw2:=hw.symm;subst hw2;clear hw
   go_wp2_with (at_builtin;refine wpList_put1 _ rfl (.tmp 61) (.tmp 64) rfl B (.slice p6 N6 c6) LL _ (u8 (sumB LL%253)) _ rfl HRL.out _ rfl (by first | rfl | simp) rfl HLb2.out hs6 ?_;intro v9 w9 hr9 hb9 hs9;have hcv9:=hr9.reads (by simp);obtain⟨p9,N9,c9,rfl,_⟩:=hr9.shape;have HK9:=z9 (HK6.out.trans hb9);rw[HLE.out] at hcv9;clear hr9 hb9)
   go_ret2
   exact⟨rfl,(HS.out _ HK9.out).2.2⟩
theorem encode_says:EncodeSays:=by
 intro a b t p c v s w hd hp
 by_cases h0:opE ((a,b),t,p,c,s)=0
 ·have:=encode_right a b t p c v s w hd h0
  rw[h0,errV_zero]
  unfold encS
  rw[if_pos h0]
  exact this
 ·have:=encode_wrong a b t p c v s w hd hp h0
  unfold encS
  rw[if_neg h0]
  exact this
end Ve
end Go.Proofs.YtlmdchpbpgcfmaaGreatDoor
/- What op.Pack answers. -/
namespace Go.Proofs.YtlmdchpbpgcfmaaGreatDoor
namespace Vf
open Go.ChangeShapes Go.WideShapes Go.ChangeAt Go.RowKit Cm Ka Kb Na Om Oa Oz Oc Og Oi Ov Va Vb Vc Vd Ve
open La (bel bel_drew errV_zero errV_ne own_ge own_grow own_below)
theorem each_step {l:List Ox} {k:Nat} (hk:k<l.length):eachB (l.take (k+1))=eachB (l.take k)++(b2 (bytesB (l.getD k oz)).length++bytesB (l.getD k oz)):=by
 rw[List.take_add_one,List.getElem?_eq_getElem hk,List.getD_eq_getElem?_getD,List.getElem?_eq_getElem hk,eachB_append]
 show _++eachB [l[k]]=_
 unfold eachB;simp
theorem grew_below {w w':World} {B:Nat} {v v':Value} {l:List UInt8} (h:Grew w w' v v') (hr:Row w B v l) (hB:B≤w.heap.size):Below B w w'∧B≤w'.heap.size:=⟨h.below hr hB,Nat.le_trans hB h.1.size⟩
theorem pack_says:PackSays:=by
 intro v l w h hsz
 obtain⟨p,c,rfl,hin,_⟩:=h
 obtain⟨n,hl⟩:∃n,l.length=n:=⟨_,rfl⟩
 rw[hl]
 by_cases h400:400<n
 ·have HE:Hid (errV (packE l)=.iface 84 (.int .i64 4)∧packS l=⟨#[]⟩):=by
   have e:packE l=4:=by unfold packE;rw[hl,if_pos h400]
   refine⟨by rw[e];rfl, ?_⟩
   unfold packS;rw[e,if_neg (by decide)]
  rw[HE.out.1,HE.out.2]
  have hz:(400:Int)<n:=by omega
  clear hl hin hsz h400
  go_enter Tryz.func126,Tryz.ntmps126
  go_wp2_with fail
  go_ret2
  exact⟨rfl,Below.refl _ _⟩
 have hn1:n≤400:=by omega
 have HPE:Hid (packE l=firstE l):=by unfold Hid packE;rw[hl,if_neg h400]
 have HL:=z9 hl
 have HI:=z9 hin
 have HZ:=z9 hsz
 have HB2:Hid (packB l=b2 (n:Int)++eachB l):=by unfold Hid packB;rw[hl]
 have hz:¬(400:Int)<n:=by omega
 clear hl hin hsz h400
 have hn1z:(n:Int)≤400:=by omega
 go_enter Tryz.func126,Tryz.ntmps126
 go_wp2_with fail
 refine(appendTwo_any w.heap.size (.slice none 0 0) [] (n:Int) w (Row.nil _ _) (by omega) (by omega) (by simp) (Nat.le_refl _)).mono ?_
 rintro e w1 ⟨v1,rfl,hr1,hg1⟩
 obtain⟨hb1,hs1⟩:=grew_below hg1 (Row.nil w w.heap.size) (Nat.le_refl _)
 obtain⟨p1,N1,c1,rfl,_⟩:=hr1.shape
 have HR1:=z9 hr1
 have HK1:=z9 hb1
 clear hr1 hb1 hg1
 go_wp2_with fail
 go_loopw [4,18] (fun u i wr=>∃(k:Nat),k≤n∧i=.int .i64 k∧(∃P N C,u=.slice P N C)∧Hid (Row wr w.heap.size u (b2 (n:Int)++eachB (l.take k)))∧Hid (Below w.heap.size w wr)∧w.heap.size≤wr.heap.size∧Hid ((eachB (l.take k)).length≤142*k)∧Hid (firstE (l.drop k)=firstE l)) (fun _ i _=>n-(intOf i).toNat)
 case atStart=>exact⟨0,by omega,rfl,⟨_,_,_,rfl⟩,HR1,HK1,hs1,by simp[Hid,eachB],rfl⟩
 case round=>
  clear HR1 HK1 hs1
  obtain⟨k,hk,rfl,⟨p1,N1,c1,rfl⟩,HR,HK,hsr,HEL,HF⟩:=hrel
  by_cases hlt:k<n
  ·have hltz:(k:Int)<n:=by omega
   obtain⟨b,o,rfl,hc⟩:=HI.out.some (by intro e;have:=HL.out;rw[e] at this;simp at this;omega)
   have hkl:k<l.length:=by rw[HL.out];exact hlt
   have ha:=(hc k hkl).below HK.out
   have hxs:=HZ.out _ (getO_mem hkl)
   have HST:=each_step hkl
   have HFS:=first_step hkl
   obtain⟨x,hx⟩:∃x,x=l.getD k oz:=⟨_,rfl⟩
   rw[←hx] at ha hxs HST HFS
   obtain⟨⟨xa,xb⟩,xt,xp,xc,xs⟩:=x
   obtain⟨vs,⟨a0,a1,a2,a3,a4,a5⟩,hd⟩:=ha
   simp only at a0 a1 a2 a3 a4 a5 hd hxs
   obtain⟨pv,cv,hvs,_⟩:=id hd
   obtain⟨nv,hnv⟩:∃nv,nv=xs.length:=⟨_,rfl⟩
   rw[←hnv] at hvs
   subst hvs
   clear hnv
   have CB:=fun O=>encode_says xa xb xt xp xc _ xs (wr.alloc O) (hd.below ((Below.refl _ wr).alloc (Nat.le_refl _) O)) hxs
   by_cases hx0:opE ((xa,xb),xt,xp,xc,xs)=0
   ·have hby:=bytes_le hx0
    obtain⟨T,hT⟩:∃T,T=bytesS ((xa,xb),xt,xp,xc,xs):=⟨_,rfl⟩
    have hTl:T.toList=bytesB ((xa,xb),xt,xp,xc,xs):=by rw[hT,bytesS_list]
    have hTe:encS ((xa,xb),xt,xp,xc,xs)=T:=by unfold encS;rw[if_pos hx0,hT]
    rw[hTe,hx0,errV_zero] at CB
    rw[←hTl,Om.len_eq] at hby HST
    have HTS:=z9 HST
    have hT140:T.size≤140:=hby.2
    have hT140z:(T.size:Int)≤140:=by omega
    have hTm:T.size≤maxLen:=by unfold maxLen;omega
    have HF2:Hid (firstE (l.drop (k+1))=firstE l):=by
     unfold Hid;rw[←HF.out,HFS,if_neg (by simpa using hx0)]
    have HEL2:Hid ((eachB (l.take (k+1))).length≤142*(k+1)):=by
     unfold Hid
     rw[HTS.out,List.length_append,List.length_append,b2_len,Om.len_eq]
     have:=HEL.out
     omega
    obtain⟨Q,hQ⟩:∃Q,Q=b2 (n:Int)++eachB (l.take k):=⟨_,rfl⟩
    have HQ:Hid (b2 (n:Int)++eachB (l.take (k+1))=(Q++b2 (T.size:Int))++T.toList):=by
     unfold Hid;rw[HTS.out,hQ];simp
    have HQL:Hid (Q.length≤60002):=by unfold Hid;rw[hQ,List.length_append,b2_len];have:=HEL.out;omega
    have HQL1:Hid (Q.length≤1000000):=by unfold Hid;have:=HQL.out;omega
    have HQL2:Hid ((Q++b2 (T.size:Int)).length+T.size≤1000000000):=by unfold Hid;rw[List.length_append,b2_len];have:=HQL.out;omega
    rw[←hQ] at HR
    clear hc hx hx0 HST hT hTl hby hd hkl hQ hTe HFS hxs
    go_wp2_with fail
    refine(CB _).mono ?_
    rintro e w2 ⟨rfl,hb2⟩
    have hb2':=bel_new HK.out hb2
    have HR2:Hid (Row w2 w.heap.size (.slice p1 N1 c1) Q):=(Row.alloc HR.out _).below hb2
    have HK2:=z9 hb2'
    have hs2:w.heap.size≤w2.heap.size:=hb2'.size
    clear hb2 hb2' CB a0 a1 a2 a3 a4 a5
    go_wp2_with fail
    refine(appendTwo_any w.heap.size (.slice p1 N1 c1) Q (T.size:Int) w2 HR2.out (by omega) (by omega) HQL1.out hs2).mono ?_
    rintro e w3 ⟨v3,rfl,hr3,hg3⟩
    obtain⟨hb3,hs3⟩:=grew_below hg3 HR2.out hs2
    obtain⟨p3,N3,c3,rfl,_⟩:=hr3.shape
    have HR3:=z9 hr3
    have HK3:=z9 (HK2.out.trans hb3)
    clear hr3 hb3 hg3
    go_wp2_with (at_builtin;refine wpList_putT _ rfl (.tmp 33) (.tmp 34) rfl w.heap.size (.slice p3 N3 c3) (Q++b2 (T.size:Int)) T rfl HR3.out rfl HQL2.out hs3 ?_;intro v4 w4 hr4 hb4 hs4;obtain⟨p4,N4,c4,rfl,_⟩:=hr4.shape;have HR4:=z9 hr4;have HK4:=z9 (HK3.out.trans hb4);clear hr4 hb4)
    rw[←HQ.out] at HR4
    go_roundw
    case rel=>exact⟨k+1,by omega,by go_num,⟨_,_,_,rfl⟩,HR4,HK4,hs4,HEL2,HF2⟩
    case measure=>simp[intOf];omega
   ·obtain⟨q,hq⟩:∃q,q=opE ((xa,xb),xt,xp,xc,xs):=⟨_,rfl⟩
    have hTe:encS ((xa,xb),xt,xp,xc,xs)=⟨#[]⟩:=by unfold encS;rw[if_neg hx0]
    rw[hTe,errV_ne hx0,←hq] at CB
    have HE:Hid (errV (packE l)=.iface 84 (.int .i64 q)∧packS l=⟨#[]⟩):=by
     have e:packE l=opE ((xa,xb),xt,xp,xc,xs):=by rw[HPE.out,←HF.out,HFS,if_pos hx0]
     refine⟨by rw[e,errV_ne hx0,hq], ?_⟩
     unfold packS;rw[e,if_neg hx0]
    clear hc hx hx0 HST hd hkl hTe HFS hxs hq
    go_wp2_with fail
    refine(CB _).mono ?_
    rintro e w2 ⟨rfl,hb2⟩
    have HK2:=z9 (bel_new HK.out hb2)
    clear hb2 CB a0 a1 a2 a3 a4 a5
    go_wp2_with fail
    go_ret2
    exact⟨by rw[HE.out.1,HE.out.2];rfl,HK2.out⟩
  ·obtain rfl:n=k:=by omega
   have hltz:¬(n:Int)<n:=by omega
   rw[List.take_of_length_le (by rw[HL.out];exact Nat.le_refl _),←HB2.out] at HR
   have hcv:=HR.out.reads (by rw[HB2.out];simp[b2])
   have HE:Hid (errV (packE l)=.nilIface∧packS l=⟨(packB l).toArray⟩):=by
    have h9:=HF.out
    rw[List.drop_of_length_le (by rw[HL.out];exact Nat.le_refl _)] at h9
    have e:packE l=0:=by rw[HPE.out,←h9];rfl
    refine⟨by rw[e];exact errV_zero, ?_⟩
    unfold packS;rw[e,if_pos rfl]
   rw[←HE.out.2] at hcv
   obtain⟨T,hT⟩:∃T,T=packS l:=⟨_,rfl⟩
   rw[←hT] at hcv
   have HT:=z9 hT
   clear hT hlt hk
   go_wp2_with fail
   go_ret2
   exact⟨by rw[HE.out.1,←HT.out];rfl,HK.out⟩
end Vf
end Go.Proofs.YtlmdchpbpgcfmaaGreatDoor
