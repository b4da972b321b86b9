import Derived.Test.YtlmdchpbpgcfmaaGreatDoorJ2
import Derived.Lib.AppendZeros
import Derived.Deep.RegionWith
import Derived.RegionTactic
import Derived.BigRegion
import Derived.Laws.StructEq
set_option linter.unusedVariables false
set_option maxRecDepth 100000
set_option maxHeartbeats 8000000
/- What slices.Clone, slices.Grow and slices.Concat answer, of leafs. -/
namespace Go.Proofs.YtlmdchpbpgcfmaaGreatDoor
namespace Lh
open Go.ChangeShapes Go.WideShapes Go.ChangeAt Go.RowKit Bm Ka Kb La Lb Lc Ld Le Lf Lg
theorem infoLeaf:(Tryz.prog.info? 53).map (fun i=>(i.zero,i.size,i.bytes))=some (some (.agg #[.string ⟨#[]⟩,.int .i64 0,.bool false]),3,32):=by kernel_rfl
/- leafs that lie behind a slice's address -/
def Part (w:World) (v:Value) (l:List Leaf):Prop:=(v=.slice none 0 0∧l=[])∨∃ad c,v=.slice (some ad) l.length c∧∀i u,(flat l)[i]? =some u→w.cell? (ad.add i)=some u
theorem Part.below {w w':World} {v:Value} {l:List Leaf} (h:Part w v l) (hb:Below w.heap.size w w'):Part w' v l:=by
 rcases h with h | ⟨ad,c,h1,h2⟩
 ·exact Or.inl h
 ·exact Or.inr ⟨ad,c,h1,fun i u hu=>(hb.cell (World.block_lt_of_cell? _ _ (h2 i u hu))).trans (h2 i u hu)⟩
theorem Part.len {w:World} {v:Value} {l:List Leaf} (h:Part w v l):∃p c,v=.slice p l.length c:=by
 rcases h with⟨rfl,rfl⟩ | ⟨ad,c,rfl,_⟩
 ·exact⟨none,0,rfl⟩
 ·exact⟨some ad,c,rfl⟩
theorem LeafsIn.part {w:World} {b o:Nat} {l:List Leaf} (c:Nat) (h:∀j,j<l.length→At w b o j (l.getD j none0)):Part w (.slice (some ⟨b,o,none⟩) l.length c) l:=
 Or.inr ⟨_,c,rfl,fun i u hu=>by rw[Addr.add_lit];exact at_flat h i u hu⟩
def cat (L:Nat→List Leaf) (k:Nat):List Leaf:=(List.range k).flatMap L
theorem cat_succ (L:Nat→List Leaf) (k:Nat):cat L (k+1)=cat L k++L k:=by
 unfold cat;rw[List.range_succ,List.flatMap_append];simp
theorem cat_le {L:Nat→List Leaf} {i j:Nat} (h:i≤j):(cat L i).length≤(cat L j).length:=by
 induction h with
 | refl=>exact Nat.le_refl _
 | step _ ih=>rw[cat_succ,List.length_append];omega
theorem clone_any (b o n c:Nat) (l:List Leaf) (w:World) (hl:l.length=n) (hn2:n≤1048576) (hc:∀j,j<l.length→At w b o j (l.getD j none0)):
  Calls Tryz.prog 50 #[.slice (some ⟨b,o,none⟩) n c] w fun e w'=>∃v,e=.returned v∧w'.ownsRow w.heap.size 53 3 v n (flat l)∧Below w.heap.size w w':=by
 obtain⟨i0,hi,hz0,hz1,hz2⟩:=info_parts infoLeaf
 have HN:Hid (∀j u,(flat l)[j]? =some u→(w.alloc (.cells #[] 53)).cell? ((⟨b,o,none⟩:Addr).add j)=some u):=by
  intro j u hu
  rw[Addr.add_lit]
  exact old_one _ _ _ _ (at_flat hc j u hu)
 have HL:=z9 hl
 have HO:Hid ((w.alloc (.cells #[] 53)).ownsRow w.heap.size 53 3 (.slice (some ⟨w.heap.size,0,none⟩) 0 0) 0 []):=
  ⟨rfl,Or.inr ⟨w.heap.size,0,#[],rfl,Nat.le_refl _,heap_alloc_new w _,Nat.le_refl _,by unfold maxLen;omega,rfl,rfl⟩⟩
 have heq:∀(a:Addr) (n c:Nat) (w:World),Sem.run Tryz.prog (binOp .eql 44 (.slice (some a) n c) (.slice none 0 0)) w=.ok (.bool false) w:=fun _ _ _ _=>by kernel_rfl
 clear hc hl
 go_enter Tryz.func50,Tryz.ntmps50
 go_wp2_with (at_builtin;refine wpList_append_own_at _ rfl (.tmp 5) (.tmp 6) 44 rfl w.heap.size 53 i0 (.agg #[.string ⟨#[]⟩,.int .i64 0,.bool false]) 3 32 Tryz.underlying44 hi hz0 hz1 hz2 rfl (by decide) (.slice (some ⟨w.heap.size,0,none⟩) 0 0) 0 [] rfl HO.out ⟨b,o,none⟩ n c (flat l) rfl (by rw[flat_length,HL.out]) HN.out (flat_one l) (by unfold maxLen;omega) (by omega) (by simp) ?_;intro v' w1 hown' hgrow _ hat;have HOW:Hid (w1.ownsRow w.heap.size 53 3 v' n (flat l)):=(by have h9:=hown';rw[Nat.zero_add,List.nil_append] at h9;exact h9);have HGR:Hid (Below w.heap.size w w1):=((Below.refl _ w).alloc (Nat.le_refl _) (.cells #[] 53)).grown hgrow (by simp) (by intro j hj;simp[Value.ownBlock] at hj;omega);clear hown' hgrow hat)
 go_ret
 exact⟨_,rfl,HOW.out,HGR.out⟩
theorem grow_any (n:Nat) (w:World) (h0:0<n) (hn:n≤1048576):
  Calls Tryz.prog 214 #[.slice none 0 0,.int .i64 n] w fun e w'=>∃v,e=.returned v∧w'.ownsRow w.heap.size 53 3 v 0 []∧Below w.heap.size w w':=by
 obtain⟨i0,hi,hz0,hz1,hz2⟩:=info_parts infoLeaf
 have hr:=Lib.run_append_nil_zeros (P:=Tryz.prog) w 44 3 44 53 i0 _ .i64 .i64 Tryz.underlying44 Tryz.underlying3 hi hz0 n h0 (by rw[hz1];decide) (by omega) (by rw[hz2];omega)
 have hcp:=grownCap_le_maxLen w n 0 53 (by unfold maxLen;omega)
 have hcg:=grownCap_ge w n 0 53
 obtain⟨cap,hcap⟩:∃cap,cap=grownCap w n 0 53:=⟨_,rfl⟩
 rw[←hcap] at hr hcp hcg
 have hcp2:cap≤9223372036854775807:=by unfold maxLen at hcp;omega
 obtain⟨cells,hcells⟩:∃cells,cells=Builtin.zeroCells (Value.agg #[.string ⟨#[]⟩,.int .i64 0,.bool false]).cells n++Builtin.zeroCells (Value.agg #[.string ⟨#[]⟩,.int .i64 0,.bool false]).cells (cap-n):=⟨_,rfl⟩
 have hsz:cells.size=cap*3:=by
  rw[hcells,Array.size_append,size_zeroCells,size_zeroCells]
  have:(Value.agg #[.string ⟨#[]⟩,.int .i64 0,.bool false]).cells.size=3:=rfl
  rw[this];omega
 rw[←hcells] at hr
 have HO:Hid ((w.drew.alloc (.cells cells 53)).ownsRow w.heap.size 53 3 (.slice (some ⟨w.heap.size,0,none⟩) 0 cap) 0 []):=
  ⟨rfl,Or.inr ⟨w.heap.size,cap,cells,rfl,Nat.le_refl _,heap_alloc_new w.drew _,Nat.zero_le _,hcp,hsz,rfl⟩⟩
 have HB:Hid (Below w.heap.size w (w.drew.alloc (.cells cells 53))):=((Below.refl _ w).drew).alloc (Nat.le_refl _) _
 have hnz:¬(n:Int)<0:=by omega
 have hnp:(0:Int)<n:=by omega
 clear hcells hcap hcp hsz
 go_enter Tryz.func214,Tryz.ntmps214
 go_wp2_with (at_builtin;refine Lib.wpList_append_run _ rfl _ _ _ _ rfl _ _ rfl rfl _ _ hr ?_)
 go_ret
 exact⟨_,rfl,HO.out,HB.out⟩
end Lh
end Go.Proofs.YtlmdchpbpgcfmaaGreatDoor
/- What slices.Concat answers, of three rows of leafs. -/
namespace Go.Proofs.YtlmdchpbpgcfmaaGreatDoor
namespace Li
open Go.ChangeShapes Go.WideShapes Go.ChangeAt Go.RowKit Bm Ka Kb La Lb Lc Ld Le Lf Lg Lh
theorem own_cat {w:World} {base:Nat} {t:TypeId} {v:Value} {L:Nat→List Leaf} {k:Nat} (h:w.ownsRow base t 3 v ((cat L k).length+(L k).length) (flat (cat L k)++flat (L k))):w.ownsRow base t 3 v (cat L (k+1)).length (flat (cat L (k+1))):=by
 rw[cat_succ,List.length_append,flat_append];exact h
theorem concat_any (g:Nat) (V:Nat→Value) (L:Nat→List Leaf) (w:World) (hV:∀j,j<3→w.cell? ⟨g,j,none⟩=some (V j)) (hP:∀j,j<3→Part w (V j) (L j)) (h0:0<(cat L 3).length) (hn:(cat L 3).length≤1048576):
  Calls Tryz.prog 197 #[.slice (some ⟨g,0,none⟩) 3 3] w fun e w'=>∃v,e=.returned v∧w'.ownsRow w.heap.size 53 3 v (cat L 3).length (flat (cat L 3))∧Below w.heap.size w w':=by
 obtain⟨i0,hi,hz0,hz1,hz2⟩:=info_parts infoLeaf
 have HV:=z9 hV
 have HP:=z9 hP
 have HLE:Hid (∀k,k≤3→(cat L k).length≤(cat L 3).length):=fun k hk=>cat_le hk
 obtain⟨T,hT⟩:∃T,T=(cat L 3).length:=⟨_,rfl⟩
 rw[←hT] at h0 hn HLE ⊢
 have HT:=z9 hT
 clear hV hP hT
 go_enter Tryz.func197,Tryz.ntmps197
 go_wp2
 go_loop [3,5,11] (fun s _ i=>∃(k m:Nat),k≤3∧i=.int .i64 k∧s=.int .i64 m∧Hid (m=(cat L k).length)) (fun _ _ i=>3-(intOf i).toNat)
 case atStart=>exact⟨0,0,by omega,rfl,rfl,rfl⟩
 case round=>
  obtain⟨k,m,hk,rfl,rfl,HM⟩:=hrel
  have hm:m≤1048576:=by have h1:=HLE.out k hk;have h2:=HM.out;omega
  by_cases hlt:k<3
  ·have hltz:(k:Int)<3:=by omega
   have d1:=HV.out k hlt
   obtain⟨p,c,hp⟩:=(HP.out k hlt).len
   obtain⟨r,hr⟩:∃r,r=(L k).length:=⟨_,rfl⟩
   rw[hp,←hr] at d1
   have HM2:Hid (m+r=(cat L (k+1)).length):=by unfold Hid;rw[cat_succ,List.length_append,HM.out,hr]
   have hmr:m+r≤1048576:=by have h1:=HLE.out (k+1) hlt;have h2:=HM2.out;omega
   have hneg:¬(m:Int)+r<0:=by omega
   clear hp hr
   go_wp2_with fail
   go_round
   case rel=>exact⟨k+1,m+r,by omega,by go_num,by go_num,HM2⟩
   case measure=>simp[intOf];omega
  ·obtain rfl:k=3:=by omega
   obtain rfl:m=T:=by rw[HT.out];exact HM.out
   have C:=grow_any m w h0 hn
   go_wp2_with fail
   refine C.mono ?_
   rintro e w1 ⟨v1,rfl,ho1,hb1⟩
   have HO1:=z9 ho1
   have HB1:=z9 hb1
   clear C ho1 hb1
   go_wp2_with fail
   go_loopw [6,8,27] (fun v _ i wr=>∃(k:Nat),k≤3∧i=.int .i64 k∧Hid (wr.ownsRow w.heap.size 53 3 v (cat L k).length (flat (cat L k)))∧Hid (Below w.heap.size w wr)) (fun _ _ i _=>3-(intOf i).toNat)
   case atStart=>exact⟨0,by omega,rfl,HO1,HB1⟩
   case round=>
    clear HO1 HB1
    obtain⟨k,hk,rfl,HO,HB⟩:=hrel
    by_cases hlt:k<3
    ·have hltz:(k:Int)<3:=by omega
     have hll:=HLE.out (k+1) hlt
     rw[cat_succ,List.length_append] at hll
     have d0:=HV.out k hlt
     have d1:wr.cell? ⟨g,k,none⟩=some (V k):=(HB.out.cell (p:=⟨g,k,none⟩) (World.block_lt_of_cell? _ _ d0)).trans d0
     clear d0
     rcases(HP.out k hlt).below HB.out with⟨hv,hl0⟩ | ⟨ad,c,hv,hcc⟩
     ·rw[hv] at d1
      have hap:=run_append_owned_none (P:=Tryz.prog) (w:=wr) w.heap.size 44 44 53 i0 3 Tryz.underlying44 hi u6 _ _ HO.out
      have HO2:Hid (wr.ownsRow w.heap.size 53 3 u6 (cat L (k+1)).length (flat (cat L (k+1)))):=by
       unfold Hid;rw[cat_succ,hl0,List.append_nil];exact HO.out
      clear hv hl0 hll
      go_wp2_with (at_builtin;refine Lib.wpList_append_run _ rfl _ _ _ _ rfl _ _ rfl rfl _ _ hap ?_)
      go_roundw
      case rel=>exact⟨k+1,by omega,by go_num,HO2,HB⟩
      case measure=>simp[intOf];omega
     ·rw[hv] at d1
      obtain⟨r,hr⟩:∃r,r=(L k).length:=⟨_,rfl⟩
      rw[←hr] at d1 hll
      have HFL:Hid ((flat (L k)).length=r*3):=by unfold Hid;rw[flat_length,hr]
      have HCC:=z9 hcc
      have HR:=z9 hr
      clear hv hcc hr
      go_wp2_with (at_builtin;refine wpList_append_own_at _ rfl (.tmp 31) (.tmp 32) 44 rfl w.heap.size 53 i0 (.agg #[.string ⟨#[]⟩,.int .i64 0,.bool false]) 3 32 Tryz.underlying44 hi hz0 hz1 hz2 rfl (by decide) u6 _ _ rfl HO.out ad r c (flat (L k)) rfl HFL.out HCC.out (flat_one _) (by unfold maxLen;omega) (by omega) HB.out.size ?_;intro v' w3 hown' hgrow _ hat;have HB3:Hid (Below w.heap.size w w3):=(own_grow HO.out HB.out hgrow HB.out.size);have HO3:Hid (w3.ownsRow w.heap.size 53 3 v' (cat L (k+1)).length (flat (cat L (k+1)))):=(by rw[HR.out] at hown';exact own_cat hown');clear hown' hgrow hat)
      go_roundw
      case rel=>exact⟨k+1,by omega,by go_num,HO3,HB3⟩
      case measure=>simp[intOf];omega
    ·obtain rfl:k=3:=by omega
     go_wp2_with fail
     go_ret
     exact⟨_,rfl,by rw[HT.out];exact HO.out,HB.out⟩
end Li
end Go.Proofs.YtlmdchpbpgcfmaaGreatDoor
/- What book.put answers. -/
namespace Go.Proofs.YtlmdchpbpgcfmaaGreatDoor
namespace Lj
open Go.ChangeShapes Go.WideShapes Go.ChangeAt Go.RowKit Bm Ka Kb La Lb Lc Ld Le Lf Lg Lh Li
/- a book as a value -/
def BookAt (w:World) (v:Value) (l:List Leaf):Prop:=∃p c,v=.slice p l.length c∧LeafsIn w p l∧l.length≤c∧c≤maxLen∧(p=none→c=0)
theorem BookAt.below {w w':World} {v:Value} {l:List Leaf} (h:BookAt w v l) (hb:Below w.heap.size w w'):BookAt w' v l:=by
 obtain⟨p,c,h1,h2,h3⟩:=h
 exact⟨p,c,h1,h2.below hb,h3⟩
theorem BookAt.nil (w:World):BookAt w (.slice none 0 0) []:=⟨none,0,rfl,Or.inl rfl,Nat.le_refl _,by unfold maxLen;omega,fun _=>rfl⟩
/- a book that lies from block B on -/
def BookNew (B:Nat) (w:World) (v:Value) (l:List Leaf):Prop:=BookAt w v l∧Lies B v
theorem BookNew.mono {B C:Nat} {w:World} {v:Value} {l:List Leaf} (h:BookNew B w v l) (hC:C≤B):BookNew C w v l:=⟨h.1,h.2.mono hC⟩
theorem BookNew.nil (B:Nat) (w:World):BookNew B w (.slice none 0 0) []:=⟨BookAt.nil w,Lies.nil B⟩
theorem own_at {w:World} {base:Nat} {t:TypeId} {v:Value} {n:Nat} {l:List Leaf} (h:w.ownsRow base t 3 v n (flat l)):BookAt w v l:=by
 obtain⟨hn,p,c,hv,hl⟩:=own_book h
 refine⟨p,c,by rw[hn];exact hv,hl, ?_⟩
 rcases h.2 with⟨e,e0⟩ | ⟨g,cap,cur,e,_,_,h3,h4,_⟩
 ·rw[hv] at e
  injection e with e1 e2 e3
  exact⟨by omega,by rw[e3];unfold maxLen;omega,fun _=>e3⟩
 ·rw[hv] at e
  injection e with e1 e2 e3
  exact⟨by omega,by omega,fun h9=>by rw[h9] at e1;cases e1⟩
theorem put_set {l:List Leaf} {p:ByteArray} (hh:has l p.toList=true) (x:Leaf):putL l p x=l.set (ahd l p.toList) x:=by
 unfold putL
 rw[hh,if_pos rfl]
 unfold has at hh;rw[Bool.and_eq_true,decide_eq_true_eq] at hh
 rw[List.set_eq_take_append_cons_drop,if_pos hh.1]
/- a leaf of a row of the call's own, written anew -/
theorem set_leaf {w:World} {g i:Nat} {l:List Leaf} {x:Leaf} (hi:i<l.length) (hc:∀j,j<l.length→At w g 0 j (l.getD j none0)):
  ∀j,j<(l.set i x).length→At (((w.setCell ⟨g,i*3,none⟩ (.string x.1)).setCell ⟨g,i*3+1,none⟩ (.int .i64 x.2.1)).setCell ⟨g,i*3+2,none⟩ (.bool x.2.2)) g 0 j ((l.set i x).getD j none0):=by
 intro j hj
 rw[List.length_set] at hj
 by_cases h:j=i
 ·subst h
  have e:(l.set j x).getD j none0=x:=by rw[List.getD_eq_getElem?_getD,List.getElem?_set_self hj];rfl
  obtain⟨a1,a2,a3⟩:=hc j hj
  rw[Nat.zero_add] at a1 a2 a3
  rw[e]
  unfold At
  rw[Nat.zero_add]
  have n1:(⟨g,j*3,none⟩:Addr)≠⟨g,j*3+1,none⟩:=by intro e;injection e;omega
  have n2:(⟨g,j*3,none⟩:Addr)≠⟨g,j*3+2,none⟩:=by intro e;injection e;omega
  have n3:(⟨g,j*3+1,none⟩:Addr)≠⟨g,j*3+2,none⟩:=by intro e;injection e;omega
  refine⟨?_, ?_, ?_⟩
  ·rw[World.cell?_setCell_other _ _ _ _ n2.symm,World.cell?_setCell_other _ _ _ _ n1.symm,World.cell?_setCell_same _ _ _ a1]
  ·rw[World.cell?_setCell_other _ _ _ _ n3.symm]
   obtain⟨u,hu⟩:=cell?_setCell_some (x:=.string x.1) (p:=⟨g,j*3,none⟩) a2
   rw[World.cell?_setCell_same _ _ _ hu]
  ·obtain⟨u,hu⟩:=cell?_setCell_some (x:=.string x.1) (p:=⟨g,j*3,none⟩) a3
   obtain⟨u2,hu2⟩:=cell?_setCell_some (x:=.int .i64 x.2.1) (p:=⟨g,j*3+1,none⟩) hu
   rw[World.cell?_setCell_same _ _ _ hu2]
 ·have e:(l.set i x).getD j none0=l.getD j none0:=by rw[List.getD_eq_getElem?_getD,List.getD_eq_getElem?_getD,List.getElem?_set_ne (by omega)]
  rw[e]
  obtain⟨a1,a2,a3⟩:=hc j hj
  unfold At
  refine⟨?_, ?_, ?_⟩
  ·rw[World.cell?_setCell_other _ _ _ _ (by intro e;injection e;omega),World.cell?_setCell_other _ _ _ _ (by intro e;injection e;omega),World.cell?_setCell_other _ _ _ _ (by intro e;injection e;omega)];exact a1
  ·rw[World.cell?_setCell_other _ _ _ _ (by intro e;injection e;omega),World.cell?_setCell_other _ _ _ _ (by intro e;injection e;omega),World.cell?_setCell_other _ _ _ _ (by intro e;injection e;omega)];exact a2
  ·rw[World.cell?_setCell_other _ _ _ _ (by intro e;injection e;omega),World.cell?_setCell_other _ _ _ _ (by intro e;injection e;omega),World.cell?_setCell_other _ _ _ _ (by intro e;injection e;omega)];exact a3
theorem put_has (q:Option Addr) (n c:Nat) (l:List Leaf) (sx:ByteArray) (nx:Int) (bx:Bool) (w:World) (hl:l.length=n) (h:LeafsIn w q l) (hr:Rise l) (hn:n≤300) (hh:has l sx.toList=true):
  Calls Tryz.prog 179 #[.slice q n c,.agg #[.string sx,.int .i64 nx,.bool bx]] w fun e w'=>∃v,e=.returned (.tuple #[v,.nilIface])∧BookNew w.heap.size w' v (putL l sx (sx,nx,bx))∧Below w.heap.size w w':=by
 have hin:ahd l sx.toList<l.length:=by unfold has at hh;rw[Bool.and_eq_true,decide_eq_true_eq] at hh;exact hh.1
 have HPS:Hid (putL l sx (sx,nx,bx)=l.set (ahd l sx.toList) (sx,nx,bx)):=put_set hh _
 have hb1:Below w.heap.size w (w.alloc (.cells #[.string sx,.int .i64 nx,.bool bx] 53)):=(Below.refl _ w).alloc (Nat.le_refl _) _
 have C:=find_any q n c l sx _ hl (h.below hb1) hr (by omega)
 rw[hh] at C
 obtain⟨b,o,rfl,hc⟩:=h.some (by rintro rfl;simp at hin)
 have HCL:Hid (∀w2,Below w.heap.size w w2→Calls Tryz.prog 50 #[.slice (some ⟨b,o,none⟩) n c] w2 fun e w'=>∃v,e=.returned v∧w'.ownsRow w2.heap.size 53 3 v n (flat l)∧Below w2.heap.size w2 w'):=
  fun w2 hb=>clone_any b o n c l w2 hl (by omega) (fun j hj=>(hc j hj).below hb (hc j hj).lt)
 obtain⟨i,hi⟩:∃i,i=ahd l sx.toList:=⟨_,rfl⟩
 rw[←hi] at C HPS hin
 have HL:=z9 hl
 have HIN:=z9 hin
 have hinz:(i:Int)<n:=by omega
 have HB1:=z9 hb1
 clear hl h hr hh hi hb1 hc hin
 go_enter Tryz.func179,Tryz.ntmps179
 go_wp2_with fail
 refine C.mono ?_
 rintro e w2 ⟨rfl,hb2⟩
 have HB2:=z9 (bel HB1.out hb2)
 have d:=new_cell (x:=(sx,nx,bx)) hb2
 simp only at d
 have HDD:=z9 d
 have HLT:Hid (w.heap.size<w2.heap.size):=by have:=hb2.size;simp at this;unfold Hid;omega
 have C2:=HCL.out w2 HB2.out
 clear hb2 C d
 go_wp2_with fail
 refine C2.mono ?_
 rintro e w3 ⟨v,rfl,ho3,hb3⟩
 have HB3:=z9 (bel HB2.out hb3)
 obtain⟨d0,d1,d2⟩:=HDD.out
 have e0:=(hb3.cell (p:=⟨w.heap.size,0,none⟩) HLT.out).trans d0
 have e1:=(hb3.cell (p:=⟨w.heap.size,1,none⟩) HLT.out).trans d1
 have e2:=(hb3.cell (p:=⟨w.heap.size,2,none⟩) HLT.out).trans d2
 obtain⟨_,p3,c3,rfl,hlf⟩:=own_book ho3
 rcases ho3.2 with⟨e,e9⟩ | ⟨g,cap,cur,e,hg,hcur,h3,h4,_⟩
 ·exfalso;omega
 injection e with e5 e6 e7
 subst e5 e7
 obtain⟨b4,o4,hp4,hc4⟩:=hlf.some (by rintro rfl;have:=HIN.out;simp at this)
 injection hp4 with hp4
 injection hp4 with hp4 hp5
 subst hp4 hp5
 have HC4:=z9 hc4
 have HCAP:Hid (n≤c3∧c3≤maxLen∧w.heap.size≤g):=⟨h3,h4,by have:=HLT.out;omega⟩
 obtain⟨a1,a2,a3⟩:=hc4 i HIN.out
 rw[Nat.zero_add] at a1 a2 a3
 have f1:w3.frozen? ⟨g,i*3,none⟩=false:=by simp[World.frozen?,hcur]
 have f2:w3.frozen? ⟨g,i*3+1,none⟩=false:=by simp[World.frozen?,hcur]
 have f3:w3.frozen? ⟨g,i*3+2,none⟩=false:=by simp[World.frozen?,hcur]
 obtain⟨y1,hy1⟩:∃y,y=Value.string (l.getD i none0).1:=⟨_,rfl⟩
 obtain⟨y2,hy2⟩:∃y,y=Value.int .i64 (l.getD i none0).2.1:=⟨_,rfl⟩
 obtain⟨y3,hy3⟩:∃y,y=Value.bool (l.getD i none0).2.2:=⟨_,rfl⟩
 rw[←hy1] at a1
 rw[←hy2] at a2
 rw[←hy3] at a3
 clear hb3 C2 d0 d1 d2 ho3 hlf hcur h3 h4 hc4 hy1 hy2 hy3 e6
 go_wp2_with fail
 go_ret2
 refine⟨_,rfl,⟨⟨some ⟨g,0,none⟩,c3, ?_,Or.inr ⟨g,0,rfl, ?_⟩, ?_,HCAP.out.2.1,fun h=>by cases h⟩,Lies.at HCAP.out.2.2⟩, ?_⟩
 ·rw[HPS.out,List.length_set,HL.out];rfl
 ·rw[HPS.out];exact set_leaf (x:=(sx,nx,bx)) HIN.out HC4.out
 ·rw[HPS.out,List.length_set,HL.out];exact HCAP.out.1
 ·exact((HB3.out.setCell (p:=⟨g,i*3,none⟩) HCAP.out.2.2 _).setCell (p:=⟨g,i*3+1,none⟩) HCAP.out.2.2 _).setCell (p:=⟨g,i*3+2,none⟩) HCAP.out.2.2 _
theorem put_full (q:Option Addr) (n c:Nat) (l:List Leaf) (sx:ByteArray) (nx:Int) (bx:Bool) (w:World) (hl:l.length=n) (h:LeafsIn w q l) (hr:Rise l) (hn:n≤1048576) (hh:has l sx.toList=false) (h300:300≤n):
  Calls Tryz.prog 179 #[.slice q n c,.agg #[.string sx,.int .i64 nx,.bool bx]] w fun e w'=>e=.returned (.tuple #[.slice none 0 0,.iface 84 (.int .i64 4)])∧Below w.heap.size w w':=by
 have hb1:Below w.heap.size w (w.alloc (.cells #[.string sx,.int .i64 nx,.bool bx] 53)):=(Below.refl _ w).alloc (Nat.le_refl _) _
 have C:=find_any q n c l sx _ hl (h.below hb1) hr (by omega)
 rw[hh] at C
 obtain⟨i,hi⟩:∃i,i=ahd l sx.toList:=⟨_,rfl⟩
 rw[←hi] at C
 have hz:(300:Int)≤n:=by omega
 have HB1:=z9 hb1
 clear hl h hr hh hi hb1
 go_enter Tryz.func179,Tryz.ntmps179
 go_wp2_with fail
 refine C.mono ?_
 rintro e w2 ⟨rfl,hb2⟩
 have HB2:=z9 (bel HB1.out hb2)
 clear hb2 C
 go_wp2_with fail
 go_ret2
 exact⟨rfl,HB2.out⟩
/- the three rows as they lie in memory when slices.Concat is called -/
def threeW (w2:World) (x:Leaf) (v0 v2:Value):World:=((w2.alloc (.cells #[.string x.1,.int .i64 x.2.1,.bool x.2.2] 53)).alloc (.cells #[v0,.slice (some ⟨w2.heap.size,0,none⟩) 1 1,v2] 44)).drew
theorem three_below (w2:World) (x:Leaf) (v0 v2:Value):Below w2.heap.size w2 (threeW w2 x v0 v2):=
 ((((Below.refl _ w2).alloc (Nat.le_refl _) _).alloc (by simp) _).drew)
theorem concat_three (w2:World) (x:Leaf) (v0 v2:Value) (l0 l2:List Leaf) (h0:Part w2 v0 l0) (h2:Part w2 v2 l2) (hn:(l0++x::l2).length≤1048576):
  Calls Tryz.prog 197 #[.slice (some ⟨w2.heap.size+1,0,none⟩) 3 3] (threeW w2 x v0 v2) fun e w'=>∃v,e=.returned v∧BookNew w2.heap.size w' v (l0++x::l2)∧Below w2.heap.size w2 w':=by
 have hb:=three_below w2 x v0 v2
 have hg:(threeW w2 x v0 v2).heap[w2.heap.size+1]? =some (.cells #[v0,.slice (some ⟨w2.heap.size,0,none⟩) 1 1,v2] 44):=by
  have:=heap_alloc_new (w2.alloc (.cells #[.string x.1,.int .i64 x.2.1,.bool x.2.2] 53)) (.cells #[v0,.slice (some ⟨w2.heap.size,0,none⟩) 1 1,v2] 44)
  have e:(w2.alloc (.cells #[.string x.1,.int .i64 x.2.1,.bool x.2.2] 53)).heap.size=w2.heap.size+1:=by simp
  rw[e] at this
  exact this
 have hx:(threeW w2 x v0 v2).heap[w2.heap.size]? =some (.cells #[.string x.1,.int .i64 x.2.1,.bool x.2.2] 53):=by
  have:=heap_alloc_old (w2.alloc (.cells #[.string x.1,.int .i64 x.2.1,.bool x.2.2] 53)) (.cells #[v0,.slice (some ⟨w2.heap.size,0,none⟩) 1 1,v2] 44) (show w2.heap.size<_ by simp)
  exact this.trans (heap_alloc_new w2 _)
 have e3:cat (fun j=>if j=0 then l0 else if j=1 then[x] else l2) 3=l0++x::l2:=by simp[cat,List.range_succ]
 have C:=concat_any (w2.heap.size+1) (fun j=>if j=0 then v0 else if j=1 then .slice (some ⟨w2.heap.size,0,none⟩) 1 1 else v2) (fun j=>if j=0 then l0 else if j=1 then[x] else l2) (threeW w2 x v0 v2) (by
   intro j hj
   match j,hj with
   | 0,_=>simp only[World.cell?,hg];rfl
   | 1,_=>simp only[World.cell?,hg];rfl
   | 2,_=>simp only[World.cell?,hg];rfl) (by
   intro j hj
   match j,hj with
   | 0,_=>exact h0.below hb
   | 1,_=>
    refine Or.inr ⟨⟨w2.heap.size,0,none⟩,1,rfl,fun i u hu=> ?_⟩
    rw[Addr.add_lit,Nat.zero_add]
    simp only[World.cell?,hx]
    have e:flat [x]=[.string x.1,.int .i64 x.2.1,.bool x.2.2]:=rfl
    have hu2:(flat [x])[i]? =some u:=hu
    rw[e] at hu2
    simpa using hu2
   | 2,_=>exact h2.below hb) (by rw[e3];simp;omega) (by rw[e3];exact hn)
 refine C.mono ?_
 rintro e w' ⟨v,rfl,ho,hb2⟩
 rw[e3] at ho
 exact⟨v,rfl,⟨own_at ho,(Lies.own ho).mono hb.size⟩,bel hb hb2⟩
theorem take_part {w:World} {b o i c:Nat} {l:List Leaf} (hi:i≤l.length) (h:∀j,j<l.length→At w b o j (l.getD j none0)):Part w (.slice (some ⟨b,o,none⟩) i c) (l.take i):=by
 have e:(l.take i).length=i:=by rw[List.length_take];omega
 have:=LeafsIn.part (w:=w) (b:=b) (o:=o) (l:=l.take i) c (fun j hj=>by
  rw[e] at hj
  have:(l.take i).getD j none0=l.getD j none0:=by
   rw[List.getD_eq_getElem?_getD,List.getD_eq_getElem?_getD,List.getElem?_take_of_lt hj]
  rw[this];exact h j (by omega))
 rw[e] at this;exact this
theorem drop_part {w:World} {b o i c n:Nat} {l:List Leaf} {ad:Addr} (hl:l.length=n) (hi:i≤n) (hc:n≤c) (had:(if c=i then some (⟨b,o,none⟩:Addr) else some ⟨b,o+i*3,none⟩)=some ad) (h:∀j,j<l.length→At w b o j (l.getD j none0)):Part w (.slice (some ad) (n-i) (c-i)) (l.drop i):=by
 have e:(l.drop i).length=n-i:=by rw[List.length_drop,hl]
 by_cases hci:c=i
 ·have e0:l.drop i=[]:=List.drop_of_length_le (by omega)
  have e1:n-i=0:=by omega
  rw[e0,e1]
  exact Or.inr ⟨ad,c-i,rfl,fun j u hu=>by simp[flat] at hu⟩
 ·rw[if_neg hci] at had
  injection had with had
  subst had
  have:=LeafsIn.part (w:=w) (b:=b) (o:=o+i*3) (l:=l.drop i) (c-i) (fun j hj=>by
   rw[e] at hj
   have e2:(l.drop i).getD j none0=l.getD (i+j) none0:=by
    rw[List.getD_eq_getElem?_getD,List.getD_eq_getElem?_getD,List.getElem?_drop]
   rw[e2]
   have h3:=h (i+j) (by omega)
   unfold At at h3 ⊢
   rw[show o+i*3+j*3=o+(i+j)*3 by omega]
   exact h3)
  rw[e] at this;exact this
theorem put_new (b o n c:Nat) (l:List Leaf) (sx:ByteArray) (nx:Int) (bx:Bool) (w:World) (hl:l.length=n) (hn0:0<n) (h:∀j,j<l.length→At w b o j (l.getD j none0)) (hr:Rise l) (hn:n<300) (hc:n≤c) (hcm:c≤maxLen) (hh:has l sx.toList=false):
  Calls Tryz.prog 179 #[.slice (some ⟨b,o,none⟩) n c,.agg #[.string sx,.int .i64 nx,.bool bx]] w fun e w'=>∃v,e=.returned (.tuple #[v,.nilIface])∧BookNew w.heap.size w' v (putL l sx (sx,nx,bx))∧Below w.heap.size w w':=by
 have hb1:Below w.heap.size w (w.alloc (.cells #[.string sx,.int .i64 nx,.bool bx] 53)):=(Below.refl _ w).alloc (Nat.le_refl _) _
 have hlf:LeafsIn w (some ⟨b,o,none⟩) l:=Or.inr ⟨b,o,rfl,h⟩
 have C:=find_any (some ⟨b,o,none⟩) n c l sx _ hl (hlf.below hb1) hr (by omega)
 rw[hh] at C
 have hle:=ahead_le (p:=sx.toList) hr
 rw[hl] at hle
 have HPL:Hid (putL l sx (sx,nx,bx)=l.take (ahd l sx.toList)++(sx,nx,bx)::l.drop (ahd l sx.toList)):=by unfold Hid putL;rw[hh];rfl
 obtain⟨i,hi⟩:∃i,i=ahd l sx.toList:=⟨_,rfl⟩
 rw[←hi] at C hle HPL
 have hz:¬(300:Int)≤n:=by omega
 have hiz:(i:Int)≤n:=by omega
 have hicz:(i:Int)≤c:=by omega
 unfold maxLen at hcm
 obtain⟨ad,had⟩:∃ad,(if c=i then some (⟨b,o,none⟩:Addr) else some ⟨b,o+i*3,none⟩)=some ad:=by
  by_cases e:c=i
  ·exact⟨⟨b,o,none⟩,by rw[if_pos e]⟩
  ·exact⟨⟨b,o+i*3,none⟩,by rw[if_neg e]⟩
 have HCC:Hid (∀w2,Below w.heap.size w w2→Calls Tryz.prog 197 #[.slice (some ⟨w2.heap.size+1,0,none⟩) 3 3] (threeW w2 (sx,nx,bx) (.slice (some ⟨b,o,none⟩) i c) (.slice (some ad) (n-i) (c-i))) fun e w'=>∃v,e=.returned v∧BookNew w2.heap.size w' v (l.take i++(sx,nx,bx)::l.drop i)∧Below w2.heap.size w2 w'):=by
  intro w2 hb
  have h2:∀j,j<l.length→At w2 b o j (l.getD j none0):=fun j hj=>(h j hj).below hb (h j hj).lt
  refine concat_three w2 (sx,nx,bx) _ _ _ _ (take_part (by omega) h2) (drop_part hl hle hc had h2) ?_
  rw[List.length_append,List.length_cons,List.length_take,List.length_drop];omega
 have HB1:=z9 hb1
 clear hl h hr hh hi hb1 hlf
 go_enter Tryz.func179,Tryz.ntmps179
 go_wp2_with fail
 refine C.mono ?_
 rintro e w2 ⟨rfl,hb2⟩
 have HB2:=z9 (bel HB1.out hb2)
 have d:=new_cell (x:=(sx,nx,bx)) hb2
 simp only at d
 obtain⟨d0,d1,d2⟩:=d
 have C5:=HCC.out w2 HB2.out
 unfold threeW at C5
 simp only at C5
 clear hb2 C
 go_wp2_with fail
 go_region_with (go_at_call 197;refine C5.mono ?_;rintro e w6 ⟨v6,rfl,hk6,hb6⟩;have HK6:=z9 (hk6.mono HB2.out.size);have HB6:=z9 (bel HB2.out hb6);clear hk6 hb6)
 all_goals
  go_wp2_with fail
  go_ret2
  exact⟨_,rfl,by rw[HPL.out];exact HK6.out,HB6.out⟩
theorem ahd_nil (p:List UInt8):ahd [] p=0:=rfl
theorem has_nil (p:List UInt8):has [] p=false:=rfl
theorem put_none (sx:ByteArray) (nx:Int) (bx:Bool) (w:World):
  Calls Tryz.prog 179 #[.slice none 0 0,.agg #[.string sx,.int .i64 nx,.bool bx]] w fun e w'=>∃v,e=.returned (.tuple #[v,.nilIface])∧BookNew w.heap.size w' v (putL [] sx (sx,nx,bx))∧Below w.heap.size w w':=by
 have C:=find_any none 0 0 [] sx (w.alloc (.cells #[.string sx,.int .i64 nx,.bool bx] 53)) rfl (Or.inl rfl) List.Pairwise.nil (by omega)
 rw[ahd_nil,has_nil] at C
 have HCC:Hid (∀w2,Calls Tryz.prog 197 #[.slice (some ⟨w2.heap.size+1,0,none⟩) 3 3] (threeW w2 (sx,nx,bx) (.slice none 0 0) (.slice none 0 0)) fun e w'=>∃v,e=.returned v∧BookNew w2.heap.size w' v ([]++(sx,nx,bx)::[])∧Below w2.heap.size w2 w'):=
  fun w2=>concat_three w2 (sx,nx,bx) _ _ [] [] (Or.inl ⟨rfl,rfl⟩) (Or.inl ⟨rfl,rfl⟩) (by simp)
 have HB1:Hid (Below w.heap.size w (w.alloc (.cells #[.string sx,.int .i64 nx,.bool bx] 53))):=(Below.refl _ w).alloc (Nat.le_refl _) _
 go_enter Tryz.func179,Tryz.ntmps179
 go_wp2_with fail
 refine C.mono ?_
 rintro e w2 ⟨rfl,hb2⟩
 have HB2:=z9 (bel HB1.out hb2)
 have d:=new_cell (x:=(sx,nx,bx)) hb2
 simp only at d
 obtain⟨d0,d1,d2⟩:=d
 have C5:=HCC.out w2
 unfold threeW at C5
 simp only at C5
 clear hb2 C
 go_wp2_with fail
 go_region_with (go_at_call 197;refine C5.mono ?_;rintro e w6 ⟨v6,rfl,hk6,hb6⟩;have HK6:=z9 (hk6.mono HB2.out.size);have HB6:=z9 (bel HB2.out hb6);clear hk6 hb6)
 all_goals
  go_wp2_with fail
  go_ret2
  exact⟨_,rfl,HK6.out,HB6.out⟩
theorem put_empty (a:Addr) (c:Nat) (sx:ByteArray) (nx:Int) (bx:Bool) (w:World) (hcm:c≤maxLen):
  Calls Tryz.prog 179 #[.slice (some a) 0 c,.agg #[.string sx,.int .i64 nx,.bool bx]] w fun e w'=>∃v,e=.returned (.tuple #[v,.nilIface])∧BookNew w.heap.size w' v (putL [] sx (sx,nx,bx))∧Below w.heap.size w w':=by
 have C:=find_any (some a) 0 c [] sx (w.alloc (.cells #[.string sx,.int .i64 nx,.bool bx] 53)) rfl (Or.inl rfl) List.Pairwise.nil (by omega)
 rw[ahd_nil,has_nil] at C
 unfold maxLen at hcm
 have hP:∀(w2:World) (x:Addr) (c:Nat),Part w2 (.slice (some x) 0 c) []:=fun w2 x c=>Or.inr ⟨x,c,rfl,fun j u hu=>by simp[flat] at hu⟩
 have HCC:Hid (∀w2,Calls Tryz.prog 197 #[.slice (some ⟨w2.heap.size+1,0,none⟩) 3 3] (threeW w2 (sx,nx,bx) (.slice (some a) 0 c) (.slice (some a) 0 c)) fun e w'=>∃v,e=.returned v∧BookNew w2.heap.size w' v ([]++(sx,nx,bx)::[])∧Below w2.heap.size w2 w'):=
  fun w2=>concat_three w2 (sx,nx,bx) _ _ [] [] (hP _ _ _) (hP _ _ _) (by simp)
 have HB1:Hid (Below w.heap.size w (w.alloc (.cells #[.string sx,.int .i64 nx,.bool bx] 53))):=(Below.refl _ w).alloc (Nat.le_refl _) _
 clear hP
 have hcz:(0:Int)≤c:=by omega
 go_enter Tryz.func179,Tryz.ntmps179
 go_wp2_with fail
 refine C.mono ?_
 rintro e w2 ⟨rfl,hb2⟩
 have HB2:=z9 (bel HB1.out hb2)
 have d:=new_cell (x:=(sx,nx,bx)) hb2
 simp only at d
 obtain⟨d0,d1,d2⟩:=d
 have C5:=HCC.out w2
 unfold threeW at C5
 simp only at C5
 clear hb2 C
 go_wp2_with fail
 go_region_with (go_at_call 197;refine C5.mono ?_;rintro e w6 ⟨v6,rfl,hk6,hb6⟩;have HK6:=z9 (hk6.mono HB2.out.size);have HB6:=z9 (bel HB2.out hb6);clear hk6 hb6)
 all_goals
  go_wp2_with fail
  go_ret2
  exact⟨_,rfl,HK6.out,HB6.out⟩
def putR (l:List Leaf) (p:ByteArray) (x:Leaf):List Leaf:=if putE l p=0 then putL l p x else[]
/- book.put, at every book that rises, of at most three hundred leafs -/
theorem put_any (v:Value) (l:List Leaf) (sx:ByteArray) (nx:Int) (bx:Bool) (w:World) (h:BookAt w v l) (hr:Rise l) (hn:l.length≤300):
  Calls Tryz.prog 179 #[v,.agg #[.string sx,.int .i64 nx,.bool bx]] w fun e w'=>∃v',e=.returned (.tuple #[v',errV (putE l sx)])∧BookNew w.heap.size w' v' (putR l sx (sx,nx,bx))∧Below w.heap.size w w':=by
 obtain⟨p,c,rfl,hlf,hc,hcm,hpc⟩:=h
 cases hh:has l sx.toList
 ·by_cases h300:300≤l.length
  ·have e:putE l sx=4:=by unfold putE;rw[if_pos ⟨hh,h300⟩]
   have e2:putR l sx (sx,nx,bx)=[]:=by unfold putR;rw[e,if_neg (by decide)]
   rw[e,e2]
   refine(put_full p _ c l sx nx bx w rfl hlf hr (by omega) hh h300).mono ?_
   rintro e w' ⟨rfl,hb⟩
   exact⟨_,rfl,BookNew.nil _ _,hb⟩
  ·have e:putE l sx=0:=putE_zero.2 (Or.inr (by omega))
   have e2:putR l sx (sx,nx,bx)=putL l sx (sx,nx,bx):=by unfold putR;rw[if_pos e]
   rw[e,e2,errV_zero]
   by_cases hl0:l=[]
   ·subst hl0
    cases p with
    | none=>
     rw[hpc rfl]
     exact put_none sx nx bx w
    | some a=>exact put_empty a c sx nx bx w hcm
   ·obtain⟨b,o,rfl,hcc⟩:=hlf.some hl0
    exact put_new b o _ c l sx nx bx w rfl (by cases l with | nil=>exact absurd rfl hl0 | cons _ _=>simp) hcc hr (by omega) hc hcm hh
 ·have e:putE l sx=0:=putE_zero.2 (Or.inl hh)
  have e2:putR l sx (sx,nx,bx)=putL l sx (sx,nx,bx):=by unfold putR;rw[if_pos e]
  rw[e,e2,errV_zero]
  exact put_has p _ c l sx nx bx w rfl hlf hr hn hh
end Lj
end Go.Proofs.YtlmdchpbpgcfmaaGreatDoor
/- What book.Write and book.Strike answer, and leafsame.Leafs. -/
namespace Go.Proofs.YtlmdchpbpgcfmaaGreatDoor
namespace Lk
open Go.ChangeShapes Go.WideShapes Go.ChangeAt Go.RowKit Bm Ka Kb La Lb Lc Ld Le Lf Lg Lh Li Lj
theorem bk_check {w:World} {v:Value} {l:List Leaf} (h:BookAt w v l) (p:ByteArray) (hs:∀x ∈ l,x.1.size≤maxLen) (hp:p.size≤maxLen):
  Calls Tryz.prog 98 #[v,.string p] w fun e w'=>e=.returned (errV (withE l p))∧Below w.heap.size w w':=by
 obtain⟨q,c,rfl,hlf,hc,hcm,_⟩:=h
 exact checkWith_any q _ c l p w rfl hlf hs (Nat.le_trans hc hcm) hp
theorem bk_leafAt {w:World} {v:Value} {l:List Leaf} (h:BookAt w v l) (p:ByteArray) (hr:Rise l) (hn:l.length≤300):
  Calls Tryz.prog 178 #[v,.string p] w fun e w'=>e=.returned (aggL (Bm.leafAt l p))∧Below w.heap.size w w':=by
 obtain⟨q,c,rfl,hlf,hc,hcm,_⟩:=h
 exact leafAt_any q _ c l p w rfl hlf hr (by omega)
theorem write_loc (v:Value) (l:List Leaf) (p:ByteArray) (c:Int) (w:World) (h:BookAt w v l) (hs:∀x ∈ l,x.1.size≤maxLen) (hp:p.size≤maxLen):
  Calls Tryz.prog 151 #[v,.string p,.int .i64 c] w fun e w'=>∃v',e=.returned (.tuple #[v',errV (writeE l p c)])∧BookNew w.heap.size w' v' (writeL l p c)∧Below w.heap.size w w':=by
 have C:=bk_check h p hs hp
 by_cases h0:withE l p=0
 ·obtain⟨hb0,hp0⟩:=withE_zero.1 h0
  have hk:=book_ok hb0
  have HW:Hid (writeE l p c=wrE l p c):=by unfold Hid writeE;rw[if_neg (by simpa using h0)]
  rw[h0,errV_zero] at C
  cases hc:isL c
  ·have HE:Hid (writeE l p c=1):=by unfold Hid;rw[HW.out];unfold wrE;rw[if_pos hc]
   have HL:Hid (writeL l p c=[]):=by unfold Hid writeL;rw[HE.out];rfl
   have C2:=fun w=>isLetter_any c w
   rw[hc] at C2
   rw[HE.out,HL.out]
   clear h0 hb0 hp0 hk HW hc HE HL h hs hp
   go_enter Tryz.func151,Tryz.ntmps151
   go_wp2_with fail
   refine C.mono ?_
   rintro e w2 ⟨rfl,hb2⟩
   have HB2:=z9 hb2
   clear hb2 C
   go_wp2_with fail
   refine(C2 _).mono ?_
   rintro e w3 ⟨rfl,hw⟩
   have hw2:=hw.symm;subst hw2;clear hw C2
   go_wp2_with fail
   go_ret2
   exact⟨_,rfl,BookNew.nil _ _,HB2.out⟩
  ·have C2:=fun w=>isLetter_any c w
   rw[hc] at C2
   have HC3:Hid (∀w2,Below w.heap.size w w2→Calls Tryz.prog 178 #[v,.string p] w2 fun e w'=>e=.returned (aggL (Bm.leafAt l p))∧Below w2.heap.size w2 w'):=fun w2 hb=>bk_leafAt (h.below hb) p hk.2.1 hk.1
   have hkey:=leafAt_key hk.2.1 p
   obtain⟨x,hx⟩:∃x,x=Bm.leafAt l p:=⟨_,rfl⟩
   rw[←hx] at HC3 hkey
   obtain⟨p0,n0,b0⟩:=x
   simp only at hkey
   subst hkey
   have HWX:Hid (wrX l p0 c=(p0,c,b0)):=by unfold Hid wrX;rw[←hx]
   cases hcl:clash (p0,n0,b0) c
   ·have HE:Hid (writeE l p0 c=putE l p0):=by unfold Hid;rw[HW.out];unfold wrE;rw[if_neg (by rw[hc];decide),←hx,hcl];rfl
    have HL:Hid (writeL l p0 c=putR l p0 (p0,c,b0)):=by unfold Hid writeL putR;rw[HE.out,HWX.out]
    have HC4:Hid (∀w2,Below w.heap.size w w2→Calls Tryz.prog 179 #[v,.agg #[.string p0,.int .i64 c,.bool b0]] w2 fun e w'=>∃v',e=.returned (.tuple #[v',errV (putE l p0)])∧BookNew w2.heap.size w' v' (putR l p0 (p0,c,b0))∧Below w2.heap.size w2 w'):=fun w2 hb=>put_any v l p0 c b0 w2 (h.below hb) hk.2.1 hk.1
    rw[HE.out,HL.out]
    obtain⟨ee,hee⟩:∃ee,ee=errV (putE l p0):=⟨_,rfl⟩
    rw[←hee] at HC4 ⊢
    clear h0 hb0 hp0 hk HW HE HL h hs hp hx HWX hee hc
    by_cases hn0:n0=0
    ·subst hn0
     clear hcl
     go_enter Tryz.func151,Tryz.ntmps151
     go_wp2_with fail
     refine C.mono ?_
     rintro e w2 ⟨rfl,hb2⟩
     have HB2:=z9 hb2
     clear hb2 C
     go_wp2_with fail
     refine(C2 _).mono ?_
     rintro e w3 ⟨rfl,hw⟩
     have hw2:=hw.symm;subst hw2;clear hw C2
     have C3:=HC3.out w2 HB2.out
     unfold aggL at C3
     go_wp2_with fail
     refine C3.mono ?_
     rintro e w4 ⟨rfl,hb4⟩
     have HB4:=z9 (bel HB2.out hb4)
     clear hb4 C3
     have C4:=HC4.out _ (HB4.out.alloc HB4.out.size (.cells #[.string p0,.int .i64 c,.bool b0] 53))
     have HB5:Hid (Below w.heap.size w (w4.alloc (.cells #[.string p0,.int .i64 c,.bool b0] 53))):=HB4.out.alloc HB4.out.size _
     go_wp2_with fail
     refine C4.mono ?_
     rintro e w6 ⟨v6,rfl,hk6,hb6⟩
     have HK6:=z9 (hk6.mono HB5.out.size)
     have HB6:=z9 (bel HB5.out hb6)
     clear hk6 hb6 C4
     go_wp2_with fail
     go_ret2
     exact⟨_,rfl,HK6.out,HB6.out⟩
    ·have hn1:(n0 !=0)=true:=by simpa using hn0
     have ecn:c=n0:=by
      unfold clash at hcl
      rw[Bool.and_eq_false_iff] at hcl
      rcases hcl with e | e
      ·rw[hn1] at e;cases e
      ·have e2:n0=c:=by simpa using e
       exact e2.symm
     subst ecn
     clear hcl
     go_enter Tryz.func151,Tryz.ntmps151
     go_wp2_with fail
     refine C.mono ?_
     rintro e w2 ⟨rfl,hb2⟩
     have HB2:=z9 hb2
     clear hb2 C
     go_wp2_with fail
     refine(C2 _).mono ?_
     rintro e w3 ⟨rfl,hw⟩
     have hw2:=hw.symm;subst hw2;clear hw C2
     have C3:=HC3.out w2 HB2.out
     unfold aggL at C3
     go_wp2_with fail
     refine C3.mono ?_
     rintro e w4 ⟨rfl,hb4⟩
     have HB4:=z9 (bel HB2.out hb4)
     clear hb4 C3
     have C4:=HC4.out _ (HB4.out.alloc HB4.out.size (.cells #[.string p0,.int .i64 c,.bool b0] 53))
     have HB5:Hid (Below w.heap.size w (w4.alloc (.cells #[.string p0,.int .i64 c,.bool b0] 53))):=HB4.out.alloc HB4.out.size _
     go_wp2_with fail
     refine C4.mono ?_
     rintro e w6 ⟨v6,rfl,hk6,hb6⟩
     have HK6:=z9 (hk6.mono HB5.out.size)
     have HB6:=z9 (bel HB5.out hb6)
     clear hk6 hb6 C4
     go_wp2_with fail
     go_ret2
     exact⟨_,rfl,HK6.out,HB6.out⟩
   ·have HE:Hid (writeE l p0 c=7):=by unfold Hid;rw[HW.out];unfold wrE;rw[if_neg (by rw[hc];decide),←hx,hcl];rfl
    have HL:Hid (writeL l p0 c=[]):=by unfold Hid writeL;rw[HE.out];rfl
    rw[HE.out,HL.out]
    unfold clash at hcl
    rw[Bool.and_eq_true] at hcl
    obtain⟨hn1,hn2⟩:=hcl
    simp only at hn1 hn2
    have hn0:¬n0=0:=by simpa using hn1
    clear h0 hb0 hp0 hk HW HE HL h hs hp hx HWX hc
    go_enter Tryz.func151,Tryz.ntmps151
    go_wp2_with fail
    refine C.mono ?_
    rintro e w2 ⟨rfl,hb2⟩
    have HB2:=z9 hb2
    clear hb2 C
    go_wp2_with fail
    refine(C2 _).mono ?_
    rintro e w3 ⟨rfl,hw⟩
    have hw2:=hw.symm;subst hw2;clear hw C2
    have C3:=HC3.out w2 HB2.out
    unfold aggL at C3
    go_wp2_with fail
    refine C3.mono ?_
    rintro e w4 ⟨rfl,hb4⟩
    have HB4:=z9 (bel HB2.out hb4)
    clear hb4 C3
    go_wp2_with fail
    go_ret2
    exact⟨_,rfl,BookNew.nil _ _,HB4.out.alloc HB4.out.size _⟩
 ·obtain⟨k,hk⟩:∃k,k=withE l p:=⟨_,rfl⟩
  have HE:Hid (writeE l p c=withE l p):=by unfold Hid writeE;rw[if_pos h0]
  have HL:Hid (writeL l p c=[]):=by unfold Hid writeL;rw[HE.out,if_neg h0]
  rw[errV_ne h0,←hk] at C
  rw[HE.out,HL.out,errV_ne h0,←hk]
  clear h0 hk HE HL h hs hp
  go_enter Tryz.func151,Tryz.ntmps151
  go_wp2_with fail
  refine C.mono ?_
  rintro e w2 ⟨rfl,hb2⟩
  have HB2:=z9 hb2
  clear hb2 C
  go_wp2_with fail
  go_ret2
  exact⟨_,rfl,BookNew.nil _ _,HB2.out⟩
theorem strike_loc (v:Value) (l:List Leaf) (p:ByteArray) (w:World) (h:BookAt w v l) (hs:∀x ∈ l,x.1.size≤maxLen) (hp:p.size≤maxLen):
  Calls Tryz.prog 152 #[v,.string p] w fun e w'=>∃v',e=.returned (.tuple #[v',errV (strikeE l p)])∧BookNew w.heap.size w' v' (strikeL l p)∧Below w.heap.size w w':=by
 have C:=bk_check h p hs hp
 by_cases h0:withE l p=0
 ·obtain⟨hb0,hp0⟩:=withE_zero.1 h0
  have hk:=book_ok hb0
  rw[h0,errV_zero] at C
  have HC3:Hid (∀w2,Below w.heap.size w w2→Calls Tryz.prog 178 #[v,.string p] w2 fun e w'=>e=.returned (aggL (Bm.leafAt l p))∧Below w2.heap.size w2 w'):=fun w2 hb=>bk_leafAt (h.below hb) p hk.2.1 hk.1
  have hkey:=leafAt_key hk.2.1 p
  obtain⟨x,hx⟩:∃x,x=Bm.leafAt l p:=⟨_,rfl⟩
  rw[←hx] at HC3 hkey
  obtain⟨p0,n0,b0⟩:=x
  simp only at hkey
  subst hkey
  have HE:Hid (strikeE l p0=putE l p0):=by unfold Hid strikeE;rw[if_neg (by simpa using h0)]
  have HL:Hid (strikeL l p0=putR l p0 (p0,n0,true)):=by unfold Hid strikeL putR stX;rw[HE.out,←hx]
  have HC4:Hid (∀w2,Below w.heap.size w w2→Calls Tryz.prog 179 #[v,.agg #[.string p0,.int .i64 n0,.bool true]] w2 fun e w'=>∃v',e=.returned (.tuple #[v',errV (putE l p0)])∧BookNew w2.heap.size w' v' (putR l p0 (p0,n0,true))∧Below w2.heap.size w2 w'):=fun w2 hb=>put_any v l p0 n0 true w2 (h.below hb) hk.2.1 hk.1
  rw[HE.out,HL.out]
  obtain⟨ee,hee⟩:∃ee,ee=errV (putE l p0):=⟨_,rfl⟩
  rw[←hee] at HC4 ⊢
  clear h0 hb0 hp0 hk HE HL h hs hp hx hee
  go_enter Tryz.func152,Tryz.ntmps152
  go_wp2_with fail
  refine C.mono ?_
  rintro e w2 ⟨rfl,hb2⟩
  have HB2:=z9 hb2
  have C3:=HC3.out w2 hb2
  unfold aggL at C3
  clear hb2 C
  go_wp2_with fail
  refine C3.mono ?_
  rintro e w4 ⟨rfl,hb4⟩
  have HB4:=z9 (bel HB2.out hb4)
  clear hb4 C3
  have C4:=HC4.out _ (HB4.out.alloc HB4.out.size (.cells #[.string p0,.int .i64 n0,.bool true] 53))
  have HB5:Hid (Below w.heap.size w (w4.alloc (.cells #[.string p0,.int .i64 n0,.bool true] 53))):=HB4.out.alloc HB4.out.size _
  go_wp2_with fail
  refine C4.mono ?_
  rintro e w6 ⟨v6,rfl,hk6,hb6⟩
  have HK6:=z9 (hk6.mono HB5.out.size)
  have HB6:=z9 (bel HB5.out hb6)
  clear hk6 hb6 C4
  go_wp2_with fail
  go_ret2
  exact⟨_,rfl,HK6.out,HB6.out⟩
 ·obtain⟨k,hk⟩:∃k,k=withE l p:=⟨_,rfl⟩
  have HE:Hid (strikeE l p=withE l p):=by unfold Hid strikeE;rw[if_pos h0]
  have HL:Hid (strikeL l p=[]):=by unfold Hid strikeL;rw[HE.out,if_neg h0]
  rw[errV_ne h0,←hk] at C
  rw[HE.out,HL.out,errV_ne h0,←hk]
  clear h0 hk HE HL h hs hp
  go_enter Tryz.func152,Tryz.ntmps152
  go_wp2_with fail
  refine C.mono ?_
  rintro e w2 ⟨rfl,hb2⟩
  have HB2:=z9 hb2
  clear hb2 C
  go_wp2_with fail
  go_ret2
  exact⟨_,rfl,BookNew.nil _ _,HB2.out⟩
/- two books that lie in memory: are they the same? -/
end Lk
end Go.Proofs.YtlmdchpbpgcfmaaGreatDoor
