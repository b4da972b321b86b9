import Derived.Test.YtlmdchpbpgcfmaaGreatDoorJ4
import Derived.Lib.AppendZeros
import Derived.Deep.RegionWith
import Derived.RegionTactic
import Derived.BigRegion
import Derived.Laws.StructEq
set_option linter.unusedVariables false
set_option maxRecDepth 100000
set_option maxHeartbeats 8000000
/- What slices.Clone, slices.Grow and slices.Concat answer, of marks. -/
namespace Go.Proofs.YtlmdchpbpgcfmaaGreatDoor
namespace Nf
open Go.ChangeShapes Go.WideShapes Go.ChangeAt Go.RowKit Cm Ka Kb Na Nb Nc Nd Nse
open La (bel bel_drew errV_zero errV_ne own_ge own_grow own_below)
theorem infoMark:(Tryz.prog.info? 96).map (fun i=>(i.zero,i.size,i.bytes))=some (some (.agg #[.string ⟨#[]⟩,.int .i64 0,.int .i64 0]),3,32):=by kernel_rfl
/- leafs that lie behind a slice's address -/
def Part (w:World) (v:Value) (l:List Mk):Prop:=(v=.slice none 0 0∧l=[])∨∃ad c,v=.slice (some ad) l.length c∧∀i u,(flat l)[i]? =some u→w.cell? (ad.add i)=some u
theorem Part.below {w w':World} {v:Value} {l:List Mk} (h:Part w v l) (hb:Below w.heap.size w w'):Part w' v l:=by
 rcases h with h | ⟨ad,c,h1,h2⟩
 ·exact Or.inl h
 ·exact Or.inr ⟨ad,c,h1,fun i u hu=>(hb.cell (World.block_lt_of_cell? _ _ (h2 i u hu))).trans (h2 i u hu)⟩
theorem Part.len {w:World} {v:Value} {l:List Mk} (h:Part w v l):∃p c,v=.slice p l.length c:=by
 rcases h with⟨rfl,rfl⟩ | ⟨ad,c,rfl,_⟩
 ·exact⟨none,0,rfl⟩
 ·exact⟨some ad,c,rfl⟩
theorem marks_part {w:World} {b o:Nat} {l:List Mk} (c:Nat) (h:∀j,j<l.length→MAt w b o j (l.getD j none1)):Part w (.slice (some ⟨b,o,none⟩) l.length c) l:=
 Or.inr ⟨_,c,rfl,fun i u hu=>by rw[Addr.add_lit];exact at_flat h i u hu⟩
def cat (L:Nat→List Mk) (k:Nat):List Mk:=(List.range k).flatMap L
theorem cat_succ (L:Nat→List Mk) (k:Nat):cat L (k+1)=cat L k++L k:=by
 unfold cat;rw[List.range_succ,List.flatMap_append];simp
theorem cat_le {L:Nat→List Mk} {i j:Nat} (h:i≤j):(cat L i).length≤(cat L j).length:=by
 induction h with
 | refl=>exact Nat.le_refl _
 | step _ ih=>rw[cat_succ,List.length_append];omega
theorem clone_any (ad:Addr) (n c:Nat) (l:List Mk) (w:World) (hl:l.length=n) (hn2:n≤1048576) (hc:∀j u,(flat l)[j]? =some u→w.cell? (ad.add j)=some u):
  Calls Tryz.prog 85 #[.slice (some ad) n c] w fun e w'=>∃v,e=.returned v∧w'.ownsRow w.heap.size 96 3 v n (flat l)∧Below w.heap.size w w':=by
 obtain⟨i0,hi,hz0,hz1,hz2⟩:=info_parts infoMark
 have HN:Hid (∀j u,(flat l)[j]? =some u→(w.alloc (.cells #[] 96)).cell? (ad.add j)=some u):=by
  intro j u hu
  exact keep_cell ((Below.refl _ w).alloc (Nat.le_refl _) _) (hc j u hu)
 have HL:=z9 hl
 have HO:Hid ((w.alloc (.cells #[] 96)).ownsRow w.heap.size 96 3 (.slice (some ⟨w.heap.size,0,none⟩) 0 0) 0 []):=
  ⟨rfl,Or.inr ⟨w.heap.size,0,#[],rfl,Nat.le_refl _,heap_alloc_new w _,Nat.le_refl _,by unfold maxLen;omega,rfl,rfl⟩⟩
 have heq:∀(a:Addr) (n c:Nat) (w:World),Sem.run Tryz.prog (binOp .eql 90 (.slice (some a) n c) (.slice none 0 0)) w=.ok (.bool false) w:=fun _ _ _ _=>by kernel_rfl
 clear hc hl
 go_enter Tryz.func85,Tryz.ntmps85
 go_wp2_with (at_builtin;refine wpList_append_own_at _ rfl (.tmp 5) (.tmp 6) 90 rfl w.heap.size 96 i0 (.agg #[.string ⟨#[]⟩,.int .i64 0,.int .i64 0]) 3 32 Tryz.underlying90 hi hz0 hz1 hz2 rfl (by decide) (.slice (some ⟨w.heap.size,0,none⟩) 0 0) 0 [] rfl HO.out ad n c (flat l) rfl (by rw[flat_length,HL.out]) HN.out (flat_one l) (by unfold maxLen;omega) (by omega) (by simp) ?_;intro v' w1 hown' hgrow _ hat;have HOW:Hid (w1.ownsRow w.heap.size 96 3 v' n (flat l)):=(by have h9:=hown';rw[Nat.zero_add,List.nil_append] at h9;exact h9);have HGR:Hid (Below w.heap.size w w1):=((Below.refl _ w).alloc (Nat.le_refl _) (.cells #[] 96)).grown hgrow (by simp) (by intro j hj;simp[Value.ownBlock] at hj;omega);clear hown' hgrow hat)
 go_ret
 exact⟨_,rfl,HOW.out,HGR.out⟩
theorem grow_any (n:Nat) (w:World) (h0:0<n) (hn:n≤1048576):
  Calls Tryz.prog 215 #[.slice none 0 0,.int .i64 n] w fun e w'=>∃v,e=.returned v∧w'.ownsRow w.heap.size 96 3 v 0 []∧Below w.heap.size w w':=by
 obtain⟨i0,hi,hz0,hz1,hz2⟩:=info_parts infoMark
 have hr:=Lib.run_append_nil_zeros (P:=Tryz.prog) w 90 3 90 96 i0 _ .i64 .i64 Tryz.underlying90 Tryz.underlying3 hi hz0 n h0 (by rw[hz1];decide) (by omega) (by rw[hz2];omega)
 have hcp:=grownCap_le_maxLen w n 0 96 (by unfold maxLen;omega)
 have hcg:=grownCap_ge w n 0 96
 obtain⟨cap,hcap⟩:∃cap,cap=grownCap w n 0 96:=⟨_,rfl⟩
 rw[←hcap] at hr hcp hcg
 have hcp2:cap≤9223372036854775807:=by unfold maxLen at hcp;omega
 obtain⟨cells,hcells⟩:∃cells,cells=Builtin.zeroCells (Value.agg #[.string ⟨#[]⟩,.int .i64 0,.int .i64 0]).cells n++Builtin.zeroCells (Value.agg #[.string ⟨#[]⟩,.int .i64 0,.int .i64 0]).cells (cap-n):=⟨_,rfl⟩
 have hsz:cells.size=cap*3:=by
  rw[hcells,Array.size_append,size_zeroCells,size_zeroCells]
  have:(Value.agg #[.string ⟨#[]⟩,.int .i64 0,.int .i64 0]).cells.size=3:=rfl
  rw[this];omega
 rw[←hcells] at hr
 have HO:Hid ((w.drew.alloc (.cells cells 96)).ownsRow w.heap.size 96 3 (.slice (some ⟨w.heap.size,0,none⟩) 0 cap) 0 []):=
  ⟨rfl,Or.inr ⟨w.heap.size,cap,cells,rfl,Nat.le_refl _,heap_alloc_new w.drew _,Nat.zero_le _,hcp,hsz,rfl⟩⟩
 have HB:Hid (Below w.heap.size w (w.drew.alloc (.cells cells 96))):=((Below.refl _ w).drew).alloc (Nat.le_refl _) _
 have hnz:¬(n:Int)<0:=by omega
 have hnp:(0:Int)<n:=by omega
 clear hcells hcap hcp hsz
 go_enter Tryz.func215,Tryz.ntmps215
 go_wp2_with (at_builtin;refine Lib.wpList_append_run _ rfl _ _ _ _ rfl _ _ rfl rfl _ _ hr ?_)
 go_ret
 exact⟨_,rfl,HO.out,HB.out⟩
theorem own_cat {w:World} {base:Nat} {t:TypeId} {v:Value} {L:Nat→List Mk} {k:Nat} (h:w.ownsRow base t 3 v ((cat L k).length+(L k).length) (flat (cat L k)++flat (L k))):w.ownsRow base t 3 v (cat L (k+1)).length (flat (cat L (k+1))):=by
 rw[cat_succ,List.length_append,flat_append];exact h
theorem concat_any (g:Nat) (V:Nat→Value) (L:Nat→List Mk) (w:World) (hV:∀j,j<3→w.cell? ⟨g,j,none⟩=some (V j)) (hP:∀j,j<3→Part w (V j) (L j)) (h0:0<(cat L 3).length) (hn:(cat L 3).length≤1048576):
  Calls Tryz.prog 202 #[.slice (some ⟨g,0,none⟩) 3 3] w fun e w'=>∃v,e=.returned v∧w'.ownsRow w.heap.size 96 3 v (cat L 3).length (flat (cat L 3))∧Below w.heap.size w w':=by
 obtain⟨i0,hi,hz0,hz1,hz2⟩:=info_parts infoMark
 have HV:=z9 hV
 have HP:=z9 hP
 have HLE:Hid (∀k,k≤3→(cat L k).length≤(cat L 3).length):=fun k hk=>cat_le hk
 obtain⟨T,hT⟩:∃T,T=(cat L 3).length:=⟨_,rfl⟩
 rw[←hT] at h0 hn HLE ⊢
 have HT:=z9 hT
 clear hV hP hT
 go_enter Tryz.func202,Tryz.ntmps202
 go_wp2
 go_loop [3,5,11] (fun s _ i=>∃(k m:Nat),k≤3∧i=.int .i64 k∧s=.int .i64 m∧Hid (m=(cat L k).length)) (fun _ _ i=>3-(intOf i).toNat)
 case atStart=>exact⟨0,0,by omega,rfl,rfl,rfl⟩
 case round=>
  obtain⟨k,m,hk,rfl,rfl,HM⟩:=hrel
  have hm:m≤1048576:=by have h1:=HLE.out k hk;have h2:=HM.out;omega
  by_cases hlt:k<3
  ·have hltz:(k:Int)<3:=by omega
   have d1:=HV.out k hlt
   obtain⟨p,c,hp⟩:=(HP.out k hlt).len
   obtain⟨r,hr⟩:∃r,r=(L k).length:=⟨_,rfl⟩
   rw[hp,←hr] at d1
   have HM2:Hid (m+r=(cat L (k+1)).length):=by unfold Hid;rw[cat_succ,List.length_append,HM.out,hr]
   have hmr:m+r≤1048576:=by have h1:=HLE.out (k+1) hlt;have h2:=HM2.out;omega
   have hneg:¬(m:Int)+r<0:=by omega
   clear hp hr
   go_wp2_with fail
   go_round
   case rel=>exact⟨k+1,m+r,by omega,by go_num,by go_num,HM2⟩
   case measure=>simp[intOf];omega
  ·obtain rfl:k=3:=by omega
   obtain rfl:m=T:=by rw[HT.out];exact HM.out
   have C:=grow_any m w h0 hn
   go_wp2_with fail
   refine C.mono ?_
   rintro e w1 ⟨v1,rfl,ho1,hb1⟩
   have HO1:=z9 ho1
   have HB1:=z9 hb1
   clear C ho1 hb1
   go_wp2_with fail
   go_loopw [6,8,27] (fun v _ i wr=>∃(k:Nat),k≤3∧i=.int .i64 k∧Hid (wr.ownsRow w.heap.size 96 3 v (cat L k).length (flat (cat L k)))∧Hid (Below w.heap.size w wr)) (fun _ _ i _=>3-(intOf i).toNat)
   case atStart=>exact⟨0,by omega,rfl,HO1,HB1⟩
   case round=>
    clear HO1 HB1
    obtain⟨k,hk,rfl,HO,HB⟩:=hrel
    by_cases hlt:k<3
    ·have hltz:(k:Int)<3:=by omega
     have hll:=HLE.out (k+1) hlt
     rw[cat_succ,List.length_append] at hll
     have d0:=HV.out k hlt
     have d1:wr.cell? ⟨g,k,none⟩=some (V k):=(HB.out.cell (p:=⟨g,k,none⟩) (World.block_lt_of_cell? _ _ d0)).trans d0
     clear d0
     rcases(HP.out k hlt).below HB.out with⟨hv,hl0⟩ | ⟨ad,c,hv,hcc⟩
     ·rw[hv] at d1
      have hap:=run_append_owned_none (P:=Tryz.prog) (w:=wr) w.heap.size 90 90 96 i0 3 Tryz.underlying90 hi u6 _ _ HO.out
      have HO2:Hid (wr.ownsRow w.heap.size 96 3 u6 (cat L (k+1)).length (flat (cat L (k+1)))):=by
       unfold Hid;rw[cat_succ,hl0,List.append_nil];exact HO.out
      clear hv hl0 hll
      go_wp2_with (at_builtin;refine Lib.wpList_append_run _ rfl _ _ _ _ rfl _ _ rfl rfl _ _ hap ?_)
      go_roundw
      case rel=>exact⟨k+1,by omega,by go_num,HO2,HB⟩
      case measure=>simp[intOf];omega
     ·rw[hv] at d1
      obtain⟨r,hr⟩:∃r,r=(L k).length:=⟨_,rfl⟩
      rw[←hr] at d1 hll
      have HFL:Hid ((flat (L k)).length=r*3):=by unfold Hid;rw[flat_length,hr]
      have HCC:=z9 hcc
      have HR:=z9 hr
      clear hv hcc hr
      go_wp2_with (at_builtin;refine wpList_append_own_at _ rfl (.tmp 31) (.tmp 32) 90 rfl w.heap.size 96 i0 (.agg #[.string ⟨#[]⟩,.int .i64 0,.int .i64 0]) 3 32 Tryz.underlying90 hi hz0 hz1 hz2 rfl (by decide) u6 _ _ rfl HO.out ad r c (flat (L k)) rfl HFL.out HCC.out (flat_one _) (by unfold maxLen;omega) (by omega) HB.out.size ?_;intro v' w3 hown' hgrow _ hat;have HB3:Hid (Below w.heap.size w w3):=(own_grow HO.out HB.out hgrow HB.out.size);have HO3:Hid (w3.ownsRow w.heap.size 96 3 v' (cat L (k+1)).length (flat (cat L (k+1)))):=(by rw[HR.out] at hown';exact own_cat hown');clear hown' hgrow hat)
      go_roundw
      case rel=>exact⟨k+1,by omega,by go_num,HO3,HB3⟩
      case measure=>simp[intOf];omega
    ·obtain rfl:k=3:=by omega
     go_wp2_with fail
     go_ret
     exact⟨_,rfl,by rw[HT.out];exact HO.out,HB.out⟩
end Nf
end Go.Proofs.YtlmdchpbpgcfmaaGreatDoor
/- What marks.Cut answers, at all marks. -/
namespace Go.Proofs.YtlmdchpbpgcfmaaGreatDoor
namespace Ng
open Go.ChangeShapes Go.WideShapes Go.ChangeAt Go.RowKit Cm Ka Kb Na Nb Nc Nd Nse Nf
open La (bel bel_drew errV_zero errV_ne own_ge own_grow own_below)
/- the three rows as they lie in memory when slices.Concat is called -/
def threeW (w2:World) (x:Mk) (v0 v2:Value):World:=((w2.alloc (.cells #[.string x.1,.int .i64 x.2.1,.int .i64 x.2.2] 96)).alloc (.cells #[v0,.slice (some ⟨w2.heap.size,0,none⟩) 1 1,v2] 90)).drew
theorem three_below (w2:World) (x:Mk) (v0 v2:Value):Below w2.heap.size w2 (threeW w2 x v0 v2):=
 ((((Below.refl _ w2).alloc (Nat.le_refl _) _).alloc (by simp) _).drew)
theorem concat_three (w2:World) (x:Mk) (v0 v2:Value) (l0 l2:List Mk) (h0:Part w2 v0 l0) (h2:Part w2 v2 l2) (hn:(l0++x::l2).length≤1048576):
  Calls Tryz.prog 202 #[.slice (some ⟨w2.heap.size+1,0,none⟩) 3 3] (threeW w2 x v0 v2) fun e w'=>∃v,e=.returned v∧MksNew w2.heap.size w' v (l0++x::l2)∧Below w2.heap.size w2 w':=by
 have hb:=three_below w2 x v0 v2
 have hg:(threeW w2 x v0 v2).heap[w2.heap.size+1]? =some (.cells #[v0,.slice (some ⟨w2.heap.size,0,none⟩) 1 1,v2] 90):=by
  have:=heap_alloc_new (w2.alloc (.cells #[.string x.1,.int .i64 x.2.1,.int .i64 x.2.2] 96)) (.cells #[v0,.slice (some ⟨w2.heap.size,0,none⟩) 1 1,v2] 90)
  have e:(w2.alloc (.cells #[.string x.1,.int .i64 x.2.1,.int .i64 x.2.2] 96)).heap.size=w2.heap.size+1:=by simp
  rw[e] at this
  exact this
 have hx:(threeW w2 x v0 v2).heap[w2.heap.size]? =some (.cells #[.string x.1,.int .i64 x.2.1,.int .i64 x.2.2] 96):=by
  have:=heap_alloc_old (w2.alloc (.cells #[.string x.1,.int .i64 x.2.1,.int .i64 x.2.2] 96)) (.cells #[v0,.slice (some ⟨w2.heap.size,0,none⟩) 1 1,v2] 90) (show w2.heap.size<_ by simp)
  exact this.trans (heap_alloc_new w2 _)
 have e3:cat (fun j=>if j=0 then l0 else if j=1 then[x] else l2) 3=l0++x::l2:=by simp[cat,List.range_succ]
 have C:=concat_any (w2.heap.size+1) (fun j=>if j=0 then v0 else if j=1 then .slice (some ⟨w2.heap.size,0,none⟩) 1 1 else v2) (fun j=>if j=0 then l0 else if j=1 then[x] else l2) (threeW w2 x v0 v2) (by
   intro j hj
   match j,hj with
   | 0,_=>simp only[World.cell?,hg];rfl
   | 1,_=>simp only[World.cell?,hg];rfl
   | 2,_=>simp only[World.cell?,hg];rfl) (by
   intro j hj
   match j,hj with
   | 0,_=>exact h0.below hb
   | 1,_=>
    refine Or.inr ⟨⟨w2.heap.size,0,none⟩,1,rfl,fun i u hu=> ?_⟩
    rw[Addr.add_lit,Nat.zero_add]
    simp only[World.cell?,hx]
    have e:flat [x]=[.string x.1,.int .i64 x.2.1,.int .i64 x.2.2]:=rfl
    have hu2:(flat [x])[i]? =some u:=hu
    rw[e] at hu2
    simpa using hu2
   | 2,_=>exact h2.below hb) (by rw[e3];simp;omega) (by rw[e3];exact hn)
 refine C.mono ?_
 rintro e w' ⟨v,rfl,ho,hb2⟩
 rw[e3] at ho
 exact⟨v,rfl,⟨own_mks ho,(La.Lies.own ho).mono hb.size⟩,bel hb hb2⟩
theorem take_part {w:World} {b o i c:Nat} {l:List Mk} (hi:i≤l.length) (h:∀j,j<l.length→MAt w b o j (l.getD j none1)):Part w (.slice (some ⟨b,o,none⟩) i c) (l.take i):=by
 have e:(l.take i).length=i:=by rw[List.length_take];omega
 have:=marks_part (w:=w) (b:=b) (o:=o) (l:=l.take i) c (fun j hj=>by
  rw[e] at hj
  have:(l.take i).getD j none1=l.getD j none1:=by
   rw[List.getD_eq_getElem?_getD,List.getD_eq_getElem?_getD,List.getElem?_take_of_lt hj]
  rw[this];exact h j (by omega))
 rw[e] at this;exact this
theorem drop_part {w:World} {b o i c n:Nat} {l:List Mk} {ad:Addr} (hl:l.length=n) (hi:i≤n) (hc:n≤c) (had:(if c=i then some (⟨b,o,none⟩:Addr) else some ⟨b,o+i*3,none⟩)=some ad) (h:∀j,j<l.length→MAt w b o j (l.getD j none1)):Part w (.slice (some ad) (n-i) (c-i)) (l.drop i):=by
 have e:(l.drop i).length=n-i:=by rw[List.length_drop,hl]
 by_cases hci:c=i
 ·have e0:l.drop i=[]:=List.drop_of_length_le (by omega)
  have e1:n-i=0:=by omega
  rw[e0,e1]
  exact Or.inr ⟨ad,c-i,rfl,fun j u hu=>by simp[flat] at hu⟩
 ·rw[if_neg hci] at had
  injection had with had
  subst had
  have:=marks_part (w:=w) (b:=b) (o:=o+i*3) (l:=l.drop i) (c-i) (fun j hj=>by
   rw[e] at hj
   have e2:(l.drop i).getD j none1=l.getD (i+j) none1:=by
    rw[List.getD_eq_getElem?_getD,List.getD_eq_getElem?_getD,List.getElem?_drop]
   rw[e2]
   have h3:=h (i+j) (by omega)
   unfold MAt at h3 ⊢
   rw[show o+i*3+j*3=o+(i+j)*3 by omega]
   exact h3)
  rw[e] at this;exact this
theorem cut_bad (v:Value) (l:List Mk) (sp:ByteArray) (p1 p2:Int) (w:World) (hA:MksAt w v l) (hs:∀x ∈ l,x.1.size≤maxLen) (hp:sp.size≤maxLen) (h0:marksE l≠0):
  Calls Tryz.prog 180 #[v,.agg #[.string sp,.int .i64 p1,.int .i64 p2]] w fun e w'=>e=.returned (.tuple #[.slice none 0 0,errV (marksE l)])∧Below w.heap.size w w':=by
 have hb1:Below w.heap.size w (w.alloc (.cells #[.string sp,.int .i64 p1,.int .i64 p2] 96)):=(Below.refl _ w).alloc (Nat.le_refl _) _
 have C:=checkM_any v l _ (hA.below hb1) hs
 obtain⟨q,hq⟩:∃q,q=marksE l:=⟨_,rfl⟩
 rw[errV_ne h0,←hq] at C ⊢
 clear h0 hq hs hp hA hb1
 go_enter Tryz.func180,Tryz.ntmps180
 go_wp2_with fail
 refine C.mono ?_
 rintro e w2 ⟨rfl,hb2⟩
 have HB2:Hid (Below w.heap.size w w2):=bel_new (Below.refl _ w) hb2
 obtain⟨d0,d1,d2⟩:=new_cell (x:=(sp,(p1,p2))) hb2
 simp only at d0 d1 d2
 clear hb2 C
 go_wp2_with fail
 go_ret2
 exact⟨rfl,HB2.out⟩
theorem cut_wrong (v:Value) (l:List Mk) (sp:ByteArray) (p1 p2:Int) (w:World) (hA:MksAt w v l) (hs:∀x ∈ l,x.1.size≤maxLen) (hp:sp.size≤maxLen) (h0:marksE l=0) (hm0:markE (sp,(p1,p2))≠0):
  Calls Tryz.prog 180 #[v,.agg #[.string sp,.int .i64 p1,.int .i64 p2]] w fun e w'=>e=.returned (.tuple #[.slice none 0 0,errV (markE (sp,(p1,p2)))])∧Below w.heap.size w w':=by
 have hb1:Below w.heap.size w (w.alloc (.cells #[.string sp,.int .i64 p1,.int .i64 p2] 96)):=(Below.refl _ w).alloc (Nat.le_refl _) _
 have C:=checkM_any v l _ (hA.below hb1) hs
 rw[h0,errV_zero] at C
 have C2:=fun W=>checkMark_any sp p1 p2 W hp
 obtain⟨q,hq⟩:∃q,q=markE (sp,(p1,p2)):=⟨_,rfl⟩
 rw[errV_ne hm0,←hq] at C2 ⊢
 clear h0 hm0 hq hs hp hA hb1
 go_enter Tryz.func180,Tryz.ntmps180
 go_wp2_with fail
 refine C.mono ?_
 rintro e w2 ⟨rfl,hb2⟩
 have HB2:Hid (Below w.heap.size w w2):=bel_new (Below.refl _ w) hb2
 obtain⟨d0,d1,d2⟩:=new_cell (x:=(sp,(p1,p2))) hb2
 simp only at d0 d1 d2
 clear hb2 C
 go_wp2_with fail
 refine(C2 w2).mono ?_
 rintro e w3 ⟨rfl,hb3⟩
 have HB3:=z9 (bel HB2.out hb3)
 have e0:=keep_cell hb3 d0
 have e1:=keep_cell hb3 d1
 have e2:=keep_cell hb3 d2
 clear hb3 C2 d0 d1 d2
 go_wp2_with fail
 go_ret2
 exact⟨rfl,HB3.out⟩
theorem cut_there (ad : Addr) (n c : Nat) (l : List Mk) (sp : ByteArray) (p1 p2 : Int) (w : World) (hA : MksAt w (.slice (some ad) n c) l) (hs : ∀ x ∈ l, x.1.size ≤ maxLen) (hp : sp.size ≤ maxLen) (h0 : marksE l = 0) (hm0 : markE (sp, (p1, p2)) = 0) (ht : there l (sp, (p1, p2)) = true) :
  Calls Tryz.prog 180 #[(.slice (some ad) n c), .agg #[.string sp, .int .i64 p1, .int .i64 p2]] w fun e w' => ∃ v', e = .returned (.tuple #[v', .nilIface]) ∧ MksNew w.heap.size w' v' (ins mlt l (sp, (p1, p2))) ∧ Below w.heap.size w w' := by
 have hb1 : Below w.heap.size w (w.alloc (.cells #[.string sp, .int .i64 p1, .int .i64 p2] 96)) := (Below.refl _ w).alloc (Nat.le_refl _) _
 have C := checkM_any (.slice (some ad) n c) l _ (hA.below hb1) hs
 rw [h0, errV_zero] at C
 have C2 := fun W => checkMark_any sp p1 p2 W hp
 rw [hm0, errV_zero] at C2
 obtain ⟨hl40, _, hr⟩ := marksE_zero.1 h0
 obtain ⟨p, c', hv, hlf, hcc, hcm, _⟩ := hA
 injection hv with hv1 hv2 hv3
 subst hv1 hv3
 have hl : l.length = n := hv2.symm
 have HC3 : Hid (∀ w2, Below w.heap.size w w2 → Calls Tryz.prog 200 #[.slice (some ad) n c, .agg #[.string sp, .int .i64 p1, .int .i64 p2], .func (.func 201) #[] #[]] w2 fun e w' => e = .returned (.tuple #[.int .i64 (pos mlt l (sp, (p1, p2))), .bool true]) ∧ Below w2.heap.size w2 w') := fun w2 hb => by
  have := search_any (some ad) n c l sp p1 p2 w2 hl (hlf.below hb) hr (by omega)
  rw [ht] at this; exact this
 have hne : l ≠ [] := by rintro rfl; rw [there] at ht; simp at ht
 obtain ⟨b, o, hbo, hcs⟩ := hlf.some hne
 injection hbo with hbo
 subst hbo
 have HIN : Hid (ins mlt l (sp, (p1, p2)) = l) := ins_there (there_iff.1 ht)
 have HCL : Hid (∀ w2, Below w.heap.size w w2 → Calls Tryz.prog 85 #[.slice (some ⟨b, o, none⟩) n c] w2 fun e w' => ∃ v, e = .returned v ∧ w'.ownsRow w2.heap.size 96 3 v n (flat l) ∧ Below w2.heap.size w2 w') :=
  fun w2 hb => clone_any ⟨b, o, none⟩ n c l w2 hl (by omega) (fun j u hu => by rw [Addr.add_lit]; exact at_flat (fun j hj => (hcs j hj).below hb (hcs j hj).lt) j u hu)
 obtain ⟨i, hi⟩ : ∃ i, i = pos mlt l (sp, (p1, p2)) := ⟨_, rfl⟩
 rw [← hi] at HC3
 clear hl hlf hr ht hne hcs hi hcc hcm hl40 hv2
 clear h0 hm0 hs hp hb1
 go_enter Tryz.func180, Tryz.ntmps180
 go_wp2_with fail
 refine C.mono ?_
 rintro e w2 ⟨rfl, hb2⟩
 have HB2 : Hid (Below w.heap.size w w2) := bel_new (Below.refl _ w) hb2
 obtain ⟨d0, d1, d2⟩ := new_cell (x := (sp, (p1, p2))) hb2
 simp only at d0 d1 d2
 clear hb2 C
 go_wp2_with fail
 refine (C2 w2).mono ?_
 rintro e w3 ⟨rfl, hb3⟩
 have HB3 := z9 (bel HB2.out hb3)
 have e0 := keep_cell hb3 d0
 have e1 := keep_cell hb3 d1
 have e2 := keep_cell hb3 d2
 clear hb3 C2 d0 d1 d2
 have C3 := HC3.out w3 HB3.out
 go_wp2_with fail
 refine C3.mono ?_
 rintro e w4 ⟨rfl, hb4⟩
 have HB4 := z9 (bel HB3.out hb4)
 have f0 := keep_cell hb4 e0
 have f1 := keep_cell hb4 e1
 have f2 := keep_cell hb4 e2
 clear hb4 C3 e0 e1 e2
 have C4 := HCL.out w4 HB4.out
 go_wp2_with fail
 refine C4.mono ?_
 rintro e w5 ⟨v5, rfl, ho5, hb5⟩
 have HB5 := z9 (bel HB4.out hb5)
 have HO5 : Hid (MksNew w.heap.size w5 v5 l) := ⟨own_mks ho5, (La.Lies.own ho5).mono HB4.out.size⟩
 clear ho5 hb5 C4
 go_wp2_with fail
 go_ret2
 exact ⟨_, rfl, by rw [HIN.out]; exact HO5.out, HB5.out⟩
theorem cut_full (q:Option Addr) (n c:Nat) (l:List Mk) (sp:ByteArray) (p1 p2:Int) (w:World) (hA:MksAt w (.slice q n c) l) (hs:∀x ∈ l,x.1.size≤maxLen) (hp:sp.size≤maxLen) (h0:marksE l=0) (hm0:markE (sp,(p1,p2))=0) (ht:there l (sp,(p1,p2))=false) (h40:40≤n):
  Calls Tryz.prog 180 #[(.slice q n c),.agg #[.string sp,.int .i64 p1,.int .i64 p2]] w fun e w'=>e=.returned (.tuple #[.slice none 0 0,.iface 84 (.int .i64 4)])∧Below w.heap.size w w':=by
 have hb1:Below w.heap.size w (w.alloc (.cells #[.string sp,.int .i64 p1,.int .i64 p2] 96)):=(Below.refl _ w).alloc (Nat.le_refl _) _
 have C:=checkM_any (.slice q n c) l _ (hA.below hb1) hs
 rw[h0,errV_zero] at C
 have C2:=fun W=>checkMark_any sp p1 p2 W hp
 rw[hm0,errV_zero] at C2
 obtain⟨hl40,_,hr⟩:=marksE_zero.1 h0
 obtain⟨p,c',hv,hlf,hcc,hcm,_⟩:=hA
 injection hv with hv1 hv2 hv3
 subst hv1 hv3
 have hl:l.length=n:=hv2.symm
 have HC3:Hid (∀w2,Below w.heap.size w w2→Calls Tryz.prog 200 #[.slice q n c,.agg #[.string sp,.int .i64 p1,.int .i64 p2],.func (.func 201) #[] #[]] w2 fun e w'=>e=.returned (.tuple #[.int .i64 (pos mlt l (sp,(p1,p2))),.bool false])∧Below w2.heap.size w2 w'):=fun w2 hb=>by
  have:=search_any q n c l sp p1 p2 w2 hl (hlf.below hb) hr (by omega)
  rw[ht] at this;exact this
 obtain⟨i,hi⟩:∃i,i=pos mlt l (sp,(p1,p2)):=⟨_,rfl⟩
 rw[←hi] at HC3
 have hz:(40:Int)≤n:=by omega
 clear hl hlf hr ht hi hcc hcm hl40 hv2
 clear h0 hm0 hs hp hb1
 go_enter Tryz.func180,Tryz.ntmps180
 go_wp2_with fail
 refine C.mono ?_
 rintro e w2 ⟨rfl,hb2⟩
 have HB2:Hid (Below w.heap.size w w2):=bel_new (Below.refl _ w) hb2
 obtain⟨d0,d1,d2⟩:=new_cell (x:=(sp,(p1,p2))) hb2
 simp only at d0 d1 d2
 clear hb2 C
 go_wp2_with fail
 refine(C2 w2).mono ?_
 rintro e w3 ⟨rfl,hb3⟩
 have HB3:=z9 (bel HB2.out hb3)
 have e0:=keep_cell hb3 d0
 have e1:=keep_cell hb3 d1
 have e2:=keep_cell hb3 d2
 clear hb3 C2 d0 d1 d2
 have C3:=HC3.out w3 HB3.out
 go_wp2_with fail
 refine C3.mono ?_
 rintro e w4 ⟨rfl,hb4⟩
 have HB4:=z9 (bel HB3.out hb4)
 have f0:=keep_cell hb4 e0
 have f1:=keep_cell hb4 e1
 have f2:=keep_cell hb4 e2
 clear hb4 C3 e0 e1 e2
 go_wp2_with fail
 go_ret2
 exact⟨rfl,HB4.out⟩
end Ng
end Go.Proofs.YtlmdchpbpgcfmaaGreatDoor
/- What marks.Cut answers with one mark more. -/
namespace Go.Proofs.YtlmdchpbpgcfmaaGreatDoor
namespace Nh
open Go.ChangeShapes Go.WideShapes Go.ChangeAt Go.RowKit Cm Ka Kb Na Nb Nc Nd Nse Nf Ng
open La (bel bel_drew errV_zero errV_ne own_ge own_grow own_below)
theorem pos_nil (m:Mk):pos mlt [] m=0:=rfl
theorem there_nil (m:Mk):there ([]:List Mk) m=false:=by rw[there];simp
theorem ins_new {l:List Mk} {m:Mk} (h:there l m=false):ins mlt l m=l.take (pos mlt l m)++m::l.drop (pos mlt l m):=by
 unfold ins
 rw[if_neg]
 intro h2
 rw[there_iff.2 h2] at h;cases h
theorem cut_new (b o n c:Nat) (l:List Mk) (sp:ByteArray) (p1 p2:Int) (w:World) (hl:l.length=n) (hcs:∀j,j<l.length→MAt w b o j (l.getD j none1)) (hcc:n≤c) (hcm:c≤maxLen) (hs:∀x ∈ l,x.1.size≤maxLen) (hp:sp.size≤maxLen) (h0:marksE l=0) (hm0:markE (sp,(p1,p2))=0) (ht:there l (sp,(p1,p2))=false) (h40:n<40):
  Calls Tryz.prog 180 #[.slice (some ⟨b,o,none⟩) n c,.agg #[.string sp,.int .i64 p1,.int .i64 p2]] w fun e w'=>∃v',e=.returned (.tuple #[v',.nilIface])∧MksNew w.heap.size w' v' (ins mlt l (sp,(p1,p2)))∧Below w.heap.size w w':=by
 have hlf:MarksIn w (some ⟨b,o,none⟩) l:=Or.inr ⟨b,o,rfl,hcs⟩
 have hA:MksAt w (.slice (some ⟨b,o,none⟩) n c) l:=⟨_,c,by rw[hl],hlf,by omega,hcm,fun h=>by cases h⟩
 have hb1:Below w.heap.size w (w.alloc (.cells #[.string sp,.int .i64 p1,.int .i64 p2] 96)):=(Below.refl _ w).alloc (Nat.le_refl _) _
 have C:=checkM_any _ l _ (hA.below hb1) hs
 rw[h0,errV_zero] at C
 have C2:=fun W=>checkMark_any sp p1 p2 W hp
 rw[hm0,errV_zero] at C2
 obtain⟨hl40,_,hr⟩:=marksE_zero.1 h0
 have HC3:Hid (∀w2,Below w.heap.size w w2→Calls Tryz.prog 200 #[.slice (some ⟨b,o,none⟩) n c,.agg #[.string sp,.int .i64 p1,.int .i64 p2],.func (.func 201) #[] #[]] w2 fun e w'=>e=.returned (.tuple #[.int .i64 (pos mlt l (sp,(p1,p2))),.bool false])∧Below w2.heap.size w2 w'):=fun w2 hb=>by
  have:=search_any (some ⟨b,o,none⟩) n c l sp p1 p2 w2 hl (hlf.below hb) hr (by omega)
  rw[ht] at this;exact this
 have HPL:=z9 (ins_new ht)
 have hle:=pos_le (lt:=mlt) l (sp,(p1,p2))
 rw[hl] at hle
 obtain⟨i,hi⟩:∃i,i=pos mlt l (sp,(p1,p2)):=⟨_,rfl⟩
 rw[←hi] at HC3 HPL hle
 have hz:¬(40:Int)≤n:=by omega
 have hiz:(i:Int)≤n:=by omega
 have hicz:(i:Int)≤c:=by omega
 unfold maxLen at hcm
 obtain⟨ad,had⟩:∃ad,(if c=i then some (⟨b,o,none⟩:Addr) else some ⟨b,o+i*3,none⟩)=some ad:=by
  by_cases e:c=i
  ·exact⟨⟨b,o,none⟩,by rw[if_pos e]⟩
  ·exact⟨⟨b,o+i*3,none⟩,by rw[if_neg e]⟩
 have HCC:Hid (∀w2,Below w.heap.size w w2→Calls Tryz.prog 202 #[.slice (some ⟨w2.heap.size+1,0,none⟩) 3 3] (threeW w2 (sp,(p1,p2)) (.slice (some ⟨b,o,none⟩) i c) (.slice (some ad) (n-i) (c-i))) fun e w'=>∃v,e=.returned v∧MksNew w2.heap.size w' v (l.take i++(sp,(p1,p2))::l.drop i)∧Below w2.heap.size w2 w'):=by
  intro w2 hb
  have h2:∀j,j<l.length→MAt w2 b o j (l.getD j none1):=fun j hj=>(hcs j hj).below hb (hcs j hj).lt
  refine concat_three w2 (sp,(p1,p2)) _ _ _ _ (take_part (by omega) h2) (drop_part hl hle hcc had h2) ?_
  rw[List.length_append,List.length_cons,List.length_take,List.length_drop];omega
 clear hl hcs hlf hA hr ht hi hb1 h0 hm0 hs hp hl40
 go_enter Tryz.func180,Tryz.ntmps180
 go_wp2_with fail
 refine C.mono ?_
 rintro e w2 ⟨rfl,hb2⟩
 have HB2:Hid (Below w.heap.size w w2):=bel_new (Below.refl _ w) hb2
 obtain⟨d0,d1,d2⟩:=new_cell (x:=(sp,(p1,p2))) hb2
 simp only at d0 d1 d2
 clear hb2 C
 go_wp2_with fail
 refine(C2 w2).mono ?_
 rintro e w3 ⟨rfl,hb3⟩
 have HB3:=z9 (bel HB2.out hb3)
 have e0:=keep_cell hb3 d0
 have e1:=keep_cell hb3 d1
 have e2:=keep_cell hb3 d2
 clear hb3 C2 d0 d1 d2
 have C3:=HC3.out w3 HB3.out
 go_wp2_with fail
 refine C3.mono ?_
 rintro e w4 ⟨rfl,hb4⟩
 have HB4:=z9 (bel HB3.out hb4)
 have f0:=keep_cell hb4 e0
 have f1:=keep_cell hb4 e1
 have f2:=keep_cell hb4 e2
 clear hb4 C3 e0 e1 e2
 have C5:=HCC.out w4 HB4.out
 unfold threeW at C5
 simp only at C5
 go_wp2_with fail
 go_region_with (go_at_call 202;refine C5.mono ?_;rintro e w6 ⟨v6,rfl,hk6,hb6⟩;have HK6:=z9 (hk6.mono HB4.out.size);have HB6:=z9 (bel HB4.out hb6);clear hk6 hb6)
 all_goals
  go_wp2_with fail
  go_ret2
  exact⟨_,rfl,by rw[HPL.out];exact HK6.out,HB6.out⟩
theorem cut_none  (sp:ByteArray) (p1 p2:Int) (w:World) (hA:MksAt w (.slice none 0 0) []) (hp:sp.size≤maxLen) (hm0:markE (sp,(p1,p2))=0):
  Calls Tryz.prog 180 #[.slice none 0 0,.agg #[.string sp,.int .i64 p1,.int .i64 p2]] w fun e w'=>∃v',e=.returned (.tuple #[v',.nilIface])∧MksNew w.heap.size w' v' (ins mlt [] (sp,(p1,p2)))∧Below w.heap.size w w':=by
 have hb1:Below w.heap.size w (w.alloc (.cells #[.string sp,.int .i64 p1,.int .i64 p2] 96)):=(Below.refl _ w).alloc (Nat.le_refl _) _
 have C:=checkM_any _ [] _ (hA.below hb1) (by intro x hx;simp at hx)
 rw[show marksE []=0 from rfl,errV_zero] at C
 have C2:=fun W=>checkMark_any sp p1 p2 W hp
 rw[hm0,errV_zero] at C2
 have HC3:Hid (∀w2,Below w.heap.size w w2→Calls Tryz.prog 200 #[.slice none 0 0,.agg #[.string sp,.int .i64 p1,.int .i64 p2],.func (.func 201) #[] #[]] w2 fun e w'=>e=.returned (.tuple #[.int .i64 0,.bool false])∧Below w2.heap.size w2 w'):=fun w2 hb=>by
  have:=search_any none 0 0 [] sp p1 p2 w2 rfl (Or.inl rfl) List.Pairwise.nil (by omega)
  rw[there_nil,pos_nil] at this;exact this
 have HPL:Hid (ins mlt [] (sp,(p1,p2))=[]++(sp,(p1,p2))::[]):=ins_new (there_nil _)
 have HCC:Hid (∀w2,Below w.heap.size w w2→Calls Tryz.prog 202 #[.slice (some ⟨w2.heap.size+1,0,none⟩) 3 3] (threeW w2 (sp,(p1,p2)) (.slice none 0 0) (.slice none 0 0)) fun e w'=>∃v,e=.returned v∧MksNew w2.heap.size w' v ([]++(sp,(p1,p2))::[])∧Below w2.heap.size w2 w'):=
  fun w2 _=>concat_three w2 (sp,(p1,p2)) _ _ [] [] (Or.inl ⟨rfl,rfl⟩) (Or.inl ⟨rfl,rfl⟩) (by simp)
 clear hA hp hm0 hb1
 go_enter Tryz.func180,Tryz.ntmps180
 go_wp2_with fail
 refine C.mono ?_
 rintro e w2 ⟨rfl,hb2⟩
 have HB2:Hid (Below w.heap.size w w2):=bel_new (Below.refl _ w) hb2
 obtain⟨d0,d1,d2⟩:=new_cell (x:=(sp,(p1,p2))) hb2
 simp only at d0 d1 d2
 clear hb2 C
 go_wp2_with fail
 refine(C2 w2).mono ?_
 rintro e w3 ⟨rfl,hb3⟩
 have HB3:=z9 (bel HB2.out hb3)
 have e0:=keep_cell hb3 d0
 have e1:=keep_cell hb3 d1
 have e2:=keep_cell hb3 d2
 clear hb3 C2 d0 d1 d2
 have C3:=HC3.out w3 HB3.out
 go_wp2_with fail
 refine C3.mono ?_
 rintro e w4 ⟨rfl,hb4⟩
 have HB4:=z9 (bel HB3.out hb4)
 have f0:=keep_cell hb4 e0
 have f1:=keep_cell hb4 e1
 have f2:=keep_cell hb4 e2
 clear hb4 C3 e0 e1 e2
 have C5:=HCC.out w4 HB4.out
 unfold threeW at C5
 simp only at C5
 go_wp2_with fail
 go_region_with (go_at_call 202;refine C5.mono ?_;rintro e w6 ⟨v6,rfl,hk6,hb6⟩;have HK6:=z9 (hk6.mono HB4.out.size);have HB6:=z9 (bel HB4.out hb6);clear hk6 hb6)
 all_goals
  go_wp2_with fail
  go_ret2
  exact⟨_,rfl,by rw[HPL.out];exact HK6.out,HB6.out⟩
theorem cut_empty (a:Addr) (c:Nat) (sp:ByteArray) (p1 p2:Int) (w:World) (hA:MksAt w (.slice (some a) 0 c) []) (hp:sp.size≤maxLen) (hm0:markE (sp,(p1,p2))=0) (hcm:c≤maxLen):
  Calls Tryz.prog 180 #[.slice (some a) 0 c,.agg #[.string sp,.int .i64 p1,.int .i64 p2]] w fun e w'=>∃v',e=.returned (.tuple #[v',.nilIface])∧MksNew w.heap.size w' v' (ins mlt [] (sp,(p1,p2)))∧Below w.heap.size w w':=by
 have hb1:Below w.heap.size w (w.alloc (.cells #[.string sp,.int .i64 p1,.int .i64 p2] 96)):=(Below.refl _ w).alloc (Nat.le_refl _) _
 have C:=checkM_any _ [] _ (hA.below hb1) (by intro x hx;simp at hx)
 rw[show marksE []=0 from rfl,errV_zero] at C
 have C2:=fun W=>checkMark_any sp p1 p2 W hp
 rw[hm0,errV_zero] at C2
 have HC3:Hid (∀w2,Below w.heap.size w w2→Calls Tryz.prog 200 #[.slice (some a) 0 c,.agg #[.string sp,.int .i64 p1,.int .i64 p2],.func (.func 201) #[] #[]] w2 fun e w'=>e=.returned (.tuple #[.int .i64 0,.bool false])∧Below w2.heap.size w2 w'):=fun w2 hb=>by
  have:=search_any (some a) 0 c [] sp p1 p2 w2 rfl (Or.inl rfl) List.Pairwise.nil (by omega)
  rw[there_nil,pos_nil] at this;exact this
 have HPL:Hid (ins mlt [] (sp,(p1,p2))=[]++(sp,(p1,p2))::[]):=ins_new (there_nil _)
 have HCC:Hid (∀w2,Below w.heap.size w w2→Calls Tryz.prog 202 #[.slice (some ⟨w2.heap.size+1,0,none⟩) 3 3] (threeW w2 (sp,(p1,p2)) (.slice (some a) 0 c) (.slice (some a) 0 c)) fun e w'=>∃v,e=.returned v∧MksNew w2.heap.size w' v ([]++(sp,(p1,p2))::[])∧Below w2.heap.size w2 w'):=
  fun w2 _=>concat_three w2 (sp,(p1,p2)) _ _ [] [] (Or.inr ⟨a,c,rfl,fun j u hu=>by simp[flat] at hu⟩) (Or.inr ⟨a,c,rfl,fun j u hu=>by simp[flat] at hu⟩) (by simp)
 unfold maxLen at hcm
 have hcz:(0:Int)≤c:=by omega
 clear hA hp hm0 hb1
 go_enter Tryz.func180,Tryz.ntmps180
 go_wp2_with fail
 refine C.mono ?_
 rintro e w2 ⟨rfl,hb2⟩
 have HB2:Hid (Below w.heap.size w w2):=bel_new (Below.refl _ w) hb2
 obtain⟨d0,d1,d2⟩:=new_cell (x:=(sp,(p1,p2))) hb2
 simp only at d0 d1 d2
 clear hb2 C
 go_wp2_with fail
 refine(C2 w2).mono ?_
 rintro e w3 ⟨rfl,hb3⟩
 have HB3:=z9 (bel HB2.out hb3)
 have e0:=keep_cell hb3 d0
 have e1:=keep_cell hb3 d1
 have e2:=keep_cell hb3 d2
 clear hb3 C2 d0 d1 d2
 have C3:=HC3.out w3 HB3.out
 go_wp2_with fail
 refine C3.mono ?_
 rintro e w4 ⟨rfl,hb4⟩
 have HB4:=z9 (bel HB3.out hb4)
 have f0:=keep_cell hb4 e0
 have f1:=keep_cell hb4 e1
 have f2:=keep_cell hb4 e2
 clear hb4 C3 e0 e1 e2
 have C5:=HCC.out w4 HB4.out
 unfold threeW at C5
 simp only at C5
 go_wp2_with fail
 go_region_with (go_at_call 202;refine C5.mono ?_;rintro e w6 ⟨v6,rfl,hk6,hb6⟩;have HK6:=z9 (hk6.mono HB4.out.size);have HB6:=z9 (bel HB4.out hb6);clear hk6 hb6)
 all_goals
  go_wp2_with fail
  go_ret2
  exact⟨_,rfl,by rw[HPL.out];exact HK6.out,HB6.out⟩
theorem cut_loc (v:Value) (l:List Mk) (sp:ByteArray) (p1 p2:Int) (w:World) (h:MksAt w v l) (hs:∀x ∈ l,x.1.size≤maxLen) (hp:sp.size≤maxLen):
  Calls Tryz.prog 180 #[v,.agg #[.string sp,.int .i64 p1,.int .i64 p2]] w fun e w'=>∃v',e=.returned (.tuple #[v',errV (cutE l (sp,(p1,p2)))])∧MksNew w.heap.size w' v' (cutL l (sp,(p1,p2)))∧Below w.heap.size w w':=by
 by_cases h0:marksE l=0
 ·by_cases hm0:markE (sp,(p1,p2))=0
  ·have ew:cutE l (sp,(p1,p2))=withM l (sp,(p1,p2)):=by unfold cutE;rw[if_neg (by simpa using h0),if_neg (by simpa using hm0)]
   obtain⟨hl40,_,hr⟩:=marksE_zero.1 h0
   have h2:=h
   obtain⟨p,c,rfl,hlf,hc,hcm,hpc⟩:=h2
   cases ht:there l (sp,(p1,p2))
   ·by_cases h40:40≤l.length
    ·have e:cutE l (sp,(p1,p2))=4:=by rw[ew];unfold withM;rw[if_neg (by rw[ht];decide),if_pos h40]
     have e2:cutL l (sp,(p1,p2))=[]:=by unfold cutL;rw[e,if_neg (by decide)]
     rw[e,e2]
     refine(cut_full p _ c l sp p1 p2 w h hs hp h0 hm0 ht h40).mono ?_
     rintro e w' ⟨rfl,hb⟩
     exact⟨_,rfl,MksNew.nil _ _,hb⟩
    ·have e:cutE l (sp,(p1,p2))=0:=cutE_zero.2 ⟨h0,hm0,Or.inr (by omega)⟩
     have e2:cutL l (sp,(p1,p2))=ins mlt l (sp,(p1,p2)):=by unfold cutL;rw[if_pos e]
     rw[e,e2,errV_zero]
     by_cases hl0:l=[]
     ·subst hl0
      cases p with
      | none=>
       have hc0:=hpc rfl
       subst hc0
       exact cut_none sp p1 p2 w h hp hm0
      | some a=>exact cut_empty a c sp p1 p2 w h hp hm0 hcm
     ·obtain⟨b,o,rfl,hcc⟩:=hlf.some hl0
      exact cut_new b o _ c l sp p1 p2 w rfl hcc hc hcm hs hp h0 hm0 ht (by omega)
   ·have e:cutE l (sp,(p1,p2))=0:=cutE_zero.2 ⟨h0,hm0,Or.inl (there_iff.1 ht)⟩
    have e2:cutL l (sp,(p1,p2))=ins mlt l (sp,(p1,p2)):=by unfold cutL;rw[if_pos e]
    rw[e,e2,errV_zero]
    have hne:l≠[]:=by rintro rfl;rw[there_nil] at ht;cases ht
    obtain⟨b,o,rfl,hcc⟩:=hlf.some hne
    exact cut_there _ _ c l sp p1 p2 w h hs hp h0 hm0 ht
  ·have e:cutE l (sp,(p1,p2))=markE (sp,(p1,p2)):=by unfold cutE;rw[if_neg (by simpa using h0),if_pos hm0]
   have e2:cutL l (sp,(p1,p2))=[]:=by unfold cutL;rw[e,if_neg hm0]
   rw[e,e2]
   refine(cut_wrong v l sp p1 p2 w h hs hp h0 hm0).mono ?_
   rintro e w' ⟨rfl,hb⟩
   exact⟨_,rfl,MksNew.nil _ _,hb⟩
 ·have e:cutE l (sp,(p1,p2))=marksE l:=by unfold cutE;rw[if_pos h0]
  have e2:cutL l (sp,(p1,p2))=[]:=by unfold cutL;rw[e,if_neg h0]
  rw[e,e2]
  refine(cut_bad v l sp p1 p2 w h hs hp h0).mono ?_
  rintro e w' ⟨rfl,hb⟩
  exact⟨_,rfl,MksNew.nil _ _,hb⟩
end Nh
end Go.Proofs.YtlmdchpbpgcfmaaGreatDoor
/- What marks.Seen answers, at all marks. -/
namespace Go.Proofs.YtlmdchpbpgcfmaaGreatDoor
namespace Ni
open Go.ChangeShapes Go.WideShapes Go.ChangeAt Go.RowKit Cm Ka Kb Na Nb Nc Nd Nse Nf
open La (bel bel_drew errV_zero errV_ne own_ge own_grow own_below)
theorem infoDot:(Tryz.prog.info? 72).map (fun i=>(i.zero,i.size,i.bytes))=some (some (.agg #[.int .i64 0,.int .i64 0]),2,16):=by kernel_rfl
end Ni
end Go.Proofs.YtlmdchpbpgcfmaaGreatDoor
/- What checkSeen answers, of the dots that a join saw. -/
namespace Go.Proofs.YtlmdchpbpgcfmaaGreatDoor
namespace Nj
open Go.ChangeShapes Go.WideShapes Go.ChangeAt Go.RowKit Cm Ka Kb Na Nb Nc Nd
open La (bel bel_drew errV_zero errV_ne own_ge own_grow own_below)
theorem dotsE_fault:∀{s:List Dt} {k:Nat},k<s.length→(∀j,j<k→dotE (s.getD j noneD).1 (s.getD j noneD).2=0)→dotE (s.getD k noneD).1 (s.getD k noneD).2≠0→dotsE s=dotE (s.getD k noneD).1 (s.getD k noneD).2:=by
 intro s k hk h1 h2
 have key:∀(s:List Dt) (k:Nat),k<s.length→(∀j,j<k→dotE (s.getD j noneD).1 (s.getD j noneD).2=0)→dotE (s.getD k noneD).1 (s.getD k noneD).2≠0→s.find? (fun d=>decide (dotE d.1 d.2≠0))=some (s.getD k noneD):=by
  intro s
  induction s with
  | nil=>intro k hk;simp at hk
  | cons y s ih=>
   intro k hk h1 h2
   cases k with
   | zero=>
    have h3:dotE y.1 y.2≠0:=h2
    rw[List.find?_cons_of_pos (by simpa using h3)];rfl
   | succ k=>
    have h3:dotE y.1 y.2=0:=h1 0 (by omega)
    rw[List.find?_cons_of_neg (by simpa using h3)]
    exact ih k (by simpa using hk) (fun j hj=>h1 (j+1) (by omega)) h2
 unfold dotsE
 rw[key s k hk h1 h2]
theorem all_zero {s:List Dt} (h:∀j,j<s.length→dotE (s.getD j noneD).1 (s.getD j noneD).2=0):∀d ∈ s,dotE d.1 d.2=0:=by
 intro d hd
 obtain⟨j,hj,e⟩:=List.mem_iff_getElem.1 hd
 have:=h j hj
 rw[List.getD_eq_getElem?_getD,List.getElem?_eq_getElem hj] at this
 simp only[Option.getD_some] at this
 rw[e] at this;exact this
theorem dotsE_cases {s:List Dt} (h:∀d ∈ s,dotE d.1 d.2=0):dotsE s=0∨dotsE s=7:=by
 unfold dotsE
 cases hf:s.find? (fun d=>decide (dotE d.1 d.2≠0)) with
 | some d=>
  have h1:=List.mem_of_find?_eq_some hf
  have h2:=List.find?_some hf
  simp only[decide_eq_true_eq] at h2
  exact absurd (h d h1) h2
 | none=>simp only[];split<;>simp
theorem dotsE_seven {s:List Dt} {m:Nat} (h:∀d ∈ s,dotE d.1 d.2=0) (hm:m+1<s.length) (h2:dlt (s.getD m noneD) (s.getD (m+1) noneD)=false):dotsE s=7:=by
 rcases dotsE_cases h with e | e
 ·have hr:=(dotsE_zero.1 e).2
  have h3:=(rise_steps dlt_strict).1 hr m hm (s.getD m noneD) (s.getD (m+1) noneD) (by rw[List.getD_eq_getElem?_getD,List.getElem?_eq_getElem (by omega)];rfl) (by rw[List.getD_eq_getElem?_getD,List.getElem?_eq_getElem hm];rfl)
  rw[h2] at h3;cases h3
 ·exact e
theorem dotsE_ok {s:List Dt} (h:∀d ∈ s,dotE d.1 d.2=0) (h2:∀m,m+1<s.length→dlt (s.getD m noneD) (s.getD (m+1) noneD)=true):dotsE s=0:=by
 refine dotsE_zero.2 ⟨h,(rise_steps dlt_strict).2 fun i hi a b ha hb=> ?_⟩
 have:=h2 i hi
 rw[List.getD_eq_getElem?_getD,List.getD_eq_getElem?_getD,ha,hb] at this
 exact this
/- what is asked of the dots that a join saw -/
def sawE (l:List Dt):Int:=if 40<l.length then 4 else dotsE l
theorem sawE_zero {s:List Dt} (h1:s.length≤40) (h2:dotsE s=0):sawE s=0:=by unfold sawE;rw[if_neg (by omega),h2]
theorem new_cellD {w w2:World} {x:Dt} {t:TypeId} (hb:Below (w.alloc (.cells #[.int .i64 x.1,.int .i64 x.2] t)).heap.size (w.alloc (.cells #[.int .i64 x.1,.int .i64 x.2] t)) w2):
  w2.cell? ⟨w.heap.size,0,none⟩=some (.int .i64 x.1)∧w2.cell? ⟨w.heap.size,1,none⟩=some (.int .i64 x.2):=by
 have hlt:w.heap.size<(w.alloc (.cells #[.int .i64 x.1,.int .i64 x.2] t)).heap.size:=by simp
 have h2:(w.alloc (.cells #[.int .i64 x.1,.int .i64 x.2] t)).heap[w.heap.size]? =some (.cells #[.int .i64 x.1,.int .i64 x.2] t):=heap_alloc_new w _
 refine⟨(hb.cell (p:=⟨w.heap.size,0,none⟩) hlt).trans ?_,(hb.cell (p:=⟨w.heap.size,1,none⟩) hlt).trans ?_⟩<;>(simp only[World.cell?,h2];rfl)
theorem checkSeen_any (v : Value) (l : List Dt) (w : World) (hA : DtsAt w v l) :
  Calls Tryz.prog 177 #[v] w fun e w' => e = .returned (errV (sawE l)) ∧ Below w.heap.size w w' := by
 obtain ⟨p, c, rfl, h, hc0, hcm, _⟩ := hA
 obtain ⟨n, hl⟩ : ∃ n, l.length = n := ⟨_, rfl⟩
 rw [hl] at hc0
 rw [hl]
 by_cases h40 : 40 < n
 ·have HE : Hid (sawE l = 4) := by unfold Hid sawE; rw [hl, if_pos h40]
  have hz : (40 : Int) < n := by omega
  clear hl h hc0 hcm
  go_enter Tryz.func177, Tryz.ntmps177
  go_wp2
  go_ret
  exact ⟨by rw [HE.out]; rfl, Below.refl _ _⟩
 have HE : Hid (sawE l = dotsE l) := by unfold Hid sawE; rw [hl, if_neg h40]
 have hz : ¬ (40 : Int) < n := by omega
 clear hc0 hcm
 have HL := z9 hl
 have HI := z9 h
 clear hl h
 go_enter Tryz.func177, Tryz.ntmps177
 go_wp2
 go_loopw [13] (fun i wr => ∃ (k : Nat), k ≤ n ∧ i = .int .i64 k ∧ Hid (∀ j, j < k → dotE (l.getD j noneD).1 (l.getD j noneD).2 = 0) ∧ Hid (Below w.heap.size w wr)) (fun i _ => n - (intOf i).toNat)
 case atStart => exact ⟨0, by omega, rfl, fun j hj => absurd hj (by omega), Below.refl _ _⟩
 case round =>
  obtain ⟨k, hk, rfl, HG, HB⟩ := hrel
  by_cases hlt : k < n
  ·have hltz : (k : Int) < n := by omega
   obtain ⟨b, o, rfl, hc⟩ := HI.out.some (by intro e; have := HL.out; rw [e] at this; simp at this; omega)
   have hkl : k < l.length := by rw [HL.out]; exact hlt
   have ha := (hc k hkl).below HB.out (hc k hkl).lt
   obtain ⟨x, hx⟩ : ∃ x, x = l.getD k noneD := ⟨_, rfl⟩
   rw [← hx] at ha
   have HX := z9 hx
   obtain ⟨x1, x2⟩ := x
   obtain ⟨a1, a2⟩ := ha
   simp only at a1 a2
   clear hc hx
   have C := dotCheck_any x1 x2 (wr.alloc (.cells #[.int .i64 x1, .int .i64 x2] 72))
   by_cases h0 : dotE x1 x2 = 0
   ·rw [h0, errV_zero] at C
    have HG2 : Hid (∀ j, j < k + 1 → dotE (l.getD j noneD).1 (l.getD j noneD).2 = 0) := by
     intro j hj
     rcases Nat.lt_succ_iff_lt_or_eq.1 hj with h | rfl
     ·exact HG.out j h
     ·rw [← HX.out]; exact h0
    clear h0
    go_wp2_with fail
    refine C.mono ?_
    rintro e w2 ⟨rfl, hb2⟩
    have HB2 := z9 (bel_new HB.out hb2)
    clear hb2 C a1 a2
    go_wp2_with fail
    go_roundw
    case rel => exact ⟨k + 1, by omega, by go_num, HG2, HB2⟩
    case measure => simp [intOf]; omega
   ·obtain ⟨q, hq⟩ : ∃ q, q = dotE x1 x2 := ⟨_, rfl⟩
    have HQ : Hid (errV (sawE l) = .iface 84 (.int .i64 q)) := by
     unfold Hid; rw [HE.out, dotsE_fault hkl HG.out (by rw [← HX.out]; exact h0), ← HX.out, hq, errV_ne h0]
    rw [errV_ne h0, ← hq] at C
    clear h0 hq
    go_wp2_with fail
    refine C.mono ?_
    rintro e w2 ⟨rfl, hb2⟩
    have HB2 := z9 (bel_new HB.out hb2)
    clear hb2 C
    go_wp2_with fail
    go_ret
    exact ⟨by rw [HQ.out]; rfl, HB2.out⟩
  ·obtain rfl : k = n := by omega
   have HZ := z9 (all_zero (fun j hj => HG.out j (by rw [← HL.out]; exact hj)))
   clear HG hlt
   go_wp2_with fail
   go_loopw [6] (fun i wr2 => ∃ (m : Nat), (m = 0 ∨ m + 1 ≤ k) ∧ i = .int .i64 ((m + 1 : Nat) : Int) ∧ Hid (∀ j, j < m → dlt (l.getD j noneD) (l.getD (j + 1) noneD) = true) ∧ Hid (Below w.heap.size w wr2)) (fun i _ => k + 1 - (intOf i).toNat)
   case atStart => exact ⟨0, Or.inl rfl, rfl, fun j hj => absurd hj (by omega), HB⟩
   case round =>
    clear HB
    obtain ⟨m, hm, rfl, HG, HB⟩ := hrel
    by_cases hlt : m + 1 < k
    ·obtain ⟨j, hj⟩ : ∃ j : Nat, j = m + 1 := ⟨_, rfl⟩
     have hltz : (j : Int) < k := by omega
     obtain ⟨b, o, rfl, hc⟩ := HI.out.some (by intro e; have := HL.out; rw [e] at this; simp at this; omega)
     have hkl : m + 1 < l.length := by rw [HL.out]; exact hlt
     have ha := (hc (m + 1) hkl).below HB.out (hc (m + 1) hkl).lt
     have hb := (hc m (by omega)).below HB.out (hc m (by omega)).lt
     obtain ⟨x, hx⟩ : ∃ x, x = l.getD (m + 1) noneD := ⟨_, rfl⟩
     obtain ⟨y, hy⟩ : ∃ y, y = l.getD m noneD := ⟨_, rfl⟩
     rw [← hx, ← hj] at ha
     rw [← hy] at hb
     have HX := z9 hx
     have HY := z9 hy
     obtain ⟨x1, x2⟩ := x
     obtain ⟨y1, y2⟩ := y
     obtain ⟨a1, a2⟩ := ha
     obtain ⟨c1, c2⟩ := hb
     simp only at a1 a2 c1 c2
     have HQL : Hid (dcmp (y1, y2) (x1, x2) < 0 ↔ dlt (y1, y2) (x1, x2) = true) := dcmp_lt
     obtain ⟨q, hq⟩ : ∃ q, q = dcmp (y1, y2) (x1, x2) := ⟨_, rfl⟩
     have C2 := fun W => compareDots_any y1 y2 x1 x2 W
     rw [← hq] at C2 HQL
     have hjm : IntKind.i64.wrap ((j : Int) - 1) = (m : Int) := by rw [show (j : Int) - 1 = (m : Int) by omega]; exact wrap_in (by omega) (by omega)
     have hmz : (m : Int) < k := by omega
     have HJ := z9 hj
     rw [← hj]
     clear hc hx hy hq
     by_cases hq0 : 0 ≤ q
     ·have HQ : Hid (errV (sawE l) = .iface 84 (.int .i64 7)) := by
       have h9 : dlt (y1, y2) (x1, x2) = false := by
        cases h8 : dlt (y1, y2) (x1, x2)
        ·rfl
        ·exact absurd (HQL.out.2 h8) (by omega)
       unfold Hid; rw [HE.out, dotsE_seven HZ.out hkl (by rw [← HX.out, ← HY.out]; exact h9)]; rfl
      clear hj HQL
      go_wp2_with fail
      go_region_held3 (fun W => W.cell? ⟨b, o + m * 2, none⟩ = some (.int .i64 y1) ∧ W.cell? ⟨b, o + m * 2 + 1, none⟩ = some (.int .i64 y2) ∧ W.cell? ⟨b, o + j * 2, none⟩ = some (.int .i64 x1) ∧ W.cell? ⟨b, o + j * 2 + 1, none⟩ = some (.int .i64 x2)) (first | (go_keep; done) | (refine ⟨keep_cell hb7 ?_, keep_cell hb7 ?_, keep_cell hb7 ?_, keep_cell hb7 ?_⟩ <;> (go_split_ands; assumption))) (first
       | (go_at_call 196; refine (C2 _).mono ?_; rintro e w7 ⟨rfl, hb7⟩; have HB7 := z9 (bel HB.out.drew hb7)))
      all_goals
       go_wp2_with fail
       go_ret
       exact ⟨by rw [HQ.out]; rfl, HB7.out⟩
     ·have h9 : dlt (y1, y2) (x1, x2) = true := HQL.out.1 (by omega)
      have HG2 : Hid (∀ i, i < m + 1 → dlt (l.getD i noneD) (l.getD (i + 1) noneD) = true) := by
       intro i hi
       rcases Nat.lt_succ_iff_lt_or_eq.1 hi with h | rfl
       ·exact HG.out i h
       ·rw [← HX.out, ← HY.out]; exact h9
      clear h9 hj HQL
      go_wp2_with fail
      go_region_held3 (fun W => W.cell? ⟨b, o + m * 2, none⟩ = some (.int .i64 y1) ∧ W.cell? ⟨b, o + m * 2 + 1, none⟩ = some (.int .i64 y2) ∧ W.cell? ⟨b, o + j * 2, none⟩ = some (.int .i64 x1) ∧ W.cell? ⟨b, o + j * 2 + 1, none⟩ = some (.int .i64 x2)) (first | (go_keep; done) | (refine ⟨keep_cell hb7 ?_, keep_cell hb7 ?_, keep_cell hb7 ?_, keep_cell hb7 ?_⟩ <;> (go_split_ands; assumption))) (first
       | (go_at_call 196; refine (C2 _).mono ?_; rintro e w7 ⟨rfl, hb7⟩; have HB7 := z9 (bel HB.out.drew hb7)))
      all_goals
       go_wp2_with fail
       go_roundw
       case rel => exact ⟨m + 1, Or.inr (by omega), by rw [HJ.out]; go_num, HG2, HB7⟩
       case measure => have := HJ.out; simp [intOf]; omega
    ·have HQ : Hid (errV (sawE l) = .nilIface) := by
      unfold Hid; rw [HE.out, dotsE_ok HZ.out (fun i hi => HG.out i (by rw [HL.out] at hi; omega))]; exact errV_zero
     obtain ⟨j, hj⟩ : ∃ j : Nat, j = m + 1 := ⟨_, rfl⟩
     have hltz : ¬ (j : Int) < k := by omega
     rw [← hj]
     clear hj hm
     go_wp2_with fail
     go_ret
     exact ⟨by rw [HQ.out]; rfl, HB.out⟩
end Nj
end Go.Proofs.YtlmdchpbpgcfmaaGreatDoor
