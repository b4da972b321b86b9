import Derived.Test.YtlmdchpbpgcfmaaGreatDoorF0
import Derived.Test.YtlmdchpbpgcfmaaGreatDoorFn
import Derived.Test.YtlmdchpbpgcfmaaGreatDoorShf
import Derived.OwnWalk
import Derived.Laws.OwnMore
import Derived.Maps.AppendAt
import Derived.Laws.Tables
import Derived.Laws.IdiomStrings
import Derived.Lib.UnsafeStr
import Derived.Lib.BufferWrite
import Derived.Laws.MakeOwn
set_option linter.unusedSimpArgs false
set_option linter.unusedVariables false
set_option maxRecDepth 100000
set_option maxHeartbeats 8000000
/- Package find: All. -/
namespace Go.Proofs.YtlmdchpbpgcfmaaGreatDoor
namespace F2
open Go.ChangeShapes Go.WideShapes Go.ChangeAt Go.RowKit Ka Kb Fi F1 Fnn
/- the library's number of how long a part it seeks by itself: some number -/
def ML (w:World):Prop:=∃m,w.cell? ⟨1,0,none⟩=some (.int .i64 m)
theorem ML.below {w w':World} (h:ML w) (hb:Below w.heap.size w w'):ML w':=by
 obtain⟨m,h⟩:=h
 exact⟨m,(hb.cell (p:=⟨1,0,none⟩) (World.block_lt_of_cell? _ _ h)).trans h⟩
theorem ext_drop (t:ByteArray) (q:Nat):(t.extract q t.size).data.toList=t.toList.drop q:=by
 rw[Lib.extract_to_end,ByteArray.toList_eq]
def allE (t p:ByteArray):Int:=if 300<t.size∨200<p.size then 4 else if p.size=0 then 3 else 0
def allR (t p:ByteArray):List Nat:=if allE t p=0 then all t.toList p.toList else[]
theorem nil_of {p:ByteArray} (h:p.size=0):p=⟨#[]⟩:=by
 cases p with
 | mk d=>
  have:d.size=0:=h
  rw[Array.eq_empty_of_size_eq_zero this]
theorem all_full (t p:ByteArray) (w:World) (hts:t.size≤maxLen) (hps:p.size≤maxLen) (h:300<t.size∨200<p.size):
  Calls Tryz.prog 22 #[.string t,.string p] w fun e w'=>e=.returned (.tuple #[.slice none 0 0,.iface 84 (.int .i64 4)])∧w'=w:=by
 unfold maxLen at hts hps
 by_cases h1:300<t.size
 ·have h1z:(300:Int)<t.size:=by omega
  go_enter Tryz.func22,Tryz.ntmps22
  go_wp2_with fail
  go_ret2
  exact⟨rfl,rfl⟩
 ·have h1z:¬(300:Int)<t.size:=by omega
  have h2z:(200:Int)<p.size:=by omega
  go_enter Tryz.func22,Tryz.ntmps22
  go_wp2_with fail
  go_ret2
  exact⟨rfl,rfl⟩
theorem all_empty (t:ByteArray) (w:World) (h:t.size≤300):
  Calls Tryz.prog 22 #[.string t,.string ⟨#[]⟩] w fun e w'=>e=.returned (.tuple #[.slice none 0 0,.iface 84 (.int .i64 3)])∧w'=w:=by
 have h1z:¬(300:Int)<t.size:=by omega
 go_enter Tryz.func22,Tryz.ntmps22
 go_wp2_with fail
 go_ret2
 exact⟨rfl,rfl⟩
theorem all_is (t p:ByteArray) (w:World) (hM:ML w) (ht3:t.size≤300) (hp2:p.size≤200) (hp0:p.size≠0):
  Calls Tryz.prog 22 #[.string t,.string p] w fun e w'=>∃v,e=.returned (.tuple #[v,.nilIface])∧w'.ownsRow w.heap.size 3 1 v (all t.toList p.toList).length (intsV (all t.toList p.toList))∧Below w.heap.size w w':=by
 obtain⟨i0,hi,hz0,hz1,hz2⟩:=info_parts infoInt
 have HTL:Hid (t.toList.length=t.size∧p.toList.length=p.size):=⟨len_eq t,len_eq p⟩
 have HP0:Hid (p.toList≠[]):=fun e=>hp0 (by rw[←len_eq,e];rfl)
 have hpos:0<p.size:=by omega
 have h1z:¬(300:Int)<t.size:=by omega
 have h2z:¬(200:Int)<p.size:=by omega
 have h3b:(p.toList==[])=false:=by simpa using HP0.out
 have HM:=z9 hM
 clear hM hp0
 go_enter Tryz.func22,Tryz.ntmps22
 go_wp2_with fail
 go_loopw [6,7] (fun vo vf wr=>∃(q:Nat) (L:List Nat),q≤t.size∧vf=.int .i64 q∧L.length≤q∧Hid (wr.ownsRow w.heap.size 3 1 vo L.length (intsV L))∧Hid (all t.toList p.toList=L++allF t.toList p.toList (t.toList.length+1) q)∧Hid (Below w.heap.size w wr)) (fun _ vf _=>t.size+1-(intOf vf).toNat)
 case atStart=>exact⟨0,[],by omega,rfl,by simp,⟨rfl,Or.inl ⟨rfl,rfl⟩⟩,rfl,Below.refl _ _⟩
 case round=>
  obtain⟨q,L,hqt,rfl,hLq,HO,HA,HB⟩:=hrel
  obtain⟨m,hm⟩:=HM.out.below HB.out
  have C:=Tryz.strings_Index (t.extract q t.size) p m wr (by rw[ByteArray.size_extract];omega) hm
  rw[ext_drop,←ByteArray.toList_eq] at C
  clear hm
  have hqz:(q:Int)≤(t.size:Int):=by omega
  rcases first_or (t.toList.drop q) p.toList HP0.out with⟨hk,_⟩ | ⟨k,hk,_⟩
  ·have HE:Hid (all t.toList p.toList=L):=by rw[Hid,HA.out,next_none HP0.out hk,List.append_nil]
   rw[hk] at C
   clear hk
   go_wp2_with fail
   refine C.mono ?_
   rintro e w2 ⟨rfl,rfl⟩
   clear C
   go_wp2_with fail
   go_ret2
   exact⟨_,rfl,by rw[HE.out];exact HO.out,HB.out⟩
  ·obtain⟨hle,hnx⟩:=next_some HP0.out hk
   have hle2:q+k+p.size≤t.size:=by rw[←HTL.out.1,←HTL.out.2];exact hle
   have HA2:Hid (all t.toList p.toList=(L++[q+k])++allF t.toList p.toList (t.toList.length+1) (q+k+p.size)):=by
    rw[Hid,HA.out,hnx,HTL.out.2];simp
   rw[hk] at C
   clear hk hle hnx
   go_wp2_with fail
   refine C.mono ?_
   rintro e w2 ⟨rfl,rfl⟩
   clear C
   have hqk:(q:Int)+(k:Int)=((q+k:Nat):Int):=by omega
   have hqn:(0:Int)≤(k:Int):=by omega
   have hqm:¬(k:Int)<0:=by omega
   have HN:Hid (∀j u,([.int .i64 ((q:Int)+(k:Int))]:List Value)[j]? =some u→(w2.alloc (.cells #[.int .i64 ((q:Int)+(k:Int))] 3)).cell? ((⟨w2.heap.size,0,none⟩:Addr).add j)=some u):=by
    intro j u hu
    rw[Addr.add_lit,Nat.zero_add]
    simp only[World.cell?,heap_alloc_new]
    simpa using hu
   have HO2:Hid ((w2.alloc (.cells #[.int .i64 ((q:Int)+(k:Int))] 3)).ownsRow w.heap.size 3 1 u6 L.length (intsV L)):=HO.out.alloc _
   have HQK:=z9 hqk
   clear hqk
   go_wp2_with (at_builtin;refine wpList_append_own_at _ rfl (.tmp 29) (.tmp 33) 39 rfl w.heap.size 3 i0 (.int .i64 0) 1 8 Tryz.underlying39 hi hz0 hz1 hz2 rfl (by decide) _ L.length (intsV L) rfl HO2.out ⟨w2.heap.size,0,none⟩ 1 1 [.int .i64 ((q:Int)+(k:Int))] rfl rfl HN.out (by intro u hu;simp at hu;subst hu;rfl) (by unfold maxLen;omega) (by omega) (by have:=HB.out.size;simp;omega) ?_;intro v' w3 hown' hgrow _ hat2;have HO3:Hid (w3.ownsRow w.heap.size 3 1 v' (L++[q+k]).length (intsV (L++[q+k]))):=(by unfold intsV;rw[HQK.out] at hown';rw[List.length_append,List.map_append];exact hown');have HB3:Hid (Below w.heap.size w w3):=(HB.out.alloc HB.out.size _).grown hgrow (by have:=HB.out.size;simp;omega) (fun k hk=>(HO2.out.lt k hk).1);clear hown' hgrow hat2)
   go_roundw
   case rel=>exact⟨q+k+p.size,L++[q+k],by omega,by go_num,by rw[List.length_append,List.length_singleton];omega,HO3,HA2,HB3⟩
   case measure=>simp[intOf];omega
theorem own_nil (w:World) (B:Nat):w.ownsRow B 3 1 (.slice none 0 0) 0 []:=⟨rfl,Or.inl ⟨rfl,rfl⟩⟩
theorem all_any (t p:ByteArray) (w:World) (hM:ML w) (hts:t.size≤maxLen) (hps:p.size≤maxLen):
  Calls Tryz.prog 22 #[.string t,.string p] w fun e w'=>∃v,e=.returned (.tuple #[v,errV (allE t p)])∧w'.ownsRow w.heap.size 3 1 v (allR t p).length (intsV (allR t p))∧Below w.heap.size w w':=by
 by_cases h1:300<t.size∨200<p.size
 ·have e4:allE t p=4:=by unfold allE;rw[if_pos h1]
  have hR:allR t p=[]:=by unfold allR;rw[e4,if_neg (by decide)]
  rw[e4,hR]
  refine(all_full t p w hts hps h1).mono ?_
  rintro e w' ⟨rfl,rfl⟩
  exact⟨_,rfl,own_nil _ _,Below.refl _ _⟩
 ·by_cases h2:p.size=0
  ·have e3:allE t p=3:=by unfold allE;rw[if_neg h1,if_pos h2]
   have hR:allR t p=[]:=by unfold allR;rw[e3,if_neg (by decide)]
   rw[e3,hR]
   obtain rfl:=nil_of h2
   refine(all_empty t w (by omega)).mono ?_
   rintro e w' ⟨rfl,rfl⟩
   exact⟨_,rfl,own_nil _ _,Below.refl _ _⟩
  ·have e0:allE t p=0:=by unfold allE;rw[if_neg h1,if_neg h2]
   have hR:allR t p=all t.toList p.toList:=by unfold allR;rw[e0,if_pos rfl]
   rw[e0,hR]
   exact all_is t p w hM (by omega) (by omega) h2
end F2
end Go.Proofs.YtlmdchpbpgcfmaaGreatDoor
/- Package find: Words. -/
namespace Go.Proofs.YtlmdchpbpgcfmaaGreatDoor
namespace F3
open Go.ChangeShapes Go.WideShapes Go.ChangeAt Go.RowKit Ka Kb Fi F1 Fnn F2 Fr
theorem info5:(Tryz.prog.info? 5).map (fun i=>(i.zero,i.size,i.bytes))=some (some (.int .u8 0),1,1):=by kernel_rfl
theorem bytes_inj {a b:ByteArray} (h:a.toList=b.toList):a=b:=by
 rw[ByteArray.toList_eq,ByteArray.toList_eq] at h
 cases a;cases b
 simp at h;rw[h]
theorem addr_zero (g j:Nat):(⟨g,0,none⟩:Addr).add j=⟨g,j,none⟩:=by
 unfold Addr.add
 by_cases h:j=0<;>simp[h]
theorem cell_of {w:World} {g i:Nat} {cur:Array Value} {t:TypeId} {f:Nat × Nat} (hg:w.heap[g]? =some (.cells cur t f)) {v:Value} (hv:cur[i]? =some v):w.cell? ⟨g,i,none⟩=some v:=by
 simp only[World.cell?,hg];exact hv
/- strings.Clone -/
theorem lite_any (s:ByteArray) (w:World) (hs:s.size≤300):
  Calls Tryz.prog 101 #[.string s] w fun e w'=>e=.returned (.string s)∧Below w.heap.size w w':=by
 by_cases h0:s.size=0
 ·obtain rfl:s=⟨#[]⟩:=nil_of h0
  go_enter Tryz.func101,Tryz.ntmps101
  go_wp2_with fail
  go_ret
  exact⟨rfl,Below.refl _ _⟩
 ·obtain⟨i0,hi,hz0,hz1,hz2⟩:=info_parts info5
  have hin:(Tryz.prog.info? 5).map (·.size)=some 1:=by rw[hi];simp[hz1]
  have hce:Tryz.prog.cellsOf 5=1:=by simp[Program.cellsOf,hi,hz1]
  have hne:s.data.toList≠[]:=by
   intro e
   apply h0
   rw[←Kb.len_eq,ByteArray.toList_eq,e];rfl
  have hsl:s.data.toList.length=s.size:=by rw[←ByteArray.toList_eq,Kb.len_eq]
  obtain⟨Z,hZ⟩:∃Z,Z=madeCells (Value.int .u8 0).cells (((s.size:Nat):Int).toNat*i0.size):=⟨_,rfl⟩
  have hZs:Z.size=s.size:=by rw[hZ,size_madeCells,hz1];simp
  have mk:∀W:World,(Instr.makeSlice 178 (.int .i64 (s.size:Int)) (.int .i64 (s.size:Int))).run Tryz.prog W=.ok (.slice (some ⟨W.heap.size,0,none⟩) s.size s.size) (W.alloc (.cells Z 5)):=by
   intro W
   have h:=run_make (P:=Tryz.prog) W 178 5 i0 (.int .u8 0) Tryz.underlying178 hi hz0 .i64 .i64 (s.size:Int) (s.size:Int) (by omega) (by omega) (by rw[hz2];omega) (by omega)
   rw[←hZ] at h
   simpa using h
  obtain⟨Y,hY⟩:∃Y,Y=(Z.toList.take 0++Lib.byteCells s.data.toList++Z.toList.drop (0+s.size)).toArray:=⟨_,rfl⟩
  have cp:=Lib.run_copy_row_string (P:=Tryz.prog) (w.alloc (.cells Z 5)) 178 9 3 5 w.heap.size 0 s.size s.size s Z 5 Tryz.underlying178 hin (heap_alloc_new w _) (Nat.le_refl _) (by omega)
  rw[←hY] at cp
  have hYl:Y.toList=Lib.byteCells s.data.toList:=by
   rw[hY,List.toList_toArray,List.take_zero,List.nil_append,List.drop_of_length_le (by rw[Array.length_toList];omega),List.append_nil]
  have hYs:Y.size=s.size:=by rw[←Array.length_toList,hYl,Lib.byteCells_length,hsl]
  have hb:((w.alloc (.cells Z 5)).setRow w.heap.size Y).heap[w.heap.size]? =some (.cells Y 5 (0,0)):=setRow_heap _ _ Z _ 5 (0,0) (heap_alloc_new w _)
  have us:=Lib.run_unsafeString_row (P:=Tryz.prog) ((w.alloc (.cells Z 5)).setRow w.heap.size Y) 212 3 9 5 Tryz.underlying212 hce w.heap.size Y.size (by unfold World.shape?;rw[hb]) s.data.toList hne (by omega) (by omega) (by
   intro j x hx
   rw[addr_zero]
   refine cell_of hb ?_
   rw[←Array.getElem?_toList,hYl]
   simp[Lib.byteCells,hx])
  rw[hsl] at us
  have HBE:Hid (Below w.heap.size w ((w.alloc (.cells Z 5)).setRow w.heap.size Y)):=
   ((Below.refl _ w).alloc (Nat.le_refl _) _).trans ⟨rfl,rfl,rfl,by simp,fun k hk=>setRow_other _ _ _ _ (by omega)⟩
  have hsz:(s.size:Int)≤300:=by omega
  have h0b:((s.size:Int)==0)=false:=by simpa using h0
  have h0p:0<s.size:=by omega
  have h0z:(0:Int)<s.size:=by omega
  clear hY hZ hb hYl hne hsl h0
  go_enter Tryz.func101,Tryz.ntmps101
  go_wp2_with fail
  go_ret
  exact⟨rfl,Lib.below_freeze HBE.out (p:=⟨w.heap.size,0,none⟩) (Nat.le_refl _) _⟩
theorem clone_any (s:ByteArray) (w:World) (hs:s.size≤300):
  Calls Tryz.prog 59 #[.string s] w fun e w'=>e=.returned (.string s)∧Below w.heap.size w w':=by
 have C:=lite_any s w hs
 go_enter Tryz.func59,Tryz.ntmps59
 go_wp2_with fail
 refine C.mono ?_
 rintro e w2 ⟨rfl,hb⟩
 have HB:=z9 hb
 clear hb C
 go_wp2_with fail
 go_ret
 exact⟨rfl,HB.out⟩
/- what lies there is laid there once more -/
theorem set_same {w:World} {g i:Nat} {v:Value} (h:w.cell? ⟨g,i,none⟩=some v):w.setCell ⟨g,i,none⟩ v=w:=by
 unfold World.cell? at h
 cases hg:w.heap[g]? with
 | none=>rw[hg] at h;cases h
 | some o=>
  rw[hg] at h
  have hlt:g<w.heap.size:=(Array.getElem?_eq_some_iff.1 hg).1
  have he:w.heap[g]'hlt=o:=(Array.getElem?_eq_some_iff.1 hg).2
  have hh:(w.setCell ⟨g,i,none⟩ v).heap=w.heap:=by
   refine Array.ext (by simp[World.setCell]) fun k h1 h2=> ?_
   simp only[World.setCell,Array.getElem_modify]
   split
   ·rename_i e
    subst e
    rw[he]
    cases o with
    | cells c t f=>
     simp only[Option.isSome_none,Bool.false_eq_true,if_false] at h ⊢
     congr 1
     refine Array.ext (by simp) fun j j1 j2=> ?_
     rw[Array.getElem_setIfInBounds]
     split
     ·rename_i ej
      subst ej
      exact(Option.some.inj ((Array.getElem?_eq_getElem j2).symm.trans h)).symm
     ·rfl
    | _=>rfl
   ·rfl
  cases w
  simp only[World.setCell] at hh ⊢
  rw[hh]
theorem enter_blank (args:Array Value) (W:World):(callFunc 58 args).run Tryz.prog W=.ok (.enter 58 args) W:=by
 first | kernel_rfl | simp[callFunc,go_sem,Tryz.func58]
theorem blank_any (x:Nat) (w:World):Calls Tryz.prog 58 #[.int .i32 (x:Int)] w fun e w'=>e=.returned (.bool (x==32))∧w'=w:=by
 have H:Hid (((x:Int)==32)=(x==32)):=by
  rw[Hid,Bool.eq_iff_iff,beq_iff_eq,beq_iff_eq];omega
 go_enter Tryz.func58,Tryz.ntmps58
 go_wp2_with fail
 go_ret
 exact⟨ret_bool H.out,rfl⟩
theorem blank_pred (w:World):PredAtRunes Tryz.prog 58 #[] (fun r=>r==32) w:=by
 intro W x _ _
 refine(blank_any x W).mono ?_
 rintro e w' ⟨rfl,rfl⟩
 exact⟨rfl,0,rfl⟩
def strV (l:List ByteArray):List Value:=l.map Value.string
theorem strV_at {l:List ByteArray} {k:Nat} (hk:k<l.length):(strV l)[k]? =some (.string (l.getD k ByteArray.empty)):=by
 unfold strV
 rw[List.getElem?_map,List.getD_eq_getElem?_getD,List.getElem?_eq_getElem hk];rfl
theorem words_len (t:List UInt8):(words t).length≤t.length+1∧∀w ∈ words t,w.length≤t.length:=by
 have key:∀l:List UInt8,(cutC 32 l).length≤l.length+1∧∀w ∈ cutC 32 l,w.length≤l.length:=fun l=>by
  induction l with
  | nil=>simp[cutC]
  | cons x r ih=>
   have hne:=cutC_ne 32 r
   unfold cutC
   split
   ·refine⟨by rw[List.length_cons,List.length_cons];omega,fun w hw=> ?_⟩
    rcases List.mem_cons.1 hw with rfl | hw
    ·simp
    ·have:=ih.2 w hw
     rw[List.length_cons];omega
   ·cases e:cutC 32 r with
    | nil=>exact absurd e hne
    | cons a b=>
     rw[e] at ih
     refine⟨by have:=ih.1;simp only[List.length_cons,List.tail_cons] at this ⊢;omega,fun w hw=> ?_⟩
     simp only[List.headD_cons,List.tail_cons] at hw
     rcases List.mem_cons.1 hw with rfl | hw
     ·have:=ih.2 a (List.mem_cons_self ..)
      simp only[List.length_cons];omega
     ·have:=ih.2 w (List.mem_cons_of_mem _ hw)
      simp only[List.length_cons];omega
 exact⟨Nat.le_trans (List.length_filter_le _ _) (key t).1,fun w hw=>(key t).2 w (List.mem_filter.1 hw).1⟩
theorem words_full (s:ByteArray) (w:World) (hs:s.size≤maxLen) (h:300<s.size):
  Calls Tryz.prog 25 #[.string s] w fun e w'=>e=.returned (.tuple #[.slice none 0 0,.iface 84 (.int .i64 4)])∧w'=w:=by
 unfold maxLen at hs
 have h1z:(300:Int)<s.size:=by omega
 go_enter Tryz.func25,Tryz.ntmps25
 go_wp2_with fail
 go_ret2
 exact⟨rfl,rfl⟩
theorem words_is (s:ByteArray) (w:World) (hs:s.size≤300):
  Calls Tryz.prog 25 #[.string s] w fun e w'=>∃v,∃ws:List ByteArray,e=.returned (.tuple #[v,.nilIface])∧ws.map (fun b=>b.toList)=words s.toList∧w'.ownsRow w.heap.size 9 1 v ws.length (strV ws)∧Below w.heap.size w w':=by
 have C:=Tryz.strings_FieldsFunc_runes 58 #[] enter_blank (fun r=>r==32) s w (by omega) (blank_pred w)
 have HW:=z9 (fields_words s)
 obtain⟨ws,hws⟩:∃ws,Lib.goFieldsP (fun r=>r==32) s=ws:=⟨_,rfl⟩
 rw[hws] at C HW
 have hn:ws.length≤301:=by
  have h1:=congrArg List.length HW.out
  rw[List.length_map] at h1
  have h2:=(words_len s.toList).1
  rw[Kb.len_eq] at h2
  omega
 have HS:Hid (∀k,k<ws.length→(ws.getD k ByteArray.empty).size≤300):=by
  intro k hk
  have h1:(ws.getD k ByteArray.empty).toList ∈ words s.toList:=by
   rw[←HW.out,List.getD_eq_getElem?_getD,List.getElem?_eq_getElem hk]
   exact List.mem_map.2 ⟨_,List.getElem_mem hk,rfl⟩
  have h2:=(words_len s.toList).2 _ h1
  rw[Kb.len_eq,Kb.len_eq] at h2
  omega
 clear hws
 obtain⟨n,hnn⟩:∃n,ws.length=n:=⟨_,rfl⟩
 rw[hnn] at C hn
 have HN:=z9 hnn
 clear hnn
 have h1z:¬(300:Int)<s.size:=by omega
 go_enter Tryz.func25,Tryz.ntmps25
 go_wp2_with fail
 refine C.mono ?_
 rintro e w1 ⟨A,rfl,hA,hown,hb⟩
 clear C
 have HO:=z9 hown
 have HB1:=z9 hb
 have HC:Hid (∀k,k<n→w1.cell? ⟨A,k,none⟩=some (.string (ws.getD k ByteArray.empty))):=by
  intro k hk
  obtain⟨g,cap,e,hc⟩:=own_cells hown (by omega)
  injection e with e1 _ _
  have e2:A=g:=by injection (Option.some.inj e1)
  subst e2
  have:=hc k _ (strV_at (by rw[HN.out];exact hk))
  rwa [Nat.zero_add] at this
 have HF:Hid (∃cur,w1.heap[A]? =some (.cells cur 9 (0,0))):=by
  rcases hown.2 with⟨h9,_⟩ | ⟨g,cap,cur,e,_,hg,_⟩
  ·cases h9
  ·injection e with e1 _ _
   have e2:A=g:=by injection (Option.some.inj e1)
   subst e2
   exact⟨cur,hg⟩
 clear hown hb hA
 go_wp2_with fail
 go_loopw [15] (fun vi wr=>∃(k:Nat),k≤n∧vi=.int .i64 k∧Hid (Below w1.heap.size w1 wr)) (fun vi _=>n-(intOf vi).toNat)
 case atStart=>exact⟨0,by omega,rfl,Below.refl _ _⟩
 case round=>
  obtain⟨k,hk,rfl,HB⟩:=hrel
  by_cases hlt:k<n
  ·have hltz:(k:Int)<n:=by omega
   have hAl:A<w1.heap.size:=World.block_lt_of_cell? _ _ (HC.out k hlt)
   have a0:=(HB.out.cell (p:=⟨A,k,none⟩) hAl).trans (HC.out k hlt)
   have hsx:=HS.out k (by rw[HN.out];exact hlt)
   obtain⟨x,hx⟩:∃x,ws.getD k ByteArray.empty=x:=⟨_,rfl⟩
   rw[hx] at a0 hsx
   clear hx
   have C:=clone_any x wr hsx
   clear hsx
   have HF2:Hid (∃cur,wr.heap[A]? =some (.cells cur 9 (0,0))):=by
    obtain⟨cur,h9⟩:=HF.out
    exact⟨cur,(HB.out.block A hAl).trans h9⟩
   have HA2:=z9 a0
   go_wp2_with fail
   refine C.mono ?_
   rintro e w2 ⟨rfl,hb2⟩
   clear C
   have HB2:=z9 (HB.out.trans (hb2.mono HB.out.size))
   have b0:w2.cell? ⟨A,k,none⟩=some (.string x):=(hb2.cell (p:=⟨A,k,none⟩) (World.block_lt_of_cell? _ _ HA2.out)).trans HA2.out
   have bf:w2.frozen? ⟨A,k,none⟩=false:=by
    obtain⟨cur,h9⟩:=HF2.out
    have h8:w2.heap[A]? =some (.cells cur 9 (0,0)):=(hb2.block A (World.block_lt_of_cell? _ _ HA2.out)).trans h9
    simp[World.frozen?,h8]
   have HSM:=z9 (set_same b0)
   clear hb2 a0
   go_wp2_with fail
   rw[HSM.out]
   go_roundw
   case rel=>exact⟨k+1,by omega,by go_num,HB2⟩
   case measure=>simp[intOf];omega
  ·have hltz:¬(k:Int)<n:=by omega
   have hO2:wr.ownsRow w.heap.size 9 1 (.slice (some ⟨A,0,none⟩) n n) n (strV ws):=by
    refine⟨HO.out.1, ?_⟩
    rcases HO.out.2 with h0 | ⟨g,cap,cur,h1,h2,h3,h4⟩
    ·exact Or.inl h0
    ·refine Or.inr ⟨g,cap,cur,h1,h2, ?_,h4⟩
     rw[HB.out.block g (Array.getElem?_eq_some_iff.1 h3).1];exact h3
   have HO2:Hid (wr.ownsRow w.heap.size 9 1 (.slice (some ⟨A,0,none⟩) n n) ws.length (strV ws)):=by rw[Hid,HN.out];exact hO2
   clear hO2
   go_wp2_with fail
   go_ret2
   exact⟨_,rfl,ws,HW.out,HO2.out,HB1.out.trans (HB.out.mono HB1.out.size)⟩
def wordsE (s:ByteArray):Int:=if 300<s.size then 4 else 0
def wordsR (s:ByteArray):List (List UInt8):=if 300<s.size then[] else words s.toList
theorem words_any (s:ByteArray) (w:World) (hs:s.size≤maxLen):
  Calls Tryz.prog 25 #[.string s] w fun e w'=>∃v,∃ws:List ByteArray,e=.returned (.tuple #[v,errV (wordsE s)])∧ws.map (fun b=>b.toList)=wordsR s∧w'.ownsRow w.heap.size 9 1 v ws.length (strV ws)∧Below w.heap.size w w':=by
 by_cases h:300<s.size
 ·have e4:wordsE s=4:=by unfold wordsE;rw[if_pos h]
  have eR:wordsR s=[]:=by unfold wordsR;rw[if_pos h]
  rw[e4,eR]
  refine(words_full s w hs h).mono ?_
  rintro e w' ⟨rfl,rfl⟩
  exact⟨_,[],rfl,rfl,⟨rfl,Or.inl ⟨rfl,rfl⟩⟩,Below.refl _ _⟩
 ·have e4:wordsE s=0:=by unfold wordsE;rw[if_neg h]
  have eR:wordsR s=words s.toList:=by unfold wordsR;rw[if_neg h]
  rw[e4,eR]
  exact words_is s w (by omega)
end F3
end Go.Proofs.YtlmdchpbpgcfmaaGreatDoor
