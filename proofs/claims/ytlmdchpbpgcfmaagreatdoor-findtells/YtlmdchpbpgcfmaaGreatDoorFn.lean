import Derived.Test.YtlmdchpbpgcfmaaGreatDoorF0
import Derived.Test.YtlmdchpbpgcfmaaGreatDoorJ2
import Derived.OwnWalk
import Derived.Laws.OwnMore
import Derived.Maps.AppendAt
import Derived.Lib.IndexBytes
import Derived.Lib.Strings
import Derived.Deep.Onto
set_option linter.unusedSimpArgs false
set_option linter.unusedVariables false
set_option maxRecDepth 100000
set_option maxHeartbeats 8000000
/- The reference's All: where a part stands. -/
namespace Go.Proofs.YtlmdchpbpgcfmaaGreatDoor
namespace Fnn
open Go.ChangeShapes Go.WideShapes Go.ChangeAt Go.RowKit Ka Kb Fi
theorem infoInt:(Tryz.prog.info? 3).map (fun i=>(i.zero,i.size,i.bytes))=some (some (.int .i64 0),1,8):=by kernel_rfl
def intsV (L:List Nat):List Value:=L.map fun (x:Nat)=>Value.int .i64 (x:Int)
theorem list_extract (s:ByteArray) (i j:Nat):(s.extract i j).toList=(s.toList.take j).drop i:=by
 rw[ByteArray.toList_eq,ByteArray.toList_eq,ByteArray.data_extract,Array.toList_extract,List.extract_eq_take_drop]
 rw[List.drop_take]
theorem ext_at (t p:ByteArray) (i:Nat) (hpl:p.toList.length=p.size):(((t.extract i (i+p.size)).toList==p.toList))=isAt t.toList p.toList i:=by
 unfold isAt
 rw[list_extract,hpl,List.drop_take]
 congr 2
 omega
theorem all_ref (t p:ByteArray) (w:World) (hp:p.toList≠[]) (ht:t.toList.length=t.size) (hpl:p.toList.length=p.size) (ht3:t.size≤300) (hp2:p.size≤200):
  Calls Tryz.prog 21 #[.string t,.string p] w fun e w'=>∃v,e=.returned v∧w'.ownsRow w.heap.size 3 1 v (all t.toList p.toList).length (intsV (all t.toList p.toList))∧Below w.heap.size w w':=by
 obtain⟨i0,hi,hz0,hz1,hz2⟩:=info_parts infoInt
 have HP0:=z9 hp
 have HTL:Hid (t.toList.length=t.size∧p.toList.length=p.size):=⟨ht,hpl⟩
 have hpos:0<p.size:=by rw[←hpl];exact List.length_pos_iff.2 hp
 clear hp ht hpl
 go_enter Tryz.func21,Tryz.ntmps21
 go_wp2
 go_loopw [5,6] (fun vo vi wr=>∃(i:Nat) (L:List Nat),i≤t.size∧vi=.int .i64 i∧L.length≤i∧Hid (wr.ownsRow w.heap.size 3 1 vo L.length (intsV L))∧Hid (all t.toList p.toList=L++allF t.toList p.toList (t.toList.length+1) i)∧Hid (Below w.heap.size w wr)) (fun _ vi _=>t.size+1-(intOf vi).toNat)
 case atStart=>exact⟨0,[],by omega,rfl,by simp,⟨rfl,Or.inl ⟨rfl,rfl⟩⟩,rfl,Below.refl _ _⟩
 case round=>
  obtain⟨i,L,hit,rfl,hLi,HO,HA,HB⟩:=hrel
  by_cases hlt:i+p.size≤t.size
  ·have hltz:(i:Int)+(p.size:Int)≤(t.size:Int):=by omega
   have hs1:(0:Int)≤(i:Int)+(p.size:Int):=by omega
   have hs2:(i:Int)≤(i:Int)+(p.size:Int):=by omega
   have hsn:((i:Int)+(p.size:Int)).toNat=i+p.size:=by omega
   cases hat:isAt t.toList p.toList i with
   | true=>
    have hx:((t.extract i (i+p.size)).toList==p.toList)=true:=by rw[ext_at _ _ _ HTL.out.2];exact hat
    have HA2:Hid (all t.toList p.toList=(L++[i])++allF t.toList p.toList (t.toList.length+1) (i+p.size)):=by
     rw[Hid,HA.out,all_yes HP0.out hat,HTL.out.2];simp
    have HN:Hid (∀j u,([.int .i64 (i:Int)]:List Value)[j]? =some u→(wr.alloc (.cells #[.int .i64 (i:Int)] 3)).cell? ((⟨wr.heap.size,0,none⟩:Addr).add j)=some u):=by
     intro j u hu
     rw[Addr.add_lit,Nat.zero_add]
     simp only[World.cell?,heap_alloc_new]
     simpa using hu
    have HO2:Hid ((wr.alloc (.cells #[.int .i64 (i:Int)] 3)).ownsRow w.heap.size 3 1 u5 L.length (intsV L)):=HO.out.alloc _
    clear hat
    go_wp2_with (at_builtin;refine wpList_append_own_at _ rfl (.tmp 23) (.tmp 25) 39 rfl w.heap.size 3 i0 (.int .i64 0) 1 8 Tryz.underlying39 hi hz0 hz1 hz2 rfl (by decide) _ L.length (intsV L) rfl HO2.out ⟨wr.heap.size,0,none⟩ 1 1 [.int .i64 (i:Int)] rfl rfl HN.out (by intro u hu;simp at hu;subst hu;rfl) (by unfold maxLen;omega) (by omega) (by have:=HB.out.size;simp;omega) ?_;intro v' w2 hown' hgrow _ hat2;have HO3:Hid (w2.ownsRow w.heap.size 3 1 v' (L++[i]).length (intsV (L++[i]))):=(by unfold intsV;rw[List.length_append,List.map_append];exact hown');have HB3:Hid (Below w.heap.size w w2):=(HB.out.alloc HB.out.size _).grown hgrow (by have:=HB.out.size;simp;omega) (fun k hk=>(HO2.out.lt k hk).1);clear hown' hgrow hat2)
    go_roundw
    case rel=>exact⟨i+p.size,L++[i],by omega,by go_num,by rw[List.length_append,List.length_singleton];omega,HO3,HA2,HB3⟩
    case measure=>simp[intOf];omega
   | false=>
    have hx:((t.extract i (i+p.size)).toList==p.toList)=false:=by rw[ext_at _ _ _ HTL.out.2];exact hat
    have HA2:Hid (all t.toList p.toList=L++allF t.toList p.toList (t.toList.length+1) (i+1)):=by rw[Hid,HA.out,all_no HP0.out hat]
    clear hat
    go_wp2_with fail
    go_roundw
    case rel=>exact⟨i+1,L,by omega,by go_num,by omega,HO,HA2,HB⟩
    case measure=>simp[intOf];omega
  ·have hltz:¬(i:Int)+(p.size:Int)≤(t.size:Int):=by omega
   have HE:Hid (all t.toList p.toList=L):=by
    rw[Hid,HA.out,allF_end (by rw[HTL.out.1,HTL.out.2];exact hlt),List.append_nil]
   go_wp2_with fail
   go_ret
   exact⟨_,rfl,by rw[HE.out];exact HO.out,HB.out⟩
end Fnn
end Go.Proofs.YtlmdchpbpgcfmaaGreatDoor
/- The reference's Cut, at a blank. -/
namespace Go.Proofs.YtlmdchpbpgcfmaaGreatDoor
namespace Fr
open Go.ChangeShapes Go.WideShapes Go.ChangeAt Go.RowKit Ka Kb
theorem infoString:(Tryz.prog.info? 9).map (fun i=>(i.zero,i.size,i.bytes))=some (some (.string ByteArray.empty),1,16):=by kernel_rfl
theorem own_ge {w:World} {base:Nat} {t:TypeId} {v:Value} {n:Nat} {xs:List Value} (h:w.ownsRow base t 1 v n xs):∀k,v.ownBlock=some k→base≤k:=by
 intro k hk
 rcases h.2 with⟨rfl,_⟩ | ⟨g,cap,cur,rfl,hg,_⟩
 ·cases hk
 ·simp[Value.ownBlock] at hk;omega
theorem own_cells {w:World} {base:Nat} {t:TypeId} {v:Value} {n:Nat} {xs:List Value} (h:w.ownsRow base t 1 v n xs) (hn:0<n):
  ∃g cap,v=.slice (some ⟨g,0,none⟩) n cap∧∀j u,xs[j]? =some u→w.cell? ⟨g,0+j,none⟩=some u:=by
 rcases h.2 with⟨_,h0⟩ | ⟨g,cap,cur,rfl,hg,hh,h3,h4,h5,h6⟩
 ·omega
 ·refine⟨g,cap,rfl,fun j u hu=> ?_⟩
  have hj:j<n:=by
   have:=(List.getElem?_eq_some_iff.1 hu).1
   have h1:=h.1
   omega
  rw[←h6,Nat.mul_one,List.getElem?_take_of_lt hj] at hu
  rw[Nat.zero_add]
  simp only[World.cell?,hh]
  simpa using hu
/- one more behind -/
theorem own_grow {w wr w1:World} {t:TypeId} {v x:Value} {n:Nat} {xs:List Value} (h:wr.ownsRow w.heap.size t 1 v n xs) (hb:Below w.heap.size w wr) (hg:(wr.alloc (.cells #[x] t)).grownBy w1 v.ownBlock):Below w.heap.size w w1:=
 (hb.alloc hb.size (.cells #[x] t)).grown hg (by have:=hb.size;simp;omega) (own_ge h)
theorem own_more {w1:World} {B:Nat} {t:TypeId} {v':Value} {ps:List ByteArray} {x:ByteArray} (h:w1.ownsRow B t 1 v' (ps.length+1) (ps.map Value.string++[.string x])):w1.ownsRow B t 1 v' (ps++[x]).length ((ps++[x]).map Value.string):=by
 rw[List.length_append,List.map_append];exact h
theorem drop_piece {l:List UInt8} {q k:Nat} (hq:q≤k) (hk:k<l.length):l.drop q=(l.drop q).take (k-q)++l[k]::l.drop (k+1):=by
 conv=>lhs;rw[←List.take_append_drop (k-q) (l.drop q)]
 congr 1
 rw[List.drop_drop,show q+(k-q)=k by omega,List.drop_eq_getElem_cons hk]
theorem take_more {l:List UInt8} {q k:Nat} (hq:q≤k) (hk:k<l.length):(l.drop q).take (k+1-q)=(l.drop q).take (k-q)++[l[k]]:=by
 rw[show k+1-q=(k-q)+1 by omega,List.take_succ_eq_append_getElem (by simp;omega)]
 congr 2
 rw[List.getElem_drop]
 congr 1;omega
theorem cut_step {s:ByteArray} {ps:List ByteArray} {q k:Nat} (hq:q≤k) (hk:k<s.size) (hc:s[k]=32) (hcut:ps.map (fun b=>b.data.toList)++Fi.cutC 32 (s.data.toList.drop q)=Fi.cutC 32 s.data.toList) (hno:(32:UInt8) ∉ (s.data.toList.drop q).take (k-q)):
  (ps++[s.extract q k]).map (fun b=>b.data.toList)++Fi.cutC 32 (s.data.toList.drop (k+1))=Fi.cutC 32 s.data.toList:=by
 have h1:k<s.data.toList.length:=hk
 have h2:s.data.toList[k]'h1=s[k]:=rfl
 have e:=drop_piece hq h1
 rw[h2,hc] at e
 have e2:Fi.cutC 32 (s.data.toList.drop q)=(s.data.toList.drop q).take (k-q)::Fi.cutC 32 (s.data.toList.drop (k+1)):=by
  conv=>lhs;rw[e]
  exact Fi.cutC_app _ _ hno
 rw[←hcut,e2,List.map_append,List.append_assoc]
 simp only[List.map_cons,List.map_nil,Lib.extract_data,List.cons_append,List.nil_append]
theorem cut_end {s:ByteArray} {ps:List ByteArray} {q k:Nat} (hk:s.size≤k) (hcut:ps.map (fun b=>b.data.toList)++Fi.cutC 32 (s.data.toList.drop q)=Fi.cutC 32 s.data.toList) (hno:(32:UInt8) ∉ (s.data.toList.drop q).take (k-q)):
  (ps++[s.extract q s.size]).map (fun b=>b.data.toList)=Fi.cutC 32 s.data.toList:=by
 have h1:s.data.toList.length=s.size:=rfl
 have h2:(32:UInt8) ∉ s.data.toList.drop q:=by
  rwa [List.take_of_length_le (by rw[List.length_drop,h1];omega)] at hno
 rw[←hcut,Fi.cutC_none _ h2,List.map_append]
 simp only[List.map_cons,List.map_nil,Lib.extract_to_end]
theorem cut_any (s:ByteArray) (w:World) (hs:s.size≤1048576):
  Calls Tryz.prog 56 #[.string s,.int .u8 32] w fun e w'=>∃g cap,∃ws:List ByteArray,e=.returned (.slice (some ⟨g,0,none⟩) ws.length cap)∧ws.map (fun b=>b.data.toList)=Fi.cutC 32 s.data.toList∧(∀j,j<ws.length→w'.cell? ⟨g,0+j,none⟩=some (.string (ws.getD j ByteArray.empty)))∧Below w.heap.size w w':=by
 obtain⟨i0,hi,hz0,hz1,hz2⟩:=info_parts infoString
 go_enter Tryz.func56,Tryz.ntmps56
 go_wp2
 go_loopw [5,6,7] (fun v f i wr=>∃(k q:Nat) (ps:List ByteArray),q≤k∧k≤s.size∧i=.int .i64 k∧f=.int .i64 q∧ps.length≤k∧Hid (ps.map (fun b=>b.data.toList)++Fi.cutC 32 (s.data.toList.drop q)=Fi.cutC 32 s.data.toList)∧Hid ((32:UInt8) ∉ (s.data.toList.drop q).take (k-q))∧Hid (wr.ownsRow w.heap.size 9 1 v ps.length (ps.map Value.string))∧Hid (Below w.heap.size w wr)) (fun _ _ i _=>s.size-(intOf i).toNat)
 case atStart=>exact⟨0,0,[],by omega,by omega,rfl,rfl,by simp,rfl,by unfold Hid;simp,World.ownsRow_nil _ _ _ _,Below.refl _ _⟩
 case round=>
  obtain⟨k,q,ps,hqk,hk,rfl,rfl,hps,HCUT,HNO,HOWN,HBE⟩:=hrel
  by_cases hlt:k<s.size
  ·have hb:s[k].toNat<256:=UInt8.toNat_lt _
   have HLK:Hid (∃h:k<s.data.toList.length,s.data.toList[k]'h=s[k]):=⟨hlt,rfl⟩
   have HEX:=z9 (Lib.extract_data s q k)
   cases h32:((s[k].toNat:Int)==32)
   case false=>
    have HNO2:Hid ((32:UInt8) ∉ (s.data.toList.drop q).take (k+1-q)):=by
     obtain⟨h1,h2⟩:=HLK.out
     unfold Hid
     rw[take_more hqk h1,h2]
     intro hm
     rcases List.mem_append.1 hm with hm | hm
     ·exact HNO.out hm
     ·have:(32:UInt8)=s[k]:=by simpa using hm
      rw[←this] at h32
      exact absurd h32 (by decide)
    go_wp2
    go_roundw
    case rel=>exact⟨k+1,q,ps,by omega,by omega,by go_num,rfl,by omega,HCUT,HNO2,HOWN,HBE⟩
    case measure=>simp[intOf];omega
   case true=>
    have HCUT2:Hid ((ps++[s.extract q k]).map (fun b=>b.data.toList)++Fi.cutC 32 (s.data.toList.drop (k+1))=Fi.cutC 32 s.data.toList):=by
     have hc:s[k]=32:=by
      apply UInt8.toNat_inj.1
      have:(s[k].toNat:Int)=32:=by simpa using h32
      have h2:(32:UInt8).toNat=32:=rfl
      omega
     exact cut_step hqk hlt hc HCUT.out HNO.out
    go_wp2_with (at_builtin;refine wpList_append_own_at _ rfl (.tmp 19) (.tmp 24) 35 rfl w.heap.size 9 i0 (.string ByteArray.empty) 1 16 Tryz.underlying35 hi hz0 hz1 hz2 rfl (by decide) u5 _ _ rfl (HOWN.out.alloc _) ⟨wr.heap.size,0,none⟩ 1 1 [.string (s.extract q k)] rfl rfl (cell_one_new _ _ _) (by intro u hu;simp at hu;subst hu;rfl) (by unfold maxLen;omega) (by omega) (by have:=HBE.out.size;simp;omega) ?_;intro v' w1 hown' hgrow _ hat;have HB1:=z9 (own_grow HOWN.out HBE.out hgrow);have HO1:=z9 (own_more hown');clear hown' hgrow hat)
    go_roundw
    case rel=>exact⟨k+1,k+1,ps++[s.extract q k],by omega,by omega,by go_num,by go_num,by simp;omega,HCUT2,by unfold Hid;simp,HO1,HB1⟩
    case measure=>simp[intOf];omega
  ·have HCUT2:=z9 (cut_end (by omega) HCUT.out HNO.out)
   go_wp2_with (at_builtin;refine wpList_append_own_at _ rfl (.tmp 28) (.tmp 32) 35 rfl w.heap.size 9 i0 (.string ByteArray.empty) 1 16 Tryz.underlying35 hi hz0 hz1 hz2 rfl (by decide) u5 _ _ rfl (HOWN.out.alloc _) ⟨wr.heap.size,0,none⟩ 1 1 [.string (s.extract q s.size)] rfl rfl (cell_one_new _ _ _) (by intro u hu;simp at hu;subst hu;rfl) (by unfold maxLen;omega) (by omega) (by have:=HBE.out.size;simp;omega) ?_;intro v' w1 hown' hgrow _ hat;have HB1:=z9 (own_grow HOWN.out HBE.out hgrow);have HO1:=z9 (own_more hown');clear hown' hgrow hat)
   go_ret
   obtain⟨g,cap,e,hc⟩:=own_cells HO1.out (by simp)
   refine⟨g,cap,ps++[s.extract q s.size], ?_,HCUT2.out, ?_,HB1.out⟩
   ·rw[←e];rfl
   ·intro j hj
    refine hc j _ ?_
    rw[List.getElem?_map,List.getElem?_eq_getElem hj,List.getD_eq_getElem?_getD,List.getElem?_eq_getElem hj];rfl
end Fr
end Go.Proofs.YtlmdchpbpgcfmaaGreatDoor
/- The reference's Words. -/
namespace Go.Proofs.YtlmdchpbpgcfmaaGreatDoor
namespace Fs
open Go.ChangeShapes Go.WideShapes Go.ChangeAt Go.RowKit Ka Kb Fi Fr
def strV (l:List ByteArray):List Value:=l.map Value.string
def full (l:List ByteArray):List ByteArray:=l.filter fun b=> !b.toList.isEmpty
theorem full_next {l:List ByteArray} {k:Nat} (hk:k<l.length):full (l.take (k+1))=if(l.getD k ByteArray.empty).toList.isEmpty then full (l.take k) else full (l.take k)++[l.getD k ByteArray.empty]:=by
 unfold full
 rw[List.take_succ_eq_append_getElem hk,List.filter_append,List.getD_eq_getElem?_getD,List.getElem?_eq_getElem hk]
 simp only[Option.getD_some]
 cases h:l[k].toList.isEmpty<;>simp[h]
theorem full_map (l:List ByteArray):(full l).map (fun b=>b.toList)=(l.map (fun b=>b.toList)).filter fun w=> !w.isEmpty:=by
 unfold full
 induction l with
 | nil=>rfl
 | cons a l ih=>
  rw[List.filter_cons,List.map_cons,List.filter_cons]
  cases h:a.toList.isEmpty
  ·rw[if_pos (by simp),if_pos (by simp),List.map_cons,ih]
  ·rw[if_neg (by simp),if_neg (by simp),ih]
theorem full_le (l:List ByteArray):(full l).length≤l.length:=List.length_filter_le _ _
theorem words_ref (s:ByteArray) (w:World) (hs:s.size≤300):
  Calls Tryz.prog 24 #[.string s] w fun e w'=>∃v,∃ws:List ByteArray,e=.returned v∧ws.map (fun b=>b.toList)=words s.toList∧w'.ownsRow w.heap.size 9 1 v ws.length (strV ws)∧Below w.heap.size w w':=by
 obtain⟨i0,hi,hz0,hz1,hz2⟩:=info_parts infoString
 have C:=cut_any s w (by omega)
 go_enter Tryz.func24,Tryz.ntmps24
 go_wp2_with fail
 refine C.mono ?_
 rintro e w1 ⟨g,cap,ws,rfl,hws,hc1,hb1⟩
 have hwl:ws.length≤301:=by
  have h9:=congrArg List.length hws
  rw[List.length_map] at h9
  rw[h9]
  have key:∀l:List UInt8,(cutC 32 l).length≤l.length+1:=fun l=>by
   induction l with
   | nil=>simp[cutC]
   | cons x r ih=>
    unfold cutC
    split
    ·rw[List.length_cons,List.length_cons];omega
    ·have:=List.length_pos_iff.2 (cutC_ne 32 r)
     rw[List.length_cons,List.length_cons,List.length_tail];omega
  have:=key s.data.toList
  have h2:s.data.toList.length=s.size:=rfl
  omega
 have HWS:Hid ((full ws).map (fun b=>b.toList)=words s.toList):=by
  unfold Hid words
  rw[full_map]
  have e1:ws.map (fun b=>b.toList)=cutC 32 s.toList:=by
   rw[ByteArray.toList_eq s,←hws]
   exact List.map_congr_left fun b _=>ByteArray.toList_eq b
  rw[e1]
 have HC1:Hid (∀j,j<ws.length→w1.cell? ⟨g,0+j,none⟩=some (.string (ws.getD j ByteArray.empty))):=hc1
 have HB1:Hid (Below w.heap.size w w1):=hb1
 obtain⟨n,hn⟩:∃n,ws.length=n:=⟨_,rfl⟩
 rw[hn] at hwl ⊢
 have HN:Hid (ws.length=n):=hn
 clear C hws hc1 hb1 hn
 go_wp2_with fail
 go_loopw [3,5] (fun vo vi wr=>∃(k:Nat),k≤n∧vi=.int .i64 k∧Hid (wr.ownsRow w1.heap.size 9 1 vo (full (ws.take k)).length (strV (full (ws.take k))))∧Hid (Below w1.heap.size w1 wr)) (fun _ vi _=>n-(intOf vi).toNat)
 case atStart=>exact⟨0,by omega,rfl,⟨rfl,Or.inl ⟨rfl,rfl⟩⟩,Below.refl _ _⟩
 case round=>
  obtain⟨k,hk,rfl,HO,HB⟩:=hrel
  by_cases hlt:k<n
  ·have hltz:(k:Int)<n:=by omega
   have hkl:k<ws.length:=by rw[HN.out];exact hlt
   have a0:=(HB.out.cell (p:=⟨g,0+k,none⟩) (World.block_lt_of_cell? _ _ (HC1.out k hkl))).trans (HC1.out k hkl)
   rw[Nat.zero_add] at a0
   have HF:Hid (full (ws.take (k+1))=if(ws.getD k ByteArray.empty).toList.isEmpty then full (ws.take k) else full (ws.take k)++[ws.getD k ByteArray.empty]):=full_next hkl
   obtain⟨x,hx⟩:∃x,ws.getD k ByteArray.empty=x:=⟨_,rfl⟩
   rw[hx] at a0 HF
   have hfl:(full (ws.take k)).length≤301:=by have h1:=full_le (ws.take k);rw[List.length_take] at h1;omega
   have HBW:Hid (Below w.heap.size w wr):=HB1.out.trans (HB.out.mono HB1.out.size)
   cases he:x.toList.isEmpty with
   | true=>
    have hxb:(x.toList==[])=true:=by simpa using he
    have hxn:(x.toList !=[])=false:=by simpa using he
    have HF2:Hid (full (ws.take (k+1))=full (ws.take k)):=by rw[Hid,HF.out,he,if_pos rfl]
    clear hx
    go_wp2_with fail
    go_roundw
    case rel=>exact⟨k+1,by omega,by go_num,by rw[Hid,HF2.out];exact HO.out,HB⟩
    case measure=>simp[intOf];omega
   | false=>
    have hxb:(x.toList==[])=false:=by simpa using he
    have hxn:(x.toList !=[])=true:=by simpa using he
    have HF2:Hid (full (ws.take (k+1))=full (ws.take k)++[x]):=by rw[Hid,HF.out,he,if_neg (by simp)]
    have HN2:Hid (∀j u,([.string x]:List Value)[j]? =some u→(wr.alloc (.cells #[.string x] 9)).cell? ((⟨wr.heap.size,0,none⟩:Addr).add j)=some u):=by
     intro j u hu
     rw[Addr.add_lit,Nat.zero_add]
     simp only[World.cell?,heap_alloc_new]
     simpa using hu
    have HO2:Hid ((wr.alloc (.cells #[.string x] 9)).ownsRow w1.heap.size 9 1 u3 (full (ws.take k)).length (strV (full (ws.take k)))):=HO.out.alloc _
    have HLO:Hid (w.heap.size≤w1.heap.size):=HB1.out.size
    clear hx
    go_wp2_with (at_builtin;refine wpList_append_own_at _ rfl (.tmp 19) (.tmp 24) 35 rfl w1.heap.size 9 i0 (.string ByteArray.empty) 1 16 Tryz.underlying35 hi hz0 hz1 hz2 rfl (by decide) _ (full (ws.take k)).length (strV (full (ws.take k))) rfl HO2.out ⟨wr.heap.size,0,none⟩ 1 1 [.string x] rfl rfl HN2.out (by intro u hu;simp at hu;subst hu;rfl) (by unfold maxLen;omega) (by omega) (by have:=HB.out.size;simp;omega) ?_;intro v' w2 hown' hgrow _ hat2;have HO3:Hid (w2.ownsRow w1.heap.size 9 1 v' (full (ws.take (k+1))).length (strV (full (ws.take (k+1))))):=(by rw[Hid,HF2.out];unfold strV;rw[List.length_append,List.map_append];exact hown');have HB3:Hid (Below w1.heap.size w1 w2):=own_grow HO.out HB.out hgrow;clear hown' hgrow hat2)
    go_roundw
    case rel=>exact⟨k+1,by omega,by go_num,HO3,HB3⟩
    case measure=>simp[intOf];omega
  ·have hltz:¬(k:Int)<n:=by omega
   have HE:Hid (ws.take k=ws):=List.take_of_length_le (by rw[HN.out];omega)
   go_wp2_with fail
   go_ret
   refine⟨_,rfl,full ws,HWS.out, ?_,HB1.out.trans (HB.out.mono HB1.out.size)⟩
   have:=HO.out
   rw[HE.out] at this;exact World.ownsRow.mono this HB1.out.size
end Fs
end Go.Proofs.YtlmdchpbpgcfmaaGreatDoor
