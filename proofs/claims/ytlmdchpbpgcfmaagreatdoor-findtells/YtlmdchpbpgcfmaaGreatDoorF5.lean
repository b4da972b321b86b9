/- Package find: pieces, Lines. -/
import Derived.Test.YtlmdchpbpgcfmaaGreatDoorF2
import Derived.Deep.Onto
set_option linter.unusedSimpArgs false
set_option linter.unusedVariables false
set_option maxRecDepth 100000
set_option maxHeartbeats 8000000
namespace Go.Proofs.YtlmdchpbpgcfmaaGreatDoor
namespace F5
open Go.ChangeShapes Go.WideShapes Go.ChangeAt Go.RowKit Ka Kb Fi F1 Fnn F2 Fr F3
theorem chop_more {n:Nat} (hn:1≤n):∀(f g:Nat) (s:List UInt8),s.length≤f→s.length≤g→chop n f s=chop n g s
 | 0,0,s,_,_=>rfl
 | 0,g+1,s,h,_=>by unfold chop;rw[if_neg (by omega)]
 | f+1,0,s,_,h=>by unfold chop;rw[if_neg (by omega)]
 | f+1,g+1,s,h1,h2=>by
  unfold chop
  by_cases h:n<s.length
  ·rw[if_pos h,if_pos h,chop_more hn f g (s.drop n) (by rw[List.length_drop];omega) (by rw[List.length_drop];omega)]
  ·rw[if_neg h,if_neg h]
theorem chop_step {n:Nat} (hn:1≤n) {s:List UInt8} (h:n<s.length):chop n s.length s=s.take n::chop n (s.drop n).length (s.drop n):=by
 obtain⟨m,hm⟩:∃m,s.length=m+1:=⟨s.length-1,by omega⟩
 rw[hm,chop,if_pos (by omega),chop_more hn m (s.drop n).length (s.drop n) (by rw[List.length_drop];omega) (Nat.le_refl _)]
theorem chop_end {n:Nat} {s:List UInt8} (h:¬n<s.length):chop n s.length s=[s]:=by
 cases e:s.length with
 | zero=>rfl
 | succ m=>rw[chop,if_neg h]
theorem chop_len {n:Nat} (hn:1≤n):∀(f:Nat) (s:List UInt8),(chop n f s).length≤s.length+1
 | 0,s=>by simp[chop]
 | f+1,s=>by
  unfold chop
  split
  ·have:=chop_len hn f (s.drop n)
   rw[List.length_drop] at this
   rw[List.length_cons];omega
  ·simp
theorem list_take (s:ByteArray) (n:Nat):(s.extract 0 n).toList=s.toList.take n:=by
 rw[ByteArray.toList_eq,ByteArray.toList_eq,Lib.extract_data];simp
theorem list_drop (s:ByteArray) (n:Nat):(s.extract n s.size).toList=s.toList.drop n:=by
 rw[ByteArray.toList_eq];exact ext_drop s n
theorem bel {w w1 w2:World} (h1:Below w.heap.size w w1) (h2:Below w1.heap.size w1 w2):Below w.heap.size w w2:=h1.trans (h2.mono h1.size)
theorem strV_one (x:ByteArray) (w:World):∀j u,([.string x]:List Value)[j]? =some u→(w.alloc (.cells #[.string x] 9)).cell? ((⟨w.heap.size,0,none⟩:Addr).add j)=some u:=by
 intro j u hu
 rw[Addr.add_lit,Nat.zero_add]
 simp only[World.cell?,heap_alloc_new]
 simpa using hu
theorem own_snoc {w1:World} {B:Nat} {t:TypeId} {v':Value} {L:List ByteArray} {x:ByteArray} (h:w1.ownsRow B t 1 v' (L.length+1) (strV L++[.string x])):w1.ownsRow B t 1 v' (L++[x]).length (strV (L++[x])):=by
 unfold strV at h ⊢
 rw[List.length_append,List.map_append];exact h
theorem pieces_any (s:ByteArray) (n:Nat) (w:World) (hs:s.size≤300) (h1:1≤n) (h2:n≤100):
  Calls Tryz.prog 60 #[.string s,.int .i64 n] w fun e w'=>∃v,∃L:List ByteArray,e=.returned v∧L.map (fun b=>b.toList)=chop n s.toList.length s.toList∧w'.ownsRow w.heap.size 9 1 v L.length (strV L)∧Below w.heap.size w w':=by
 obtain⟨i0,hi,hz0,hz1,hz2⟩:=info_parts infoString
 go_enter Tryz.func60,Tryz.ntmps60
 go_wp2_with fail
 go_loopw [0,5] (fun vw vo wr=>∃(x:ByteArray) (L:List ByteArray),vw=.string x∧L.length+x.size≤300∧Hid (L.map (fun b=>b.toList)++chop n x.toList.length x.toList=chop n s.toList.length s.toList)∧Hid (wr.ownsRow w.heap.size 9 1 vo L.length (strV L))∧Hid (Below w.heap.size w wr)) (fun vw _ _=>match vw with | .string x=>x.size | _=>0)
 case atStart=>exact⟨s,[],rfl,by simpa using hs,rfl,⟨rfl,Or.inl ⟨rfl,rfl⟩⟩,Below.refl _ _⟩
 case round=>
  obtain⟨x,L,rfl,hl,HC,HO,HB⟩:=hrel
  by_cases hlt:n<x.size
  ·have hltz:(n:Int)<x.size:=by omega
   have hle:n≤x.size:=by omega
   have HC2:Hid ((L++[x.extract 0 n]).map (fun b=>b.toList)++chop n (x.extract n x.size).toList.length (x.extract n x.size).toList=chop n s.toList.length s.toList):=by
    rw[Hid,←HC.out,chop_step (s:=x.toList) h1 (by rw[len_eq];exact hlt),List.map_append,list_drop,List.append_assoc,List.map_singleton,list_take];rfl
   have HSZ:Hid ((x.extract n x.size).size=x.size-n):=by rw[Hid,ByteArray.size_extract];omega
   go_wp2_with (at_builtin;refine wpList_append_own_at _ rfl (.tmp 10) (.tmp 14) 35 rfl w.heap.size 9 i0 (.string ByteArray.empty) 1 16 Tryz.underlying35 hi hz0 hz1 hz2 rfl (by decide) _ L.length (strV L) rfl (HO.out.alloc _) ⟨wr.heap.size,0,none⟩ 1 1 [.string (x.extract 0 n)] rfl rfl (strV_one _ _) (by intro u hu;simp at hu;subst hu;rfl) (by unfold maxLen;omega) (by omega) (by have:=HB.out.size;simp;omega) ?_;intro v' w1 hown' hgrow _ hat;have HO1:=z9 (own_snoc hown');have HB1:=z9 (own_grow HO.out HB.out hgrow);clear hown' hgrow hat)
   go_roundw
   case rel=>exact⟨x.extract n x.size,L++[x.extract 0 n],rfl,by rw[HSZ.out,List.length_append,List.length_singleton];omega,HC2,HO1,HB1⟩
   case measure=>show(x.extract n x.size).size<x.size;rw[HSZ.out];omega
  ·have hltz:¬(n:Int)<x.size:=by omega
   have HC2:Hid ((L++[x]).map (fun b=>b.toList)=chop n s.toList.length s.toList):=by
    rw[Hid,←HC.out,chop_end (by rw[len_eq];exact hlt),List.map_append];rfl
   go_wp2_with (at_builtin;refine wpList_append_own_at _ rfl (.tmp 19) (.tmp 21) 35 rfl w.heap.size 9 i0 (.string ByteArray.empty) 1 16 Tryz.underlying35 hi hz0 hz1 hz2 rfl (by decide) _ L.length (strV L) rfl (HO.out.alloc _) ⟨wr.heap.size,0,none⟩ 1 1 [.string x] rfl rfl (strV_one _ _) (by intro u hu;simp at hu;subst hu;rfl) (by unfold maxLen;omega) (by omega) (by have:=HB.out.size;simp;omega) ?_;intro v' w1 hown' hgrow _ hat;have HO1:=z9 (own_snoc hown');have HB1:=z9 (own_grow HO.out HB.out hgrow);clear hown' hgrow hat)
   go_ret
   exact⟨_,rfl,L++[x],HC2.out,HO1.out,HB1.out⟩
/- a row of the call's own of which one text is written anew -/
theorem own_set {w:World} {B:Nat} {g n cap i:Nat} {xs:List Value} {v:Value} (h:w.ownsRow B 9 1 (.slice (some ⟨g,0,none⟩) n cap) n xs) (hi:i<n):(w.setCell ⟨g,i,none⟩ v).ownsRow B 9 1 (.slice (some ⟨g,0,none⟩) n cap) n (xs.set i v):=by
 refine⟨by rw[List.length_set];exact h.1, ?_⟩
 rcases h.2 with⟨e,_⟩ | ⟨g2,cap2,cur,e,h2,h3,h4,h5,h6,h7⟩
 ·cases e
 ·injection e with e1 e2 e3
  injection e1 with e1
  injection e1 with e1
  subst e1 e3
  refine Or.inr ⟨g,cap,cur.setIfInBounds i v,rfl,h2, ?_,h4,h5,by rw[Array.size_setIfInBounds];exact h6, ?_⟩
  ·simp[World.setCell,Array.getElem?_modify,h3]
  ·rw[Array.toList_setIfInBounds,List.take_set,h7]
theorem own_at {w:World} {B g n cap:Nat} {xs:List Value} (h:w.ownsRow B 9 1 (.slice (some ⟨g,0,none⟩) n cap) n xs):∃cur,w.heap[g]? =some (.cells cur 9 (0,0))∧B≤g:=by
 rcases h.2 with⟨e,_⟩ | ⟨g2,cap2,cur,e,h2,h3,_⟩
 ·cases e
 ·injection e with e1 _ _
  injection e1 with e1
  injection e1 with e1
  subst e1
  exact⟨cur,h3,h2⟩
theorem own_below {w w2:World} {B n:Nat} {v:Value} {xs:List Value} (h:w.ownsRow B 9 1 v n xs) (hb:Below w.heap.size w w2):w2.ownsRow B 9 1 v n xs:=by
 refine⟨h.1, ?_⟩
 rcases h.2 with h0 | ⟨g,cap,cur,e1,e2,e3,e4⟩
 ·exact Or.inl h0
 ·exact Or.inr ⟨g,cap,cur,e1,e2,(hb.block g (Array.getElem?_eq_some_iff.1 e3).1).trans e3,e4⟩
theorem own_shape {w:World} {B n:Nat} {t:TypeId} {v:Value} {xs:List Value} (h:w.ownsRow B t 1 v n xs):∃q c,v=.slice q n c:=by
 rcases h.2 with⟨e,e0⟩ | ⟨g,cap,cur,e9,_⟩
 ·exact⟨none,0,by rw[e,e0]⟩
 ·exact⟨_,_,e9⟩
theorem app_list (x y:ByteArray):(x++y).toList=x.toList++y.toList:=by
 rw[ByteArray.toList_eq,ByteArray.toList_eq,ByteArray.toList_eq];simp
theorem set_last {L:List ByteArray} {x:ByteArray} (h:0<L.length):(L.set (L.length-1) x).map (fun b=>b.toList)=(L.map (fun b=>b.toList)).dropLast++[x.toList]:=by
 have hne:L≠[]:=List.length_pos_iff.1 h
 conv=>lhs;rw[←List.dropLast_concat_getLast hne]
 rw[List.length_append,List.length_singleton,List.length_dropLast,show L.length-1+1-1=L.dropLast.length by rw[List.length_dropLast];omega,List.set_append_right _ _ (Nat.le_refl _),Nat.sub_self,List.set_cons_zero,List.map_append,List.map_dropLast]
 rfl
theorem last_of {L:List ByteArray} (h:0<L.length):(L.map (fun b=>b.toList)).getLastD []=(L.getD (L.length-1) ByteArray.empty).toList:=by
 have hne:L≠[]:=List.length_pos_iff.1 h
 rw[List.getLastD_eq_getLast?,List.getLast?_map,List.getLast?_eq_getElem?,List.getD_eq_getElem?_getD,List.getElem?_eq_getElem (by omega)];rfl
theorem strV_set (L:List ByteArray) (i:Nat) (x:ByteArray):(strV L).set i (.string x)=strV (L.set i x):=by unfold strV;rw[List.map_set]
theorem strV_plain (L:List ByteArray):∀u ∈ strV L,u.oneCell'=true:=by
 intro u hu
 unfold strV at hu
 obtain⟨x,_,rfl⟩:=List.mem_map.1 hu
 rfl
def linesE (t:ByteArray) (n:Int):Int:=if 300<t.size then 4 else if n<1∨100<n then 1 else 0
def linesR (t:ByteArray) (n:Int):List (List UInt8):=if linesE t n=0 then lines n.toNat t.toList else[]
theorem lines_full (t:ByteArray) (n:Int) (w:World) (ht:t.size≤maxLen) (h:300<t.size):
  Calls Tryz.prog 28 #[.string t,.int .i64 n] w fun e w'=>e=.returned (.tuple #[.slice none 0 0,.iface 84 (.int .i64 4)])∧Hid (Below w.heap.size w w'):=by
 have C:=words_full t w ht h
 go_enter Tryz.func28,Tryz.ntmps28
 go_wp2_with fail
 refine C.mono ?_
 rintro e w1 ⟨rfl,rfl⟩
 clear C
 go_wp2_with fail
 go_ret2
 exact⟨rfl,Below.refl _ _⟩
theorem lines_width (t:ByteArray) (n:Int) (w:World) (ht:t.size≤300) (h:n<1∨100<n):
  Calls Tryz.prog 28 #[.string t,.int .i64 n] w fun e w'=>e=.returned (.tuple #[.slice none 0 0,.iface 84 (.int .i64 1)])∧Hid (Below w.heap.size w w'):=by
 have C:=words_is t w ht
 have tst:n<1∨(¬n<1∧100<n):=by omega
 clear h
 rcases tst with q1 | ⟨q1,q2⟩
 all_goals
  go_enter Tryz.func28,Tryz.ntmps28
  go_wp2_with fail
  refine C.mono ?_
  rintro e w1 ⟨v,ws,rfl,_,_,hb⟩
  have HB:=z9 hb
  clear C hb
  go_wp2_with fail
  go_ret2
  exact⟨rfl,HB⟩
def small (L:List ByteArray):Prop:=∀x ∈ L,x.size≤100
theorem small_of {n:Nat} (h2:n≤100) {L:List ByteArray} (h:∀w ∈ L.map (fun b=>b.toList),w≠[]∧w.length≤n):small L:=by
 intro x hx
 have:=(h x.toList (List.mem_map.2 ⟨x,hx,rfl⟩)).2
 rw[len_eq] at this
 omega
theorem fold_next {n:Nat} {ws:List ByteArray} {k:Nat} (hk:k<ws.length):((ws.take (k+1)).map (fun b=>b.toList)).foldl (addW n) []=addW n (((ws.take k).map (fun b=>b.toList)).foldl (addW n) []) (ws.getD k ByteArray.empty).toList:=by
 rw[List.take_succ_eq_append_getElem hk,List.map_append,List.foldl_append,List.getD_eq_getElem?_getD,List.getElem?_eq_getElem hk];rfl
theorem addW_len {n:Nat} (hn:1≤n) (out:List (List UInt8)) (s:List UInt8):(addW n out s).length≤out.length+s.length+1:=by
 unfold addW
 split
 ·rename_i h
  have:=List.length_pos_iff.2 h.1
  rw[List.length_append,List.length_dropLast,List.length_singleton];omega
 ·have:=chop_len hn s.length s
  rw[List.length_append];omega
theorem fold_len {n:Nat} (hn:1≤n):∀(l out:List (List UInt8)),(l.foldl (addW n) out).length≤out.length+l.flatten.length+l.length
 | [],out=>by simp
 | s::l,out=>by
  have h1:=fold_len hn l (addW n out s)
  have h2:=addW_len hn out s
  rw[List.foldl_cons,List.flatten_cons,List.length_append,List.length_cons];omega
def small_ok (n:Nat) (l:List (List UInt8)):Prop:=∀w ∈ l,w≠[]∧w.length≤n
theorem lines_is (t:ByteArray) (n:Nat) (w:World) (ht:t.size≤300) (h1:1≤n) (h2:n≤100):
  Calls Tryz.prog 28 #[.string t,.int .i64 n] w fun e w'=>∃v,∃L:List ByteArray,e=.returned (.tuple #[v,.nilIface])∧L.map (fun b=>b.toList)=lines n t.toList∧w'.ownsRow w.heap.size 9 1 v L.length (strV L)∧Below w.heap.size w w':=by
 obtain⟨i0,hi,hz0,hz1,hz2⟩:=info_parts infoString
 have C:=words_is t w ht
 have q1:¬(n:Int)<1:=by omega
 have q2:¬(100:Int)<n:=by omega
 go_enter Tryz.func28,Tryz.ntmps28
 go_wp2_with fail
 refine C.mono ?_
 rintro e w1 ⟨v,ws,rfl,hws,ho,hb⟩
 clear C
 have HB1:=z9 hb
 have HWL:=z9 hws
 have hn:ws.length≤301:=by
  have h9:=congrArg List.length hws
  rw[List.length_map] at h9
  have h8:=(words_len t.toList).1
  rw[Kb.len_eq] at h8
  omega
 have HS:Hid (∀k,k<ws.length→(ws.getD k ByteArray.empty).size≤300∧(ws.getD k ByteArray.empty).toList≠[]):=by
  intro k hk
  have h9:(ws.getD k ByteArray.empty).toList ∈ words t.toList:=by
   rw[←hws,List.getD_eq_getElem?_getD,List.getElem?_eq_getElem hk]
   exact List.mem_map.2 ⟨_,List.getElem_mem hk,rfl⟩
  have h8:=(words_len t.toList).2 _ h9
  rw[Kb.len_eq,Kb.len_eq] at h8
  exact⟨by omega,(words_ok h9).1⟩
 have HFL:Hid (∀k,(((ws.take k).map (fun b=>b.toList)).foldl (addW n) []).length≤1000):=by
  intro k
  have h9:=fold_len h1 ((ws.take k).map (fun b=>b.toList)) []
  have h8:((ws.take k).map (fun b=>b.toList)).flatten.length≤(ws.map (fun b=>b.toList)).flatten.length:=by
   conv=>rhs;rw[←List.take_append_drop k ws,List.map_append,List.flatten_append,List.length_append]
   omega
  rw[hws,words_flat] at h8
  have h7:=List.length_filter_le (fun x:UInt8=>x !=32) t.toList
  rw[Kb.len_eq] at h7
  rw[List.length_map,List.length_take] at h9
  have:([]:List (List UInt8)).length=0:=rfl
  omega
 have HOK:Hid (∀k,small_ok n (((ws.take k).map (fun b=>b.toList)).foldl (addW n) [])):=by
  intro k
  refine(fold_ok h1 _ [] (fun w9 hw9=>words_ok (s:=t.toList) ?_) (fun w9 hw9=>by cases hw9)).1
  rw[←hws]
  rw[List.map_take] at hw9
  exact List.mem_of_mem_take hw9
 obtain⟨q,c,rfl⟩:=own_shape ho
 have HC:Hid (∀k,k<ws.length→∃g,q=some ⟨g,0,none⟩∧w1.cell? ⟨g,k,none⟩=some (.string (ws.getD k ByteArray.empty))):=by
  intro k hk
  obtain⟨g,cap,e,hc⟩:=own_cells ho (by omega)
  injection e with e1 _ _
  refine⟨g,e1, ?_⟩
  have:=hc k _ (strV_at hk)
  rwa [Nat.zero_add] at this
 obtain⟨m,hm⟩:∃m,ws.length=m:=⟨_,rfl⟩
 rw[hm] at hn ⊢
 have HN:=z9 hm
 clear hws hb ho hm
 go_wp2_with fail
 go_loopw [8,29] (fun vo vi wr=>∃(k:Nat) (L:List ByteArray),k≤m∧vi=.int .i64 k∧Hid (L.map (fun b=>b.toList)=((ws.take k).map (fun b=>b.toList)).foldl (addW n) [])∧Hid (wr.ownsRow w1.heap.size 9 1 vo L.length (strV L))∧Hid (Below w1.heap.size w1 wr)) (fun _ vi _=>m-(intOf vi).toNat)
 case atStart=>exact⟨0,[],by omega,rfl,rfl,⟨rfl,Or.inl ⟨rfl,rfl⟩⟩,Below.refl _ _⟩
 case round=>
  obtain⟨k,L,hk,rfl,HL,HO,HB⟩:=hrel
  by_cases hlt:k<m
  ·have hltz:(k:Int)<m:=by omega
   have hkl:k<ws.length:=by rw[HN.out];exact hlt
   obtain⟨g,rfl,hc0⟩:=HC.out k hkl
   have a0:=(HB.out.cell (p:=⟨g,k,none⟩) (World.block_lt_of_cell? _ _ hc0)).trans hc0
   obtain⟨hs3,hs0⟩:=HS.out k hkl
   have HFN:=fold_next (n:=n) hkl
   have HLN:L.length≤1000:=by
    have h9:=HFL.out k
    rw[←HL.out,List.length_map] at h9
    exact h9
   have HSM:=z9 (small_of h2 (by rw[HL.out];exact HOK.out k))
   obtain⟨x,hx⟩:∃x,ws.getD k ByteArray.empty=x:=⟨_,rfl⟩
   rw[hx] at a0 hs3 hs0 HFN
   have HF:Hid (((ws.take (k+1)).map (fun b=>b.toList)).foldl (addW n) []=addW n (L.map (fun b=>b.toList)) x.toList):=by rw[Hid,HFN,HL.out]
   have HX0:=z9 hs0
   clear hx hc0 hs0 HFN
   have CP:=fun W=>pieces_any x n W hs3 h1 h2
   by_cases hj:0<L.length∧(L.getD (L.length-1) ByteArray.empty).size+1+x.size≤n
   ·obtain⟨hj1,hj2⟩:=hj
    obtain⟨g2,cap,hv,hcl⟩:=own_cells HO.out hj1
    subst hv
    have b0:=hcl (L.length-1) _ (strV_at (by omega))
    rw[Nat.zero_add] at b0
    obtain⟨cur,hcur,hg2⟩:=own_at HO.out
    have bf:wr.frozen? ⟨g2,L.length-1,none⟩=false:=by simp[World.frozen?,hcur]
    obtain⟨y,hy⟩:∃y,L.getD (L.length-1) ByteArray.empty=y:=⟨_,rfl⟩
    rw[hy] at b0 hj2
    have HA:Hid ((L.set (L.length-1) (y++((⟨#[32]⟩:ByteArray)++x))).map (fun b=>b.toList)=addW n (L.map (fun b=>b.toList)) x.toList):=by
     have e9:addW n (L.map (fun b=>b.toList)) x.toList=(L.map (fun b=>b.toList)).dropLast++[(L.map (fun b=>b.toList)).getLastD []++32::x.toList]:=by
      unfold addW
      rw[if_pos ⟨fun e=>by rw[List.map_eq_nil_iff] at e;rw[e] at hj1;exact absurd hj1 (by decide),by rw[last_of hj1,hy,len_eq,len_eq];exact hj2⟩]
     rw[Hid,e9,set_last hj1,last_of hj1,hy,app_list,app_list]
     rw[show(⟨#[32]⟩:ByteArray).toList=[32] by rw[ByteArray.toList_eq]];rfl
    have HO2:Hid ((wr.setCell ⟨g2,L.length-1,none⟩ (.string (y++((⟨#[32]⟩:ByteArray)++x)))).ownsRow w1.heap.size 9 1 (.slice (some ⟨g2,0,none⟩) L.length cap) (L.set (L.length-1) (y++((⟨#[32]⟩:ByteArray)++x))).length (strV (L.set (L.length-1) (y++((⟨#[32]⟩:ByteArray)++x))))):=by
     have:=own_set (v:=.string (y++((⟨#[32]⟩:ByteArray)++x))) HO.out (i:=L.length-1) (by omega)
     rw[strV_set] at this
     rw[Hid,List.length_set];exact this
    have HB2:Hid (Below w1.heap.size w1 (wr.setCell ⟨g2,L.length-1,none⟩ (.string (y++((⟨#[32]⟩:ByteArray)++x))))):=HB.out.setCell (by exact hg2) _
    obtain⟨j,hjj⟩:∃j,L.length=j+1:=⟨L.length-1,by omega⟩
    have hys:y.size≤100:=by omega
    have hsz:(y.size:Int)+1+(x.size:Int)≤n:=by omega
    have HJJ:=z9 hjj
    have hjn:j+1≤1000:=by omega
    rw[hjj,Nat.add_sub_cancel] at b0 bf HA HO2 HB2
    rw[hjj]
    have hj0:¬((j:Int)<0):=by omega
    clear hcl hcur hy hjj hj1 hj2
    go_wp2_with fail
    go_roundw
    case rel=>exact⟨k+1,_,by omega,by go_num,by rw[Hid,HF.out];exact HA.out,HO2,HB2⟩
    case measure=>simp[intOf];omega
   ·have HA:Hid (addW n (L.map (fun b=>b.toList)) x.toList=L.map (fun b=>b.toList)++chop n x.toList.length x.toList):=by
     rw[Hid,addW,if_neg ?_]
     rintro⟨e1,e2⟩
     have hp:0<L.length:=by
      refine Nat.pos_of_ne_zero fun e=>e1 ?_
      rw[List.eq_nil_of_length_eq_zero e];rfl
     rw[last_of hp,len_eq,len_eq] at e2
     exact hj ⟨hp,e2⟩
    have FIN:Hid (∀(v':Value) (W3:World) (P:List ByteArray),P.map (fun b=>b.toList)=chop n x.toList.length x.toList→W3.ownsRow w1.heap.size 9 1 v' (L.length+P.length) (strV L++strV P)→Hid (Hid ((L++P).map (fun b=>b.toList)=addW n (L.map (fun b=>b.toList)) x.toList)∧Hid (W3.ownsRow w1.heap.size 9 1 v' (L++P).length (strV (L++P))))):=by
     intro v' W3 P hP hW
     refine⟨by rw[Hid,HA.out,List.map_append,hP], ?_⟩
     unfold strV at hW ⊢
     rw[Hid,List.length_append,List.map_append];exact hW
    have HCL:Hid ((chop n x.toList.length x.toList).length≤301∧0<(chop n x.toList.length x.toList).length):=by
     have h9:=chop_len h1 x.toList.length x.toList
     rw[len_eq] at h9 ⊢
     refine⟨by omega,List.length_pos_iff.2 fun e=>HX0.out ?_⟩
     have h8:=chop_flat n x.size x.toList
     rw[e] at h8;exact h8.symm
    by_cases hj1:0<L.length
    ·have hj2:n<(L.getD (L.length-1) ByteArray.empty).size+1+x.size:=by
      rcases Nat.lt_or_ge n ((L.getD (L.length-1) ByteArray.empty).size+1+x.size) with e | e
      ·exact e
      ·exact absurd ⟨hj1,e⟩ hj
     have hys:(L.getD (L.length-1) ByteArray.empty).size≤100:=HSM.out _ (by
      rw[List.getD_eq_getElem?_getD,List.getElem?_eq_getElem (by omega)];exact List.getElem_mem _)
     obtain⟨g2,cap,hv,hcl⟩:=own_cells HO.out hj1
     subst hv
     have b0:=hcl (L.length-1) _ (strV_at (by omega))
     rw[Nat.zero_add] at b0
     obtain⟨y,hy⟩:∃y,L.getD (L.length-1) ByteArray.empty=y:=⟨_,rfl⟩
     rw[hy] at b0 hj2 hys
     obtain⟨j,hjj⟩:∃j,L.length=j+1:=⟨L.length-1,by omega⟩
     have hsz:¬(y.size:Int)+1+(x.size:Int)≤n:=by omega
     rw[hjj,Nat.add_sub_cancel] at b0
     have HJJ:=z9 hjj
     rw[hjj]
     have hjn:j+1≤1000:=by omega
     have hj0:¬((j:Int)<0):=by omega
     clear hcl hy hjj hj1 hj2 hj HLN
     go_wp2_with fail
     refine(CP wr).mono ?_
     rintro e w3 ⟨vp,P,rfl,hP,hop,hbp⟩
     have HP:=z9 hP
     have hpl:P.length=(chop n x.toList.length x.toList).length:=by rw[←hP,List.length_map]
     have hpm:P.length≤301:=by rw[hpl];exact HCL.out.1
     obtain⟨g3,cap3,hv3,hcl3⟩:=own_cells hop (by rw[hpl];exact HCL.out.2)
     subst hv3
     have HO3:Hid (w3.ownsRow w1.heap.size 9 1 (.slice (some ⟨g2,0,none⟩) (j+1) cap) (j+1) (strV L)):=by
      have:=own_below HO.out hbp
      rw[HJJ.out] at this
      exact this
     have HB3:=z9 (bel HB.out hbp)
     have HCP:Hid (∀i u,(strV P)[i]? =some u→w3.cell? ((⟨g3,0,none⟩:Addr).add i)=some u):=fun i u hu=>by rw[Addr.add_lit];exact hcl3 i u hu
     have HPL:Hid ((strV P).length=P.length*1):=by rw[Hid,strV,List.length_map];omega
     obtain⟨mp,hmp⟩:∃mp,P.length=mp:=⟨_,rfl⟩
     rw[hmp] at hpm HPL ⊢
     have HMP:=z9 hmp
     clear hP hop hbp hpl hcl3 hmp CP b0
     go_wp2_with (at_builtin;refine wpList_append_own_at _ rfl (.tmp 59) (.tmp 62) 35 rfl w1.heap.size 9 i0 (.string ByteArray.empty) 1 16 Tryz.underlying35 hi hz0 hz1 hz2 rfl (by decide) (.slice (some ⟨g2,0,none⟩) (j+1) cap) (j+1) (strV L) rfl HO3.out ⟨g3,0,none⟩ mp cap3 (strV P) rfl HPL.out HCP.out (strV_plain P) (by unfold maxLen;omega) (by omega) (by have:=HB3.out.size;omega) ?_;intro v' w4 hown' hgrow _ hat;have HR:=FIN.out v' w4 P HP.out (by rw[HJJ.out,HMP.out];exact hown');have HB4:=z9 (HB3.out.grown hgrow (by have:=HB3.out.size;omega) (fun i hi=>(HO3.out.lt i hi).1));clear hown' hgrow hat)
     go_roundw
     case rel=>exact⟨k+1,L++P,by omega,by go_num,by rw[Hid,HF.out];exact HR.out.1.out,HR.out.2,HB4⟩
     case measure=>simp[intOf];omega
    ·have hl0:L=[]:=List.eq_nil_of_length_eq_zero (by omega)
     subst hl0
     obtain⟨p0,c0,hv0⟩:=own_shape HO.out
     subst hv0
     clear hj1 hj HLN
     go_wp2_with fail
     refine(CP wr).mono ?_
     rintro e w3 ⟨vp,P,rfl,hP,hop,hbp⟩
     have HP:=z9 hP
     have hpl:P.length=(chop n x.toList.length x.toList).length:=by rw[←hP,List.length_map]
     have hpm:P.length≤301:=by rw[hpl];exact HCL.out.1
     obtain⟨g3,cap3,hv3,hcl3⟩:=own_cells hop (by rw[hpl];exact HCL.out.2)
     subst hv3
     have HO3:=z9 (own_below HO.out hbp)
     have HB3:=z9 (bel HB.out hbp)
     have HCP:Hid (∀i u,(strV P)[i]? =some u→w3.cell? ((⟨g3,0,none⟩:Addr).add i)=some u):=fun i u hu=>by rw[Addr.add_lit];exact hcl3 i u hu
     have HPL:Hid ((strV P).length=P.length*1):=by rw[Hid,strV,List.length_map];omega
     obtain⟨mp,hmp⟩:∃mp,P.length=mp:=⟨_,rfl⟩
     rw[hmp] at hpm HPL ⊢
     have HMP:=z9 hmp
     clear hP hop hbp hpl hcl3 hmp CP
     go_wp2_with (at_builtin;refine wpList_append_own_at _ rfl (.tmp 59) (.tmp 62) 35 rfl w1.heap.size 9 i0 (.string ByteArray.empty) 1 16 Tryz.underlying35 hi hz0 hz1 hz2 rfl (by decide) (.slice p0 0 c0) 0 (strV []) rfl HO3.out ⟨g3,0,none⟩ mp cap3 (strV P) rfl HPL.out HCP.out (strV_plain P) (by unfold maxLen;omega) (by omega) (by have:=HB3.out.size;omega) ?_;intro v' w4 hown' hgrow _ hat;have HR:=FIN.out v' w4 P HP.out (by rw[HMP.out];exact hown');have HB4:=z9 (HB3.out.grown hgrow (by have:=HB3.out.size;omega) (fun i hi=>(HO3.out.lt i hi).1));clear hown' hgrow hat)
     go_roundw
     case rel=>exact⟨k+1,[]++P,by omega,by go_num,by rw[Hid,HF.out];exact HR.out.1.out,HR.out.2,HB4⟩
     case measure=>simp[intOf];omega
  ·have hltz:¬(k:Int)<m:=by omega
   have HE:Hid (L.map (fun b=>b.toList)=lines n t.toList):=by
    rw[Hid,HL.out,List.take_of_length_le (by rw[HN.out];omega),HWL.out];rfl
   go_wp2_with fail
   go_ret2
   exact⟨_,rfl,L,HE.out,World.ownsRow.mono HO.out HB1.out.size,bel HB1.out HB.out⟩
theorem lines_any (t:ByteArray) (n:Int) (w:World) (ht:t.size≤maxLen):
  Calls Tryz.prog 28 #[.string t,.int .i64 n] w fun e w'=>∃v,∃L:List ByteArray,e=.returned (.tuple #[v,errV (linesE t n)])∧L.map (fun b=>b.toList)=linesR t n∧w'.ownsRow w.heap.size 9 1 v L.length (strV L)∧Below w.heap.size w w':=by
 have nil:∀k:Int,k≠0→linesE t n=k→(Calls Tryz.prog 28 #[.string t,.int .i64 n] w fun e w'=>e=.returned (.tuple #[.slice none 0 0,.iface 84 (.int .i64 k)])∧Hid (Below w.heap.size w w'))→Calls Tryz.prog 28 #[.string t,.int .i64 n] w fun e w'=>∃v,∃L:List ByteArray,e=.returned (.tuple #[v,errV (linesE t n)])∧L.map (fun b=>b.toList)=linesR t n∧w'.ownsRow w.heap.size 9 1 v L.length (strV L)∧Below w.heap.size w w':=by
  intro k hk he C
  have eR:linesR t n=[]:=by unfold linesR;rw[he,if_neg hk]
  rw[eR,he]
  refine C.mono ?_
  rintro e w' ⟨rfl,hb⟩
  exact⟨_,[],by unfold errV;rw[if_neg hk],rfl,⟨rfl,Or.inl ⟨rfl,rfl⟩⟩,hb.out⟩
 by_cases h1:300<t.size
 ·exact nil 4 (by decide) (by unfold linesE;rw[if_pos h1]) (lines_full t n w ht h1)
 ·by_cases h2:n<1∨100<n
  ·exact nil 1 (by decide) (by unfold linesE;rw[if_neg h1,if_pos h2]) (lines_width t n w (by omega) h2)
  ·have e0:linesE t n=0:=by unfold linesE;rw[if_neg h1,if_neg h2]
   have eR:linesR t n=lines n.toNat t.toList:=by unfold linesR;rw[if_pos e0]
   rw[e0,eR]
   obtain⟨m,rfl⟩:∃m:Nat,n=m:=⟨n.toNat,by omega⟩
   exact lines_is t m w (by omega) (by omega) (by omega)
end F5
end Go.Proofs.YtlmdchpbpgcfmaaGreatDoor
