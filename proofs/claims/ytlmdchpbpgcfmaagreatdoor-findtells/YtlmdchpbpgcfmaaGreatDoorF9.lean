/- The reference's Lines. -/
import Derived.Test.YtlmdchpbpgcfmaaGreatDoorF5
import Derived.Test.YtlmdchpbpgcfmaaGreatDoorFn
set_option linter.unusedSimpArgs false
set_option linter.unusedVariables false
set_option maxRecDepth 100000
set_option maxHeartbeats 8000000
namespace Go.Proofs.YtlmdchpbpgcfmaaGreatDoor
namespace F9
open Go.ChangeShapes Go.WideShapes Go.ChangeAt Go.RowKit Ka Kb Fi F1 Fnn F2 Fr F3 F5
theorem lines_ref (t:ByteArray) (n:Nat) (w:World) (ht:t.size≤300) (h1:1≤n) (h2:n≤100):
  Calls Tryz.prog 27 #[.string t,.int .i64 n] w fun e w'=>∃v,∃L:List ByteArray,e=.returned v∧L.map (fun b=>b.toList)=lines n t.toList∧w'.ownsRow w.heap.size 9 1 v L.length (strV L)∧Below w.heap.size w w':=by
 obtain⟨i0,hi,hz0,hz1,hz2⟩:=info_parts infoString
 have C:=Fs.words_ref t w ht
 go_enter Tryz.func27,Tryz.ntmps27
 go_wp2_with fail
 refine C.mono ?_
 rintro e w1 ⟨v,ws,rfl,hws,ho,hb⟩
 have ho:w1.ownsRow w.heap.size 9 1 v ws.length (F3.strV ws):=ho
 clear C
 have HB1:=z9 hb
 have HWL:=z9 hws
 have hn:ws.length≤301:=by
  have h9:=congrArg List.length hws
  rw[List.length_map] at h9
  have h8:=(words_len t.toList).1
  rw[Kb.len_eq] at h8
  omega
 have HS:Hid (∀k,k<ws.length→(ws.getD k ByteArray.empty).size≤300∧(ws.getD k ByteArray.empty).toList≠[]):=by
  intro k hk
  have h9:(ws.getD k ByteArray.empty).toList ∈ words t.toList:=by
   rw[←hws,List.getD_eq_getElem?_getD,List.getElem?_eq_getElem hk]
   exact List.mem_map.2 ⟨_,List.getElem_mem hk,rfl⟩
  have h8:=(words_len t.toList).2 _ h9
  rw[Kb.len_eq,Kb.len_eq] at h8
  exact⟨by omega,(words_ok h9).1⟩
 have HFL:Hid (∀k,(((ws.take k).map (fun b=>b.toList)).foldl (addW n) []).length≤1000):=by
  intro k
  have h9:=fold_len h1 ((ws.take k).map (fun b=>b.toList)) []
  have h8:((ws.take k).map (fun b=>b.toList)).flatten.length≤(ws.map (fun b=>b.toList)).flatten.length:=by
   conv=>rhs;rw[←List.take_append_drop k ws,List.map_append,List.flatten_append,List.length_append]
   omega
  rw[hws,words_flat] at h8
  have h7:=List.length_filter_le (fun x:UInt8=>x !=32) t.toList
  rw[Kb.len_eq] at h7
  rw[List.length_map,List.length_take] at h9
  have:([]:List (List UInt8)).length=0:=rfl
  omega
 have HOK:Hid (∀k,small_ok n (((ws.take k).map (fun b=>b.toList)).foldl (addW n) [])):=by
  intro k
  refine(fold_ok h1 _ [] (fun w9 hw9=>words_ok (s:=t.toList) ?_) (fun w9 hw9=>by cases hw9)).1
  rw[←hws]
  rw[List.map_take] at hw9
  exact List.mem_of_mem_take hw9
 obtain⟨q,c,rfl⟩:=own_shape ho
 have HC:Hid (∀k,k<ws.length→∃g,q=some ⟨g,0,none⟩∧w1.cell? ⟨g,k,none⟩=some (.string (ws.getD k ByteArray.empty))):=by
  intro k hk
  obtain⟨g,cap,e,hc⟩:=own_cells ho (by omega)
  injection e with e1 _ _
  refine⟨g,e1, ?_⟩
  have:=hc k _ (strV_at hk)
  rwa [Nat.zero_add] at this
 obtain⟨m,hm⟩:∃m,ws.length=m:=⟨_,rfl⟩
 rw[hm] at hn ⊢
 have HN:=z9 hm
 clear hws hb ho hm
 go_wp2_with fail
 go_loopw [5,7] (fun vo vi wr=>∃(k:Nat) (L:List ByteArray),k≤m∧vi=.int .i64 k∧Hid (L.map (fun b=>b.toList)=((ws.take k).map (fun b=>b.toList)).foldl (addW n) [])∧Hid (wr.ownsRow w1.heap.size 9 1 vo L.length (strV L))∧Hid (Below w1.heap.size w1 wr)) (fun _ vi _=>m-(intOf vi).toNat)
 case atStart=>exact⟨0,[],by omega,rfl,rfl,⟨rfl,Or.inl ⟨rfl,rfl⟩⟩,Below.refl _ _⟩
 case round=>
  obtain⟨k,L,hk,rfl,HL,HO,HB⟩:=hrel
  by_cases hlt:k<m
  ·have hltz:(k:Int)<m:=by omega
   have hkl:k<ws.length:=by rw[HN.out];exact hlt
   obtain⟨g,rfl,hc0⟩:=HC.out k hkl
   have a0:=(HB.out.cell (p:=⟨g,k,none⟩) (World.block_lt_of_cell? _ _ hc0)).trans hc0
   obtain⟨hs3,hs0⟩:=HS.out k hkl
   have HFN:=fold_next (n:=n) hkl
   have HLN:L.length≤1000:=by
    have h9:=HFL.out k
    rw[←HL.out,List.length_map] at h9
    exact h9
   have HSM:=z9 (small_of h2 (by rw[HL.out];exact HOK.out k))
   obtain⟨x,hx⟩:∃x,ws.getD k ByteArray.empty=x:=⟨_,rfl⟩
   rw[hx] at a0 hs3 hs0 HFN
   have HF:Hid (((ws.take (k+1)).map (fun b=>b.toList)).foldl (addW n) []=addW n (L.map (fun b=>b.toList)) x.toList):=by rw[Hid,HFN,HL.out]
   have HX0:=z9 hs0
   clear hx hc0 hs0 HFN
   by_cases hj:0<L.length∧(L.getD (L.length-1) ByteArray.empty).size+1+x.size≤n
   ·obtain⟨hj1,hj2⟩:=hj
    obtain⟨g2,cap,hv,hcl⟩:=own_cells HO.out hj1
    subst hv
    have b0:=hcl (L.length-1) _ (strV_at (by omega))
    rw[Nat.zero_add] at b0
    obtain⟨cur,hcur,hg2⟩:=own_at HO.out
    have bf:wr.frozen? ⟨g2,L.length-1,none⟩=false:=by simp[World.frozen?,hcur]
    obtain⟨y,hy⟩:∃y,L.getD (L.length-1) ByteArray.empty=y:=⟨_,rfl⟩
    rw[hy] at b0 hj2
    have HA:Hid ((L.set (L.length-1) (y++(⟨#[32]⟩:ByteArray)++x)).map (fun b=>b.toList)=addW n (L.map (fun b=>b.toList)) x.toList):=by
     have e9:addW n (L.map (fun b=>b.toList)) x.toList=(L.map (fun b=>b.toList)).dropLast++[(L.map (fun b=>b.toList)).getLastD []++32::x.toList]:=by
      unfold addW
      rw[if_pos ⟨fun e=>by rw[List.map_eq_nil_iff] at e;rw[e] at hj1;exact absurd hj1 (by decide),by rw[last_of hj1,hy,len_eq,len_eq];exact hj2⟩]
     rw[Hid,e9,set_last hj1,last_of hj1,hy,app_list,app_list]
     rw[show(⟨#[32]⟩:ByteArray).toList=[32] by rw[ByteArray.toList_eq]];simp
    have HO2:Hid ((wr.setCell ⟨g2,L.length-1,none⟩ (.string (y++(⟨#[32]⟩:ByteArray)++x))).ownsRow w1.heap.size 9 1 (.slice (some ⟨g2,0,none⟩) L.length cap) (L.set (L.length-1) (y++(⟨#[32]⟩:ByteArray)++x)).length (strV (L.set (L.length-1) (y++(⟨#[32]⟩:ByteArray)++x)))):=by
     have:=own_set (v:=.string (y++(⟨#[32]⟩:ByteArray)++x)) HO.out (i:=L.length-1) (by omega)
     rw[strV_set] at this
     rw[Hid,List.length_set];exact this
    have HB2:Hid (Below w1.heap.size w1 (wr.setCell ⟨g2,L.length-1,none⟩ (.string (y++(⟨#[32]⟩:ByteArray)++x)))):=HB.out.setCell (by exact hg2) _
    obtain⟨j,hjj⟩:∃j,L.length=j+1:=⟨L.length-1,by omega⟩
    have hys:y.size≤100:=by omega
    have hsz:(y.size:Int)+1+(x.size:Int)≤n:=by omega
    have HJJ:=z9 hjj
    have hjn:j+1≤1000:=by omega
    rw[hjj,Nat.add_sub_cancel] at b0 bf HA HO2 HB2
    rw[hjj]
    have hj0:¬((j:Int)<0):=by omega
    clear hcl hcur hy hjj hj1 hj2
    go_wp2_with fail
    go_roundw
    case rel=>exact⟨k+1,_,by omega,by go_num,by rw[Hid,HF.out];exact HA.out,HO2,HB2⟩
    case measure=>simp[intOf];omega
   ·have HA:Hid (addW n (L.map (fun b=>b.toList)) x.toList=L.map (fun b=>b.toList)++chop n x.toList.length x.toList):=by
     rw[Hid,addW,if_neg ?_]
     rintro⟨e1,e2⟩
     have hp:0<L.length:=by
      refine Nat.pos_of_ne_zero fun e=>e1 ?_
      rw[List.eq_nil_of_length_eq_zero e];rfl
     rw[last_of hp,len_eq,len_eq] at e2
     exact hj ⟨hp,e2⟩
    obtain⟨p0,c0,hv0⟩:=own_shape HO.out
    subst hv0
    by_cases hj1:0<L.length
    ·have hj2:n<(L.getD (L.length-1) ByteArray.empty).size+1+x.size:=by
      rcases Nat.lt_or_ge n ((L.getD (L.length-1) ByteArray.empty).size+1+x.size) with e | e
      ·exact e
      ·exact absurd ⟨hj1,e⟩ hj
     have hys:(L.getD (L.length-1) ByteArray.empty).size≤100:=HSM.out _ (by
      rw[List.getD_eq_getElem?_getD,List.getElem?_eq_getElem (by omega)];exact List.getElem_mem _)
     obtain⟨g2,cap,hv,hcl⟩:=own_cells HO.out hj1
     injection hv with hv _ hvc
     subst hv
     have b0:=hcl (L.length-1) _ (strV_at (by omega))
     rw[Nat.zero_add] at b0
     obtain⟨y,hy⟩:∃y,L.getD (L.length-1) ByteArray.empty=y:=⟨_,rfl⟩
     rw[hy] at b0 hj2 hys
     obtain⟨j,hjj⟩:∃j,L.length=j+1:=⟨L.length-1,by omega⟩
     have hsz:¬(y.size:Int)+1+(x.size:Int)≤n:=by omega
     rw[hjj,Nat.add_sub_cancel] at b0
     have HO':Hid (wr.ownsRow w1.heap.size 9 1 (.slice (some ⟨g2,0,none⟩) (j+1) c0) L.length (strV L)):=by rw[Hid,←hjj];exact HO.out
     rw[hjj]
     have hjn:j+1≤1000:=by omega
     have hj0:¬((j:Int)<0):=by omega
     clear hcl hy hjj hj1 hj2 hj hvc HO
     go_wp2_with fail
     go_loopw [5,8] (fun vo vs wz=>∃(z:ByteArray) (L2:List ByteArray),vs=.string z∧z.size≤300∧L2.length+z.size≤L.length+x.size∧Hid (L2.map (fun b=>b.toList)++chop n z.toList.length z.toList=L.map (fun b=>b.toList)++chop n x.toList.length x.toList)∧Hid (wz.ownsRow w1.heap.size 9 1 vo L2.length (strV L2))∧Hid (Below w1.heap.size w1 wz)) (fun _ vs _=>match vs with | .string z=>z.size | _=>0)
     case atStart=>exact⟨x,L,rfl,hs3,Nat.le_refl _,rfl,HO',HB⟩
     case round=>
      obtain⟨z,L2,rfl,hz3,hzl,HC2,HO2,HB2⟩:=hrel
      by_cases hzt:n<z.size
      ·have hztz:(n:Int)<z.size:=by omega
       have hle:n≤z.size:=by omega
       have HC3:Hid ((L2++[z.extract 0 n]).map (fun b=>b.toList)++chop n (z.extract n z.size).toList.length (z.extract n z.size).toList=L.map (fun b=>b.toList)++chop n x.toList.length x.toList):=by
        rw[Hid,←HC2.out,chop_step (s:=z.toList) h1 (by rw[len_eq];exact hzt),List.map_append,list_drop,List.append_assoc,List.map_singleton,list_take];rfl
       have HSZ:Hid ((z.extract n z.size).size=z.size-n):=by rw[Hid,ByteArray.size_extract];omega
       go_wp2_with (at_builtin;refine wpList_append_own_at _ rfl (.tmp 54) (.tmp 58) 35 rfl w1.heap.size 9 i0 (.string ByteArray.empty) 1 16 Tryz.underlying35 hi hz0 hz1 hz2 rfl (by decide) _ L2.length (strV L2) rfl (HO2.out.alloc _) ⟨wr.heap.size,0,none⟩ 1 1 [.string (z.extract 0 n)] rfl rfl (strV_one _ _) (by intro u hu;simp at hu;subst hu;rfl) (by unfold maxLen;omega) (by omega) (by have:=HB2.out.size;simp;omega) ?_;intro v' w5 hown' hgrow _ hat;have HO5:=z9 (own_snoc hown');have HB5:=z9 (own_grow HO2.out HB2.out hgrow);clear hown' hgrow hat)
       go_roundw
       case rel=>exact⟨z.extract n z.size,L2++[z.extract 0 n],rfl,by rw[HSZ.out];omega,by rw[HSZ.out,List.length_append,List.length_singleton];omega,HC3,HO5,HB5⟩
       case measure=>show(z.extract n z.size).size<z.size;rw[HSZ.out];omega
      ·have hztz:¬(n:Int)<z.size:=by omega
       have HC3:Hid ((L2++[z]).map (fun b=>b.toList)=addW n (L.map (fun b=>b.toList)) x.toList):=by
        rw[Hid,HA.out,←HC2.out,chop_end (by rw[len_eq];exact hzt),List.map_append];rfl
       go_wp2_with (at_builtin;refine wpList_append_own_at _ rfl (.tmp 63) (.tmp 65) 35 rfl w1.heap.size 9 i0 (.string ByteArray.empty) 1 16 Tryz.underlying35 hi hz0 hz1 hz2 rfl (by decide) _ L2.length (strV L2) rfl (HO2.out.alloc _) ⟨wr.heap.size,0,none⟩ 1 1 [.string z] rfl rfl (strV_one _ _) (by intro u hu;simp at hu;subst hu;rfl) (by unfold maxLen;omega) (by omega) (by have:=HB2.out.size;simp;omega) ?_;intro v' w5 hown' hgrow _ hat;have HO5:=z9 (own_snoc hown');have HB5:=z9 (own_grow HO2.out HB2.out hgrow);clear hown' hgrow hat)
       go_roundw
       case rel=>exact⟨k+1,L2++[z],by omega,by go_num,by rw[Hid,HF.out];exact HC3.out,HO5,HB5⟩
       case measure=>simp[intOf];omega
    ·have hl0:L.length=0:=by omega
     have HO':Hid (wr.ownsRow w1.heap.size 9 1 (.slice p0 0 c0) L.length (strV L)):=by rw[Hid,←hl0];exact HO.out
     rw[hl0]
     clear hj1 hj HO hl0
     go_wp2_with fail
     go_loopw [5,8] (fun vo vs wz=>∃(z:ByteArray) (L2:List ByteArray),vs=.string z∧z.size≤300∧L2.length+z.size≤L.length+x.size∧Hid (L2.map (fun b=>b.toList)++chop n z.toList.length z.toList=L.map (fun b=>b.toList)++chop n x.toList.length x.toList)∧Hid (wz.ownsRow w1.heap.size 9 1 vo L2.length (strV L2))∧Hid (Below w1.heap.size w1 wz)) (fun _ vs _=>match vs with | .string z=>z.size | _=>0)
     case atStart=>exact⟨x,L,rfl,hs3,Nat.le_refl _,rfl,HO',HB⟩
     case round=>
      obtain⟨z,L2,rfl,hz3,hzl,HC2,HO2,HB2⟩:=hrel
      by_cases hzt:n<z.size
      ·have hztz:(n:Int)<z.size:=by omega
       have hle:n≤z.size:=by omega
       have HC3:Hid ((L2++[z.extract 0 n]).map (fun b=>b.toList)++chop n (z.extract n z.size).toList.length (z.extract n z.size).toList=L.map (fun b=>b.toList)++chop n x.toList.length x.toList):=by
        rw[Hid,←HC2.out,chop_step (s:=z.toList) h1 (by rw[len_eq];exact hzt),List.map_append,list_drop,List.append_assoc,List.map_singleton,list_take];rfl
       have HSZ:Hid ((z.extract n z.size).size=z.size-n):=by rw[Hid,ByteArray.size_extract];omega
       go_wp2_with (at_builtin;refine wpList_append_own_at _ rfl (.tmp 54) (.tmp 58) 35 rfl w1.heap.size 9 i0 (.string ByteArray.empty) 1 16 Tryz.underlying35 hi hz0 hz1 hz2 rfl (by decide) _ L2.length (strV L2) rfl (HO2.out.alloc _) ⟨wr.heap.size,0,none⟩ 1 1 [.string (z.extract 0 n)] rfl rfl (strV_one _ _) (by intro u hu;simp at hu;subst hu;rfl) (by unfold maxLen;omega) (by omega) (by have:=HB2.out.size;simp;omega) ?_;intro v' w5 hown' hgrow _ hat;have HO5:=z9 (own_snoc hown');have HB5:=z9 (own_grow HO2.out HB2.out hgrow);clear hown' hgrow hat)
       go_roundw
       case rel=>exact⟨z.extract n z.size,L2++[z.extract 0 n],rfl,by rw[HSZ.out];omega,by rw[HSZ.out,List.length_append,List.length_singleton];omega,HC3,HO5,HB5⟩
       case measure=>show(z.extract n z.size).size<z.size;rw[HSZ.out];omega
      ·have hztz:¬(n:Int)<z.size:=by omega
       have HC3:Hid ((L2++[z]).map (fun b=>b.toList)=addW n (L.map (fun b=>b.toList)) x.toList):=by
        rw[Hid,HA.out,←HC2.out,chop_end (by rw[len_eq];exact hzt),List.map_append];rfl
       go_wp2_with (at_builtin;refine wpList_append_own_at _ rfl (.tmp 63) (.tmp 65) 35 rfl w1.heap.size 9 i0 (.string ByteArray.empty) 1 16 Tryz.underlying35 hi hz0 hz1 hz2 rfl (by decide) _ L2.length (strV L2) rfl (HO2.out.alloc _) ⟨wr.heap.size,0,none⟩ 1 1 [.string z] rfl rfl (strV_one _ _) (by intro u hu;simp at hu;subst hu;rfl) (by unfold maxLen;omega) (by omega) (by have:=HB2.out.size;simp;omega) ?_;intro v' w5 hown' hgrow _ hat;have HO5:=z9 (own_snoc hown');have HB5:=z9 (own_grow HO2.out HB2.out hgrow);clear hown' hgrow hat)
       go_roundw
       case rel=>exact⟨k+1,L2++[z],by omega,by go_num,by rw[Hid,HF.out];exact HC3.out,HO5,HB5⟩
       case measure=>simp[intOf];omega
  ·have hltz:¬(k:Int)<m:=by omega
   have HE:Hid (L.map (fun b=>b.toList)=lines n t.toList):=by
    rw[Hid,HL.out,List.take_of_length_le (by rw[HN.out];omega),HWL.out];rfl
   go_wp2_with fail
   go_ret
   exact⟨_,rfl,L,HE.out,World.ownsRow.mono HO.out HB1.out.size,bel HB1.out HB.out⟩
end F9
end Go.Proofs.YtlmdchpbpgcfmaaGreatDoor
