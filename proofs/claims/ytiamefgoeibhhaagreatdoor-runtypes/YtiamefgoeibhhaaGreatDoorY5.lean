import Derived.Test.YtiamefgoeibhhaaGreatDoorY3
import Derived.Test.YtiamefgoeibhhaaGreatDoorRu
import Derived.Test.YtiamefgoeibhhaaGreatDoorZ1
import Derived.Test.YtiamefgoeibhhaaGreatDoorHq
set_option linter.unusedVariables false
set_option maxRecDepth 100000
set_option maxHeartbeats 8000000
namespace Go.Proofs.YtiamefgoeibhhaaGreatDoor
namespace Rx4
open Go.ChangeShapes Go.WideShapes Go.ChangeAt Go.RowKit Rz1 Rx3
open Kt (ET)
theorem et_lt {w:World} (hg:ET w):0<w.heap.size:=by
 unfold ET at hg
 exact World.block_lt_of_cell? _ _ hg
theorem et_below {w w':World} (hg:ET w) (hb:Below w.heap.size w w'):ET w':=by
 have h9:=hb.cell (p:=⟨0,0,none⟩) (et_lt hg)
 unfold ET at hg ⊢
 rw[h9];exact hg
theorem error_any (e:Int) (h1:1≤e) (h8:e≤8) (w:World):
  Calls Tryz.prog 47 #[.int .i64 e] w fun r w'=>r=.returned (.string (mk (nameE e)))∧w'=w:=by
 obtain rfl | rfl | rfl | rfl | rfl | rfl | rfl | rfl:e=1∨e=2∨e=3∨e=4∨e=5∨e=6∨e=7∨e=8:=by omega
 all_goals
  go_enter Tryz.func47,Tryz.ntmps47
  go_wp2
  go_ret
  exact⟨rfl,rfl⟩
abbrev W2 (w:World):World:=(w.alloc (.cells #[.nilIface] 119)).alloc (.cells #[.int .i64 0] 76)
theorem w2_below (w:World):Below w.heap.size w (W2 w):=((Below.refl _ w).alloc (Nat.le_refl _) _).alloc (by simp) _
theorem w2_cells (w:World):(W2 w).cell? ⟨w.heap.size,0,none⟩=some .nilIface∧(W2 w).frozen? ⟨w.heap.size,0,none⟩=false∧(W2 w).cell? ⟨w.heap.size+1,0,none⟩=some (.int .i64 0)∧(W2 w).frozen? ⟨w.heap.size+1,0,none⟩=false:=by
 have h1:(W2 w).heap[w.heap.size]? =some (.cells #[.nilIface] 119):=(heap_alloc_old _ _ (by simp)).trans (heap_alloc_new w _)
 have h2:(W2 w).heap[w.heap.size+1]? =some (.cells #[.int .i64 0] 76):=by
  have h9:=heap_alloc_new (w.alloc (.cells #[.nilIface] 119)) (.cells #[.int .i64 0] 76)
  rwa [World.size_alloc] at h9
 exact⟨Ic.blk_cell h1 rfl,Ic.blk_free h1,Ic.blk_cell h2 rfl,Ic.blk_free h2⟩
theorem told_bad (k:Int) (w:World) (hg:ET w):Calls Tryz.prog 32 #[unV k] w fun r w'=>r=.returned (.string (mk tBad))∧Below w.heap.size w w':=by
 obtain⟨a1,a2,a3,a4⟩:=w2_cells w
 have C:=Ru.as_hit k ⟨w.heap.size,0,none⟩ .nilIface (W2 w) (et_below hg (w2_below w)) a1 a2
 have HB:=z9 (w2_below w)
 clear hg a1 a2 a3 a4
 go_enter Tryz.func32,Tryz.ntmps32
 go_wp2_with fail
 refine C.mono ?_
 rintro e w1 ⟨rfl,hw⟩
 have HB1:Hid (Below w.heap.size w w1):=by
  unfold Hid;rw[hw]
  have hz:=HB.out.size
  refine Below.setCell (p:=⟨w.heap.size,0,none⟩) ?_ (Nat.le_refl _) _
  exact(((HB.out.alloc (by omega) _).alloc (by simp;omega) _).alloc (by simp;omega) _).alloc (by simp;omega) _
 clear hw C
 go_wp2_with fail
 go_ret
 exact⟨rfl,HB1.out⟩
theorem told_num (k:Int) (h1:1≤k) (h8:k≤8) (w:World) (hg:ET w):Calls Tryz.prog 32 #[.iface 76 (.int .i64 k)] w fun r w'=>r=.returned (.string (mk (nameE k)))∧Below w.heap.size w w':=by
 obtain⟨a1,a2,a3,a4⟩:=w2_cells w
 have C:=Ru.as_miss k ⟨w.heap.size,0,none⟩ .nilIface (W2 w) (et_below hg (w2_below w)) a1
 have HB:=z9 (w2_below w)
 have HG:=z9 (et_below hg (w2_below w))
 have HE:Hid (∀W,Calls Tryz.prog 47 #[.int .i64 k] W fun r w'=>r=.returned (.string (mk (nameE k)))∧w'=W):=fun W=>error_any k h1 h8 W
 have HC:Hid ((W2 w).cell? ⟨w.heap.size+1,0,none⟩=some (.int .i64 0)∧(W2 w).frozen? ⟨w.heap.size+1,0,none⟩=false):=⟨a3,a4⟩
 obtain⟨T,hT⟩:∃T,T=mk (nameE k):=⟨_,rfl⟩
 rw[←hT] at HE ⊢
 clear hg a1 a2 a3 a4 h1 h8 hT
 go_enter Tryz.func32,Tryz.ntmps32
 go_wp2_with fail
 refine C.mono ?_
 rintro e w1 ⟨rfl,hb1⟩
 have hlt:w.heap.size+1<(W2 w).heap.size:=by simp[W2]
 have C2:=Kt.as_hit k ⟨w.heap.size+1,0,none⟩ (.int .i64 0) w1 (et_below HG.out hb1) (by rw[hb1.cell (p:=⟨w.heap.size+1,0,none⟩) hlt];exact HC.out.1) (by rw[hb1.frozen (p:=⟨w.heap.size+1,0,none⟩) hlt];exact HC.out.2)
 have HB1:=z9 (La.bel HB.out hb1)
 have HLT:=z9 (Nat.lt_of_lt_of_le hlt hb1.size)
 have HC1:Hid (w1.cell? ⟨w.heap.size+1,0,none⟩=some (.int .i64 0)):=by unfold Hid;rw[hb1.cell (p:=⟨w.heap.size+1,0,none⟩) hlt];exact HC.out.1
 clear C hb1 hlt
 go_wp2_with fail
 refine C2.mono ?_
 rintro e w2 ⟨rfl,hw⟩
 have HB2:Hid (Below w.heap.size w w2):=by
  unfold Hid;rw[hw]
  have hz:=HB1.out.size
  refine Below.setCell (p:=⟨w.heap.size+1,0,none⟩) ?_ (Nat.le_succ _) _
  exact(((HB1.out.alloc (by omega) _).alloc (by simp;omega) _).alloc (by simp;omega) _).alloc (by simp;omega) _
 have hc:w2.cell? ⟨w.heap.size+1,0,none⟩=some (.int .i64 k):=by
  rw[hw]
  have hl:=HLT.out
  refine World.cell?_setCell_same _ _ _ (u:=.int .i64 0) ?_
  rw[World.cell?_alloc_lt _ _ _ (by simp;omega),World.cell?_alloc_lt _ _ _ (by simp;omega),World.cell?_alloc_lt _ _ _ (by simp;omega),World.cell?_alloc_lt _ _ _ hl]
  exact HC1.out
 have C3:=HE.out w2
 clear hw C2
 go_wp2_with fail
 refine C3.mono ?_
 rintro e w3 ⟨rfl,hw⟩
 have hw2:=hw.symm;subst hw2;clear hw C3
 go_wp2_with fail
 go_ret
 exact⟨rfl,HB2.out⟩
end Rx4
namespace Rx5
open Go.ChangeShapes Go.WideShapes Go.ChangeAt Go.RowKit Cm Ka Om Hm Ia Hc Hd Hl Rz1 Rz4 Rx3
open La (bel bel_drew errV_zero errV_ne)
structure Nw (F0:Nat→Prop) (w0 w:World) (X:Nat) (N:Nt):Prop where
 at':∃F,At w X N F∧∀g,F g→F0 g∨w0.heap.size≤g
 chg:Chg F0 w0 w
theorem Nw.start {F:Nat→Prop} {w:World} {X:Nat} {N:Nt} (h:At w X N F):Nw F w w X N:=⟨⟨F,h,fun g hg=>Or.inl hg⟩,Chg.refl _ _⟩
theorem Nw.below {F0:Nat→Prop} {w0 w w':World} {X:Nat} {N:Nt} (h:Nw F0 w0 w X N) (hb:Below w.heap.size w w'):Nw F0 w0 w' X N:=by
 obtain⟨F,h1,h2⟩:=h.at'
 exact⟨⟨F,h1.below hb,h2⟩,h.chg.trans (Chg.ofBelow hb F0)⟩
theorem Nw.trans {F0:Nat→Prop} {w0 w w':World} {X:Nat} {N N':Nt} (h:∃F,At w X N F∧(∀g,F g→F0 g∨w0.heap.size≤g)∧Nw F w w' X N') (hc:Chg F0 w0 w):Nw F0 w0 w' X N':=by
 obtain⟨F,h1,h2,h3⟩:=h
 obtain⟨F',h4,h5⟩:=h3.at'
 refine⟨⟨F',h4,fun g hg=> ?_⟩,hc.next h3.chg h2⟩
 rcases h5 g hg with e | e
 ·exact h2 g e
 ·exact Or.inr (Nat.le_trans hc.size e)
theorem Nw.does {F0:Nat→Prop} {w0 w:World} {X:Nat} {N:Nt} (h:Nw F0 w0 w X N) (hg:Gl N) (hu:N.us.length≤100) (e:Ev):
  Calls Tryz.prog 49 #[ptr X,evV e] w fun r w'=>r=.returned (errV (evE N e))∧Hid (Nw F0 w0 w' X (evS N e)):=by
 obtain⟨F,h1,h2⟩:=h.at'
 refine(Hq.says.does X N F e w h1 hg hu).mono ?_
 rintro r w' ⟨hr,F',q1,q2,q3⟩
 exact⟨hr,Nw.trans ⟨F,h1,h2,⟨⟨F',q1,q3⟩,q2⟩⟩ h.chg⟩
theorem Nw.size {F0:Nat→Prop} {w0 w:World} {X:Nat} {N:Nt} (h:Nw F0 w0 w X N):w0.heap.size≤w.heap.size:=h.chg.size
theorem drop_cons {t:ByteArray} {j:Nat} (h:j<t.size):t.toList.drop j=t[j]::t.toList.drop (j+1):=by
 have hl:j<t.toList.length:=by rw[Kb.len_eq];exact h
 rw[List.drop_eq_getElem_cons hl]
 congr 1
 simp[ByteArray.toList_eq];rfl
theorem typ_stop {N:Nt} {i k:Int} {c:UInt8} {r:Tx} (h:evE N (1,i,k,(c.toNat:Int))≠0):typ N i k (c::r)=(evE N (1,i,k,(c.toNat:Int)),evS N (1,i,k,(c.toNat:Int))):=by rw[typ,if_pos h]
theorem typ_go {N:Nt} {i k:Int} {c:UInt8} {r:Tx} (h:evE N (1,i,k,(c.toNat:Int))=0):typ N i k (c::r)=typ (evS N (1,i,k,(c.toNat:Int))) i (k+1) r:=by rw[typ,if_neg (by rw[h];decide)]
theorem type_any (F0 : Nat → Prop) (w0 : World) (X : Nat) (N : Nt) (i k : Nat) (t : ByteArray) (w : World) (h : Nw F0 w0 w X N) (ho : Ok N) (hi : i ≤ 9999) (hk : k ≤ 9999) (ht : t.size ≤ 100000) :
  Calls Tryz.prog 48 #[ptr X, .int .i64 i, .int .i64 k, .string t] w fun r w' => r = .returned (errV (typ N i k t.toList).1) ∧ Hid (Nw F0 w0 w' X (typ N i k t.toList).2) := by
 have HW := Hid.mk' h
 have HO := Hid.mk' ho
 clear h ho
 go_enter Tryz.func48, Tryz.ntmps48
 go_wp2_with fail
 go_loopw [9, 10, 13] (fun _ _ v wr => ∃ (j : Nat) (M : Nt), j ≤ t.size ∧ v = .int .i64 j ∧ Hid (Nw F0 w0 wr X M) ∧ Hid (Ok M) ∧ Hid (typ N i k t.toList = typ M i ((k : Int) + j) (t.toList.drop j))) (fun _ _ v _ => t.size - (intOf v).toNat)
 case atStart => exact ⟨0, N, by omega, rfl, HW, HO, by unfold Hid; rw [List.drop_zero, show (k : Int) + ((0 : Nat) : Int) = k by omega]⟩
 case round =>
  clear HW HO
  obtain ⟨j, M, hj, rfl, HW, HO, HT⟩ := hrel
  by_cases hlt : j < t.size
  ·have hltz : (j : Int) < t.size := by omega
   have hb : t[j].toNat < 256 := UInt8.toNat_lt _
   have HD := Hid.mk' (drop_cons hlt)
   have C := HW.out.does HO.out.gl (by rw [HO.out.none]; exact Nat.zero_le _) (1, (i : Int), (k : Int) + j, (t[j].toNat : Int))
   by_cases h0 : evE M (1, (i : Int), (k : Int) + j, (t[j].toNat : Int)) = 0
   ·have HT2 : Hid (typ N i k t.toList = typ (evS M (1, (i : Int), (k : Int) + j, (t[j].toNat : Int))) i ((k : Int) + (j + 1 : Nat)) (t.toList.drop (j + 1))) := by
     unfold Hid
     rw [HT.out, HD.out, typ_go h0, show (k : Int) + j + 1 = (k : Int) + ((j + 1 : Nat) : Int) by omega]
    have HO2 : Hid (Ok (evS M (1, (i : Int), (k : Int) + j, (t[j].toNat : Int)))) := HO.out.ed rfl
    rw [h0, errV_zero] at C
    clear h0
    go_wp2_with fail
    refine C.mono ?_
    rintro e w2 ⟨rfl, hw2⟩
    clear C
    go_wp2_with fail
    go_roundw
    case rel => exact ⟨j + 1, _, by omega, by go_num, hw2, HO2, HT2⟩
    case measure => simp [intOf]; omega
   ·have HT2 : Hid (typ N i k t.toList = (evE M (1, (i : Int), (k : Int) + j, (t[j].toNat : Int)), evS M (1, (i : Int), (k : Int) + j, (t[j].toNat : Int)))) := by
     unfold Hid
     rw [HT.out, HD.out, typ_stop h0]
    have HE := z9 (errV_ne h0)
    rw [HE.out] at C
    obtain ⟨E, hE⟩ : ∃ E, E = evE M (1, (i : Int), (k : Int) + j, (t[j].toNat : Int)) := ⟨_, rfl⟩
    rw [← hE] at C HE
    have HEE := Hid.mk' hE
    clear h0 hE
    go_wp2_with fail
    refine C.mono ?_
    rintro e w2 ⟨rfl, hw2⟩
    clear C
    go_wp2_with fail
    go_ret
    exact ⟨by rw [HT2.out]; dsimp only; rw [← HEE.out, HE.out]; rfl, by rw [HT2.out]; exact hw2⟩
  ·obtain rfl : j = t.size := by omega
   have hltz : ¬ (t.size : Int) < t.size := by omega
   have HT2 : Hid (typ N i k t.toList = (0, M)) := by
    unfold Hid
    rw [HT.out, List.drop_of_length_le (by rw [Kb.len_eq]; exact Nat.le_refl _)]; rfl
   go_wp2_with fail
   go_ret
   exact ⟨by rw [HT2.out]; rfl, by rw [HT2.out]; exact HW⟩
theorem sent_stop {N:Nt} {a b:Int} (h:evE N (3,a,b,0)≠0):sent N a b=(evE N (3,a,b,0),evS N (3,a,b,0)):=by unfold sent;rw[if_pos h]
theorem sent_go {N:Nt} {a b:Int} (h:evE N (3,a,b,0)=0):sent N a b=(evE (evS N (3,a,b,0)) (4,((evS N (3,a,b,0)).us.length:Int)-1,0,0),evS (evS N (3,a,b,0)) (4,((evS N (3,a,b,0)).us.length:Int)-1,0,0)):=by unfold sent;rw[if_neg (by rw[h];decide)]
theorem send_any (F0:Nat→Prop) (w0:World) (X:Nat) (N:Nt) (a b:Nat) (w:World) (h:Nw F0 w0 w X N) (ho:Ok N):
  Calls Tryz.prog 50 #[ptr X,.int .i64 a,.int .i64 b] w fun r w'=>r=.returned (errV (sent N a b).1)∧Hid (Nw F0 w0 w' X (sent N a b).2):=by
 have C:=h.does ho.gl (by rw[ho.none];exact Nat.zero_le _) (3,(a:Int),(b:Int),0)
 by_cases h0:evE N (3,(a:Int),(b:Int),0)=0
 ·have HS:=Hid.mk' (sent_go h0)
  have hu:(evS N (3,(a:Int),(b:Int),0)).us.length≤100:=us_ev (by rw[ho.none];exact Nat.zero_le _) _
  have HG:=Hid.mk' (ho.gl.ev (3,(a:Int),(b:Int),0)).1
  rw[h0,errV_zero] at C
  obtain⟨M,hM⟩:∃M,M=evS N (3,(a:Int),(b:Int),0):=⟨_,rfl⟩
  rw[←hM] at C HS hu HG
  obtain⟨n,hn⟩:∃n,n=M.us.length:=⟨_,rfl⟩
  rw[←hn] at hu HS
  have HN:=Hid.mk' hn
  clear h ho h0 hM hn
  go_enter Tryz.func50,Tryz.ntmps50
  go_wp2_with fail
  refine C.mono ?_
  rintro e w1 ⟨rfl,HW1⟩
  obtain⟨F,q1,q2⟩:=HW1.out.at'
  have C2:=Hq.under.under X M F w1 q1 (by rw[←HN.out];exact hu)
  rw[←HN.out] at C2
  clear C q1 q2
  go_wp2_with fail
  refine C2.mono ?_
  rintro e w2 ⟨rfl,hb2⟩
  have HW2:=Hid.mk' (HW1.out.below hb2)
  have C3:=HW2.out.does HG.out (by rw[←HN.out];exact hu) (4,(n:Int)-1,0,0)
  obtain⟨V,hV⟩:∃V,V=errV (evE M (4,(n:Int)-1,0,0)):=⟨_,rfl⟩
  rw[←hV] at C3
  have HV:=Hid.mk' hV
  clear C2 hb2 hV
  go_wp2_with fail
  refine C3.mono ?_
  rintro e w3 ⟨rfl,HW3⟩
  clear C3
  go_wp2_with fail
  go_ret
  exact⟨by rw[HS.out];dsimp only;rw[HV.out];rfl,by rw[HS.out];exact HW3⟩
 ·have HS:=Hid.mk' (sent_stop h0)
  rw[errV_ne h0] at C
  have HE:=Hid.mk' (errV_ne h0)
  obtain⟨E,hE⟩:∃E,E=evE N (3,(a:Int),(b:Int),0):=⟨_,rfl⟩
  rw[←hE] at C HE
  have HEE:=Hid.mk' hE
  clear h ho h0 hE
  go_enter Tryz.func50,Tryz.ntmps50
  go_wp2_with fail
  refine C.mono ?_
  rintro e w1 ⟨rfl,HW1⟩
  clear C
  go_wp2_with fail
  go_ret
  exact⟨by rw[HS.out];dsimp only;rw[←HEE.out,HE.out];rfl,by rw[HS.out];exact HW1⟩
def shwT (S:Dq):ByteArray:=mk (39::(Bm.text S.book++[39]))
theorem shw_eq {S:Dq} (I:Inv S):(⟨#[39]⟩:ByteArray)++Lf.textR S.book++⟨#[39]⟩=shwT S:=by
 have h:Lf.textR S.book=⟨(Bm.text S.book).toArray⟩:=by unfold Lf.textR;rw[if_pos I.book]
 rw[h]
 apply ByteArray.ext
 rw[ByteArray.data_append,ByteArray.data_append]
 unfold shwT mk
 simp
theorem text_size {S:Dq} (I:Inv S):(Lf.textR S.book).size≤300:=by
 have h:Lf.textR S.book=⟨(Bm.text S.book).toArray⟩:=by unfold Lf.textR;rw[if_pos I.book]
 have h2:=Bm.text_len_le S.book
 have h3:=Il.few_book I
 rw[h];show(Bm.text S.book).toArray.size≤300
 simp;omega
theorem show_yes (F:Nat→Prop) (X:Nat) (N:Nt) (i:Nat) (w:World) (h:At w X N F) (hg:Gl N) (hi:i<N.ds.length):
  Calls Tryz.prog 51 #[ptr X,.int .i64 i] w fun r w'=>r=.returned (.tuple #[.string (shwT (dq N i)),.nilIface])∧Below w.heap.size w w':=by
 have C:=Hq.text.text X N F i w h hg
 have ho:¬out N.ds.length (i:Int):=by unfold out;omega
 rw[if_neg ho,if_neg ho,errV_zero,Int.toNat_natCast] at C
 have I:=(hg.inv i hi).1
 have HS:=Hid.mk' (shw_eq I)
 have hs:=text_size I
 obtain⟨T,hT⟩:∃T,T=Lf.textR (dq N i).book:=⟨_,rfl⟩
 rw[←hT] at C HS hs
 have c1:(⟨#[39]⟩:ByteArray).size=1:=rfl
 have c2:((⟨#[39]⟩:ByteArray)++T).size≤301:=by rw[ByteArray.size_append];omega
 clear h hg hi ho I hT
 go_enter Tryz.func51,Tryz.ntmps51
 go_wp2_with fail
 refine C.mono ?_
 rintro e w1 ⟨rfl,hb1⟩
 have HB:=Hid.mk' hb1
 clear C hb1
 go_wp2_with fail
 go_ret2
 exact⟨by rw[←HS.out];rfl,HB.out⟩
theorem show_no (F:Nat→Prop) (X:Nat) (N:Nt) (i:Nat) (w:World) (h:At w X N F) (hg:Gl N) (hi:¬i<N.ds.length):
  Calls Tryz.prog 51 #[ptr X,.int .i64 i] w fun r w'=>r=.returned (.tuple #[.string e0,.iface 76 (.int .i64 1)])∧Below w.heap.size w w':=by
 have C:=Hq.text.text X N F i w h hg
 have ho:out N.ds.length (i:Int):=by unfold out;omega
 rw[if_pos ho,if_pos ho,errV_ne (by decide)] at C
 clear h hg hi ho
 go_enter Tryz.func51,Tryz.ntmps51
 go_wp2_with fail
 refine C.mono ?_
 rintro e w1 ⟨rfl,hb1⟩
 have HB:=Hid.mk' hb1
 clear C hb1
 go_wp2_with fail
 go_ret2
 exact⟨rfl,HB.out⟩
theorem same_any (F:Nat→Prop) (X:Nat) (N:Nt) (w:World) (h:At w X N F) (hg:Gl N) (hi:1≤N.ds.length):
  Calls Tryz.prog 54 #[ptr X] w fun r w'=>r=.returned (.string (mk (if sameN N then tYes else tNo)))∧Below w.heap.size w w':=by
 have C:=Hq.same.same X N F w h hg hi
 rw[show sameB N=sameN N from rfl] at C
 clear h hg hi
 cases hs:sameN N
 ·rw[hs] at C
  clear hs
  go_enter Tryz.func54,Tryz.ntmps54
  go_wp2_with fail
  refine C.mono ?_
  rintro e w1 ⟨rfl,hb1⟩
  have HB:=Hid.mk' hb1
  clear C hb1
  go_wp2_with fail
  go_ret
  exact⟨rfl,HB.out⟩
 ·rw[hs] at C
  clear hs
  go_enter Tryz.func54,Tryz.ntmps54
  go_wp2_with fail
  refine C.mono ?_
  rintro e w1 ⟨rfl,hb1⟩
  have HB:=Hid.mk' hb1
  clear C hb1
  go_wp2_with fail
  go_ret
  exact⟨rfl,HB.out⟩
end Rx5
end Go.Proofs.YtiamefgoeibhhaaGreatDoor
