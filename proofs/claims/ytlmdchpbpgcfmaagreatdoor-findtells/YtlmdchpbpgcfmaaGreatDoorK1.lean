import Derived.Test.YtlmdchpbpgcfmaaGreatDoorK0
import Derived.Test.YtlmdchpbpgcfmaaGreatDoorJ2
import Derived.Test.YtlmdchpbpgcfmaaGreatDoorJ3
set_option linter.unusedVariables false
set_option maxRecDepth 100000
set_option maxHeartbeats 8000000
/- What the reference says of what is seen: Text, Nth, Ahead. -/
namespace Go.Proofs.YtlmdchpbpgcfmaaGreatDoor
namespace Mb
open Go.ChangeShapes Go.WideShapes Go.ChangeAt Go.RowKit Bm Ka Kb La Lb Lc Ld Le Lf Lp
theorem text_ref (q:Option Addr) (n c:Nat) (l:List Leaf) (w:World) (hl:l.length=n) (h:LeafsIn w q l) (ho:∀x ∈ l,x.2.1=0∨isL x.2.1=true) (hn:n≤1048576):
  Calls Tryz.prog 70 #[.slice q n c] w fun e w'=>e=.returned (.string ⟨(text l).toArray⟩)∧Below w.heap.size w w':=by
 have HL:=z9 hl
 have HI:=z9 h
 have HO:=z9 ho
 obtain⟨i0,hi,hz0,hz1,hz2⟩:=info_parts infoByte
 clear hl h ho
 go_enter Tryz.func70,Tryz.ntmps70
 go_wp2
 go_loopw [3,4,5] (fun v i _ wr=>∃(k:Nat),k≤n∧i=.int .i64 k∧Hid (wr.ownsRow w.heap.size 5 1 v (text (l.take k)).length (bc (text (l.take k))))∧Hid (Below w.heap.size w wr)) (fun _ i _ _=>n-(intOf i).toNat)
 case atStart=>exact⟨0,by omega,rfl,World.ownsRow_nil _ _ _ _,Below.refl _ _⟩
 case round=>
  obtain⟨k,hk,rfl,HW,HB⟩:=hrel
  by_cases hlt:k<n
  ·have hltz:(k:Int)<n:=by omega
   obtain⟨b,o,rfl,hc⟩:=HI.out.some (by intro e;have:=HL.out;rw[e] at this;simp at this;omega)
   have hkl:k<l.length:=by rw[HL.out];exact hlt
   have HC:=z9 (hc k hkl)
   have ha:=(hc k hkl).below HB.out (hc k hkl).lt
   have hoo:=HO.out _ (getD_mem hkl)
   have HT:=z9 (take_text hkl)
   have htl:(text (l.take k)).length≤1048576:=by
    have h1:=text_len_le (l.take k)
    rw[List.length_take] at h1
    omega
   obtain⟨x,hx⟩:∃x,x=l.getD k none0:=⟨_,rfl⟩
   rw[←hx] at ha hoo HT HC
   obtain⟨sx,nx,bx⟩:=x
   obtain⟨a1,a2,a3⟩:=ha
   clear hc hx
   simp only at a1 a2 a3 hoo
   have C:=seen_ref sx nx bx wr
   obtain⟨tx,htx⟩:∃tx,tx=text (l.take k):=⟨_,rfl⟩
   rw[←htx] at HW HT htl
   cases hse:isS (sx,nx,bx)
   ·rw[hse] at C HT
    have HW2:Hid (wr.ownsRow w.heap.size 5 1 u3 (text (l.take (k+1))).length (bc (text (l.take (k+1))))):=by
     unfold Hid;rw[HT.out];exact HW.out
    clear hse htx hoo
    go_wp2_with fail
    refine C.mono ?_
    rintro e w2 ⟨rfl,hb2⟩
    have HB2:=z9 (bel HB.out hb2)
    have HW3:=z9 (own_below HW2.out hb2)
    clear hb2 C a1 a2 a3
    go_wp2_with fail
    go_roundw
    case rel=>exact⟨k+1,by omega,by go_num,HW3,HB2⟩
    case measure=>simp[intOf];omega
   ·rw[hse] at C HT
    have hnx:isL nx=true:=by
     rcases hoo with e | e
     ·unfold isS at hse;rw[e] at hse;simp at hse
     ·exact e
    have hnb:=isL_ne hnx
    have HLT:=z9 (letter_nat (x:=(sx,nx,bx)) hnx)
    clear hse htx hoo hnx
    obtain⟨hnb1,hnb2,hnb3⟩:=hnb
    go_wp2_with fail
    refine C.mono ?_
    rintro e w2 ⟨rfl,hb2⟩
    have HB2:=z9 (bel HB.out hb2)
    have d2:=(HC.out.below HB2.out HC.out.lt).2.1
    simp only at d2
    have HW3:=z9 (own_below HW.out hb2)
    clear hb2 C a1 a2 a3
    go_wp2_with (at_builtin;refine wpList_append_own_at _ rfl (.tmp 18) (.tmp 25) 178 rfl w.heap.size 5 i0 (.int .u8 0) 1 1 Tryz.underlying178 hi hz0 hz1 hz2 rfl (by decide) u3 _ _ rfl (HW3.out.alloc _) ⟨w2.heap.size,0,none⟩ 1 1 [.int .u8 nx] rfl rfl (cell_one_new _ _ _) (by intro u hu;simp at hu;subst hu;rfl) (by unfold maxLen;omega) (by omega) (by have:=HB2.out.size;simp;omega) ?_;intro v' w3 hown' hgrow _ hat;have HB3:Hid (Below w.heap.size w w3):=(own_grow HW3.out (HB2.out.alloc HB2.out.size _) hgrow (by have:=HB2.out.size;simp;omega));have HW4:Hid (w3.ownsRow w.heap.size 5 1 v' (text (l.take (k+1))).length (bc (text (l.take (k+1))))):=(by unfold Hid;rw[HT.out];exact own_one HLT.out hown');clear hown' hgrow hat)
    go_roundw
    case rel=>exact⟨k+1,by omega,by go_num,HW4,HB3⟩
    case measure=>simp[intOf];omega
  ·obtain rfl:k=n:=by omega
   have hcv:(convert 178 9 u3).run Tryz.prog wr=.ok (.string ⟨(text l).toArray⟩) wr:=by
    have:=own_text HW.out
    rwa [List.take_of_length_le (by rw[HL.out];exact Nat.le_refl _)] at this
   go_wp2_with fail
   go_ret
   exact⟨rfl,HB.out⟩
theorem nth_ref (q:Option Addr) (n c:Nat) (l:List Leaf) (f:Int) (w:World) (hl:l.length=n) (h:LeafsIn w q l) (hn:n≤1048576) (hf:0≤f):
  Calls Tryz.prog 157 #[.slice q n c,.int .i64 f] w fun e w'=>e=.returned (.int .i64 (nth l 0 f))∧Below w.heap.size w w':=by
 have HL:=z9 hl
 have HI:=z9 h
 clear hl h
 go_enter Tryz.func157,Tryz.ntmps157
 go_wp2
 go_loopw [5,6,7] (fun m i _ wr=>∃(k:Nat) (a:Int),k≤n∧i=.int .i64 k∧m=.int .i64 a∧Hid (0≤a∧a≤k∧a≤f∧nth (l.drop k) k (f-a)=nth l 0 f)∧Hid (Below w.heap.size w wr)) (fun _ i _ _=>n-(intOf i).toNat)
 case atStart=>exact⟨0,0,by omega,rfl,rfl,⟨by omega,by omega,hf,by rw[List.drop_zero,Int.sub_zero]⟩,Below.refl _ _⟩
 case round=>
  obtain⟨k,a,hk,rfl,rfl,HN,HB⟩:=hrel
  by_cases hlt:k<n
  ·have hltz:(k:Int)<n:=by omega
   obtain⟨b,o,rfl,hc⟩:=HI.out.some (by intro e;have:=HL.out;rw[e] at this;simp at this;omega)
   have hkl:k<l.length:=by rw[HL.out];exact hlt
   have ha:=(hc k hkl).below HB.out (hc k hkl).lt
   have HD:Hid (nth (l.drop k) k (f-a)=if isS (l.getD k none0) then(if f-a=0 then(k:Int) else nth (l.drop (k+1)) (k+1) (f-a-1)) else nth (l.drop (k+1)) (k+1) (f-a)):=nth_drop hkl _
   obtain⟨x,hx⟩:∃x,x=l.getD k none0:=⟨_,rfl⟩
   rw[←hx] at ha HD
   obtain⟨sx,nx,bx⟩:=x
   obtain⟨a1,a2,a3⟩:=ha
   clear hc hx
   simp only at a1 a2 a3
   obtain⟨hn1,hn2,hn3,hn4⟩:=HN.out
   have C:=seen_ref sx nx bx wr
   cases hse:isS (sx,nx,bx)
   ·rw[hse] at C HD
    have HN2:Hid (0≤a∧a≤((k+1:Nat):Int)∧a≤f∧nth (l.drop (k+1)) (k+1) (f-a)=nth l 0 f):=⟨hn1,by omega,hn3,by rw[←hn4,HD.out];rfl⟩
    clear HD hse hn4
    go_wp2_with fail
    refine C.mono ?_
    rintro e w2 ⟨rfl,hb2⟩
    have HB2:=z9 (bel HB.out hb2)
    clear hb2 C
    go_wp2_with fail
    go_roundw
    case rel=>exact⟨k+1,a,by omega,by go_num,rfl,HN2,HB2⟩
    case measure=>simp[intOf];omega
   ·rw[hse] at C HD
    by_cases hfa:a=f
    ·have HR:Hid (nth l 0 f=(k:Int)):=by unfold Hid;rw[←hn4,HD.out,if_pos rfl,if_pos (by omega)]
     have hfb:(a==f)=true:=by simpa using hfa
     clear HD hse hn4 hfa
     go_wp2_with fail
     refine C.mono ?_
     rintro e w2 ⟨rfl,hb2⟩
     have HB2:=z9 (bel HB.out hb2)
     clear hb2 C
     go_wp2_with fail
     go_ret
     exact⟨by rw[HR.out];rfl,HB2.out⟩
    ·have HN2:Hid (0≤a+1∧a+1≤((k+1:Nat):Int)∧a+1≤f∧nth (l.drop (k+1)) (k+1) (f-(a+1))=nth l 0 f):=⟨by omega,by omega,by omega,by rw[←hn4,HD.out,if_pos rfl,if_neg (by omega),show f-(a+1)=f-a-1 by omega]⟩
     have hfb:(a==f)=false:=by simpa using hfa
     clear HD hse hn4
     go_wp2_with fail
     refine C.mono ?_
     rintro e w2 ⟨rfl,hb2⟩
     have HB2:=z9 (bel HB.out hb2)
     clear hb2 C
     go_wp2_with fail
     go_roundw
     case rel=>exact⟨k+1,a+1,by omega,by go_num,by go_num,HN2,HB2⟩
     case measure=>simp[intOf];omega
  ·obtain rfl:k=n:=by omega
   have HR:Hid (nth l 0 f= -1):=by
    unfold Hid;rw[←HN.out.2.2.2,List.drop_of_length_le (by rw[HL.out];exact Nat.le_refl _)];rfl
   go_wp2_with fail
   go_ret
   exact⟨by rw[HR.out];rfl,HB.out⟩
theorem ahd_at:∀{l:List Leaf} {p:List UInt8} {k:Nat},k≤l.length→(∀j,j<k→Op.bytesLess (l.getD j none0).1.toList p=true)→(k<l.length→Op.bytesLess (l.getD k none0).1.toList p=false)→ahd l p=k
 | [],p,k,hk,_,_=>by simp at hk;subst hk;rfl
 | x::l,p,0,_,_,h=>by
  have:=h (by simp)
  have e:Op.bytesLess x.1.toList p=false:=this
  simp[ahd,e]
 | x::l,p,k+1,hk,h1,h2=>by
  have e:Op.bytesLess x.1.toList p=true:=h1 0 (by omega)
  have ih:=ahd_at (l:=l) (p:=p) (k:=k) (by simpa using hk) (fun j hj=>h1 (j+1) (by omega)) (fun hj=>h2 (by simpa using hj))
  have e2:ahd (x::l) p=ahd l p+1:=by simp[ahd,e]
  rw[e2,ih]
theorem ahead_ref (q:Option Addr) (n c:Nat) (l:List Leaf) (p:ByteArray) (w:World) (hl:l.length=n) (h:LeafsIn w q l) (hn:n≤1048576):
  Calls Tryz.prog 106 #[.slice q n c,.string p] w fun e w'=>e=.returned (.int .i64 (ahd l p.toList))∧w'=w:=by
 have HL:=z9 hl
 have HI:=z9 h
 clear hl h
 go_enter Tryz.func106,Tryz.ntmps106
 go_wp2
 go_loop [5] (fun i=>∃(k:Nat),k≤n∧i=.int .i64 k∧Hid (∀j,j<k→Op.bytesLess (l.getD j none0).1.toList p.toList=true)) (fun i=>n-(intOf i).toNat)
 case atStart=>exact⟨0,by omega,rfl,fun j hj=>absurd hj (by omega)⟩
 case round=>
  obtain⟨k,hk,rfl,HK⟩:=hrel
  by_cases hlt:k<n
  ·have hltz:(k:Int)<n:=by omega
   obtain⟨b,o,rfl,hc⟩:=HI.out.some (by intro e;have:=HL.out;rw[e] at this;simp at this;omega)
   have hkl:k<l.length:=by rw[HL.out];exact hlt
   have a1:=(hc k hkl).1
   obtain⟨x,hx⟩:∃x,x=(l.getD k none0).1:=⟨_,rfl⟩
   rw[←hx] at a1
   have HX:=z9 hx
   clear hc hx
   cases hr:Op.bytesLess x.toList p.toList
   ·have HR:Hid (ahd l p.toList=k):=ahd_at (by omega) HK.out (fun _=>by rw[←HX.out];exact hr)
    go_wp2_with fail
    go_ret
    exact⟨by rw[HR.out];rfl,rfl⟩
   ·have HK2:Hid (∀j,j<k+1→Op.bytesLess (l.getD j none0).1.toList p.toList=true):=by
     intro j hj
     rcases Nat.lt_succ_iff_lt_or_eq.1 hj with h | rfl
     ·exact HK.out j h
     ·rw[←HX.out];exact hr
    go_wp2_with fail
    go_round
    case rel=>exact⟨k+1,by omega,by go_num,HK2⟩
    case measure=>simp[intOf];omega
  ·obtain rfl:k=n:=by omega
   have HR:Hid (ahd l p.toList=k):=ahd_at (by rw[HL.out];exact Nat.le_refl _) HK.out (fun h=>by rw[HL.out] at h;omega)
   go_wp2_with fail
   go_ret
   exact⟨by rw[HR.out];rfl,rfl⟩
end Mb
end Go.Proofs.YtlmdchpbpgcfmaaGreatDoor
/- What the reference's set answers: a book with a leaf more, or in the place of one. -/
namespace Go.Proofs.YtlmdchpbpgcfmaaGreatDoor
namespace Mc
open Go.ChangeShapes Go.WideShapes Go.ChangeAt Go.RowKit Bm Ka Kb La Lb Lc Ld Le Lf Lg Lh Li Lj Lk Lp Mb
/- a leaf that lies in a block of its own -/
theorem leaf_new (w:World) (x:Leaf) (t:TypeId):∀j u,(flat [x])[j]? =some u→(w.alloc (.cells #[.string x.1,.int .i64 x.2.1,.bool x.2.2] t)).cell? ((⟨w.heap.size,0,none⟩:Addr).add j)=some u:=by
 intro j u hu
 have h2:(w.alloc (.cells #[.string x.1,.int .i64 x.2.1,.bool x.2.2] t)).heap[w.heap.size]? =some (.cells #[.string x.1,.int .i64 x.2.1,.bool x.2.2] t):=heap_alloc_new w _
 have e:flat [x]=[.string x.1,.int .i64 x.2.1,.bool x.2.2]:=rfl
 rw[e] at hu
 rw[Addr.add_lit,Nat.zero_add]
 simp only[World.cell?,h2]
 simpa using hu
theorem own_app {w:World} {base:Nat} {t:TypeId} {v:Value} {n m:Nat} {a b:List Leaf} (hn:a.length=n) (hm:b.length=m) (h:w.ownsRow base t 3 v (n+m) (flat a++flat b)):w.ownsRow base t 3 v (a++b).length (flat (a++b)):=by
 rw[List.length_append,flat_append,hn,hm];exact h
theorem set_full (q:Option Addr) (n c:Nat) (i:Int) (sx:ByteArray) (nx:Int) (bx:Bool) (w:World) (h300:300≤n) (hn:n≤1048576):
  Calls Tryz.prog 107 #[.slice q n c,.int .i64 i,.bool false,.agg #[.string sx,.int .i64 nx,.bool bx]] w fun e w'=>e=.returned (.tuple #[.slice none 0 0,.int .i64 4])∧Below w.heap.size w w':=by
 have hz:(300:Int)≤n:=by omega
 go_enter Tryz.func107,Tryz.ntmps107
 go_wp2_with fail
 go_ret2
 exact⟨rfl,(Below.refl _ w).alloc (Nat.le_refl _) _⟩
theorem set_new (b o n c i:Nat) (l:List Leaf) (sx:ByteArray) (nx:Int) (bx:Bool) (w:World) (hl:l.length=n) (h:∀j,j<l.length→At w b o j (l.getD j none0)) (hi:i≤n) (hn:n<300) (hc:n≤c) (hcm:c≤maxLen):
  Calls Tryz.prog 107 #[.slice (some ⟨b,o,none⟩) n c,.int .i64 i,.bool false,.agg #[.string sx,.int .i64 nx,.bool bx]] w fun e w'=>∃v,e=.returned (.tuple #[v,.int .i64 0])∧BookNew w.heap.size w' v (l.take i++(sx,nx,bx)::l.drop i)∧Below w.heap.size w w':=by
 obtain⟨i0,hi0,hz0,hz1,hz2⟩:=info_parts infoLeaf
 have hz:¬(300:Int)≤n:=by omega
 have hiz:(i:Int)≤n:=by omega
 have hicz:(i:Int)≤c:=by omega
 have hcm2:=hcm
 unfold maxLen at hcm2
 obtain⟨ad,had⟩:∃ad,(if c=i then some (⟨b,o,none⟩:Addr) else some ⟨b,o+i*3,none⟩)=some ad:=by
  by_cases e:c=i
  ·exact⟨⟨b,o,none⟩,by rw[if_pos e]⟩
  ·exact⟨⟨b,o+i*3,none⟩,by rw[if_neg e]⟩
 have HB1:Hid (Below w.heap.size w (w.alloc (.cells #[.string sx,.int .i64 nx,.bool bx] 53))):=(Below.refl _ w).alloc (Nat.le_refl _) _
 have HT:Hid (∀W,Below w.heap.size w W→∀j u,(flat (l.take i))[j]? =some u→W.cell? ((⟨b,o,none⟩:Addr).add j)=some u):=by
  intro W hb j u hu
  have h2:∀j,j<l.length→At W b o j (l.getD j none0):=fun j hj=>(h j hj).below hb (h j hj).lt
  rcases take_part (i:=i) (c:=c) (by omega) h2 with⟨e,_⟩ | ⟨ad2,c2,e,hc2⟩
  ·cases e
  ·injection e with e1 e2 e3
   injection e1 with e1
   rw[e1];exact hc2 j u hu
 have HD:Hid (∀W,Below w.heap.size w W→∀j u,(flat (l.drop i))[j]? =some u→W.cell? (ad.add j)=some u):=by
  intro W hb j u hu
  have h2:∀j,j<l.length→At W b o j (l.getD j none0):=fun j hj=>(h j hj).below hb (h j hj).lt
  rcases drop_part hl (by omega) hc had h2 with⟨e,_⟩ | ⟨ad2,c2,e,hc2⟩
  ·cases e
  ·injection e with e1 e2 e3
   injection e1 with e1
   rw[e1];exact hc2 j u hu
 have HLT:Hid ((l.take i).length=i):=by unfold Hid;rw[List.length_take];omega
 have HLD:Hid ((l.drop i).length=n-i):=by unfold Hid;rw[List.length_drop,hl]
 clear hl h
 go_enter Tryz.func107,Tryz.ntmps107
 go_wp2_with (first
  | (at_builtin;refine wpList_append_own_at _ rfl (.tmp 18) (.tmp 21) 44 rfl (w.alloc (.cells #[.string sx,.int .i64 nx,.bool bx] 53)).heap.size 53 i0 (.agg #[.string ⟨#[]⟩,.int .i64 0,.bool false]) 3 32 Tryz.underlying44 hi0 hz0 hz1 hz2 rfl (by decide) (.slice none 0 0) 0 [] rfl (World.ownsRow_nil _ _ _ _) ⟨b,o,none⟩ i c (flat (l.take i)) rfl (by rw[flat_length,HLT.out]) (HT.out _ HB1.out) (flat_one _) (by unfold maxLen;omega) (by omega) (Nat.le_refl _) ?_;intro v1 w1 hown1 hgrow1 _ hat1;have HW1:Hid (w1.ownsRow (w.alloc (.cells #[.string sx,.int .i64 nx,.bool bx] 53)).heap.size 53 3 v1 (l.take i).length (flat (l.take i))):=(by have h9:=hown1;rw[Nat.zero_add,List.nil_append] at h9;rw[HLT.out];exact h9);have HB2:Hid (Below (w.alloc (.cells #[.string sx,.int .i64 nx,.bool bx] 53)).heap.size (w.alloc (.cells #[.string sx,.int .i64 nx,.bool bx] 53)) w1):=(Below.refl _ _).grown hgrow1 (Nat.le_refl _) (fun k hk=>by cases hk);have d:=new_cell (x:=(sx,nx,bx)) HB2.out;simp only at d;obtain⟨d0,d1,d2⟩:=d;clear hown1 hgrow1 hat1)
  | (at_builtin;refine wpList_append_own_at _ rfl (.tmp 23) (.tmp 25) 44 rfl (w.alloc (.cells #[.string sx,.int .i64 nx,.bool bx] 53)).heap.size 53 i0 (.agg #[.string ⟨#[]⟩,.int .i64 0,.bool false]) 3 32 Tryz.underlying44 hi0 hz0 hz1 hz2 rfl (by decide) v1 _ _ rfl (HW1.out.alloc _) ⟨w1.heap.size,0,none⟩ 1 1 (flat [(sx,nx,bx)]) rfl rfl (leaf_new w1 (sx,nx,bx) _) (flat_one _) (by have:=HLT.out;unfold maxLen;omega) (by have:=HLT.out;omega) (by have:=HB2.out.size;simp at this ⊢;omega) ?_;intro v2 w2 hown2 hgrow2 _ hat2;have HW2:=z9 (own_app rfl rfl hown2);have HB3:Hid (Below (w.alloc (.cells #[.string sx,.int .i64 nx,.bool bx] 53)).heap.size (w.alloc (.cells #[.string sx,.int .i64 nx,.bool bx] 53)) w2):=own_grow HW1.out (HB2.out.alloc HB2.out.size _) hgrow2 (by have:=HB2.out.size;simp at this ⊢;omega);clear hown2 hgrow2 hat2 d0 d1 d2)
  | (at_builtin;refine wpList_append_own_at _ rfl (.tmp 30) (.tmp 33) 44 rfl (w.alloc (.cells #[.string sx,.int .i64 nx,.bool bx] 53)).heap.size 53 i0 (.agg #[.string ⟨#[]⟩,.int .i64 0,.bool false]) 3 32 Tryz.underlying44 hi0 hz0 hz1 hz2 rfl (by decide) v2 _ _ rfl HW2.out ad (n-i) (c-i) (flat (l.drop i)) rfl (by rw[flat_length,HLD.out]) (HD.out _ (bel HB1.out HB3.out)) (flat_one _) (by have:=HLT.out;unfold maxLen;simp;omega) (by have:=HLT.out;simp;omega) HB3.out.size ?_;intro v3 w3 hown3 hgrow3 _ hat3;have HW3:=z9 (own_app rfl HLD.out hown3);have HB4:=z9 (bel HB1.out (own_grow HW2.out HB3.out hgrow3 HB3.out.size));clear hown3 hgrow3 hat3))
 go_ret2
 refine⟨_,rfl,⟨?_,(Lies.own HW3.out).mono HB1.out.size⟩,HB4.out⟩
 have:=own_at HW3.out
 rw[List.append_assoc] at this
 exact this
theorem set_has (b o n c i:Nat) (l:List Leaf) (sx:ByteArray) (nx:Int) (bx:Bool) (w:World) (hl:l.length=n) (h:∀j,j<l.length→At w b o j (l.getD j none0)) (hi:i<n) (hn:n≤300) (hc:n≤c) (hcm:c≤maxLen):
  Calls Tryz.prog 107 #[.slice (some ⟨b,o,none⟩) n c,.int .i64 i,.bool true,.agg #[.string sx,.int .i64 nx,.bool bx]] w fun e w'=>∃v,e=.returned (.tuple #[v,.int .i64 0])∧BookNew w.heap.size w' v (l.take i++(sx,nx,bx)::l.drop (i+1))∧Below w.heap.size w w':=by
 obtain⟨i0,hi0,hz0,hz1,hz2⟩:=info_parts infoLeaf
 have hz1n:(i:Int)+1≤n:=by omega
 have hiz:(i:Int)≤n:=by omega
 have hicz:(i:Int)≤c:=by omega
 have hi1c:(i:Int)+1≤c:=by omega
 have hcm2:=hcm
 unfold maxLen at hcm2
 obtain⟨ad,had⟩:∃ad,(if c=(i+1) then some (⟨b,o,none⟩:Addr) else some ⟨b,o+(i+1)*3,none⟩)=some ad:=by
  by_cases e:c=(i+1)
  ·exact⟨⟨b,o,none⟩,by rw[if_pos e]⟩
  ·exact⟨⟨b,o+(i+1)*3,none⟩,by rw[if_neg e]⟩
 have HB1:Hid (Below w.heap.size w (w.alloc (.cells #[.string sx,.int .i64 nx,.bool bx] 53))):=(Below.refl _ w).alloc (Nat.le_refl _) _
 have HT:Hid (∀W,Below w.heap.size w W→∀j u,(flat (l.take i))[j]? =some u→W.cell? ((⟨b,o,none⟩:Addr).add j)=some u):=by
  intro W hb j u hu
  have h2:∀j,j<l.length→At W b o j (l.getD j none0):=fun j hj=>(h j hj).below hb (h j hj).lt
  rcases take_part (i:=i) (c:=c) (by omega) h2 with⟨e,_⟩ | ⟨ad2,c2,e,hc2⟩
  ·cases e
  ·injection e with e1 e2 e3
   injection e1 with e1
   rw[e1];exact hc2 j u hu
 have HD:Hid (∀W,Below w.heap.size w W→∀j u,(flat (l.drop (i+1)))[j]? =some u→W.cell? (ad.add j)=some u):=by
  intro W hb j u hu
  have h2:∀j,j<l.length→At W b o j (l.getD j none0):=fun j hj=>(h j hj).below hb (h j hj).lt
  rcases drop_part hl (by omega) hc had h2 with⟨e,_⟩ | ⟨ad2,c2,e,hc2⟩
  ·cases e
  ·injection e with e1 e2 e3
   injection e1 with e1
   rw[e1];exact hc2 j u hu
 have HLT:Hid ((l.take i).length=i):=by unfold Hid;rw[List.length_take];omega
 have HLD:Hid ((l.drop (i+1)).length=n-(i+1)):=by unfold Hid;rw[List.length_drop,hl]
 clear hl h
 go_enter Tryz.func107,Tryz.ntmps107
 go_wp2_with (first
  | (at_builtin;refine wpList_append_own_at _ rfl (.tmp 18) (.tmp 21) 44 rfl (w.alloc (.cells #[.string sx,.int .i64 nx,.bool bx] 53)).heap.size 53 i0 (.agg #[.string ⟨#[]⟩,.int .i64 0,.bool false]) 3 32 Tryz.underlying44 hi0 hz0 hz1 hz2 rfl (by decide) (.slice none 0 0) 0 [] rfl (World.ownsRow_nil _ _ _ _) ⟨b,o,none⟩ i c (flat (l.take i)) rfl (by rw[flat_length,HLT.out]) (HT.out _ HB1.out) (flat_one _) (by unfold maxLen;omega) (by omega) (Nat.le_refl _) ?_;intro v1 w1 hown1 hgrow1 _ hat1;have HW1:Hid (w1.ownsRow (w.alloc (.cells #[.string sx,.int .i64 nx,.bool bx] 53)).heap.size 53 3 v1 (l.take i).length (flat (l.take i))):=(by have h9:=hown1;rw[Nat.zero_add,List.nil_append] at h9;rw[HLT.out];exact h9);have HB2:Hid (Below (w.alloc (.cells #[.string sx,.int .i64 nx,.bool bx] 53)).heap.size (w.alloc (.cells #[.string sx,.int .i64 nx,.bool bx] 53)) w1):=(Below.refl _ _).grown hgrow1 (Nat.le_refl _) (fun k hk=>by cases hk);have d:=new_cell (x:=(sx,nx,bx)) HB2.out;simp only at d;obtain⟨d0,d1,d2⟩:=d;clear hown1 hgrow1 hat1)
  | (at_builtin;refine wpList_append_own_at _ rfl (.tmp 23) (.tmp 25) 44 rfl (w.alloc (.cells #[.string sx,.int .i64 nx,.bool bx] 53)).heap.size 53 i0 (.agg #[.string ⟨#[]⟩,.int .i64 0,.bool false]) 3 32 Tryz.underlying44 hi0 hz0 hz1 hz2 rfl (by decide) v1 _ _ rfl (HW1.out.alloc _) ⟨w1.heap.size,0,none⟩ 1 1 (flat [(sx,nx,bx)]) rfl rfl (leaf_new w1 (sx,nx,bx) _) (flat_one _) (by have:=HLT.out;unfold maxLen;omega) (by have:=HLT.out;omega) (by have:=HB2.out.size;simp at this ⊢;omega) ?_;intro v2 w2 hown2 hgrow2 _ hat2;have HW2:=z9 (own_app rfl rfl hown2);have HB3:Hid (Below (w.alloc (.cells #[.string sx,.int .i64 nx,.bool bx] 53)).heap.size (w.alloc (.cells #[.string sx,.int .i64 nx,.bool bx] 53)) w2):=own_grow HW1.out (HB2.out.alloc HB2.out.size _) hgrow2 (by have:=HB2.out.size;simp at this ⊢;omega);clear hown2 hgrow2 hat2 d0 d1 d2)
  | (at_builtin;refine wpList_append_own_at _ rfl (.tmp 30) (.tmp 33) 44 rfl (w.alloc (.cells #[.string sx,.int .i64 nx,.bool bx] 53)).heap.size 53 i0 (.agg #[.string ⟨#[]⟩,.int .i64 0,.bool false]) 3 32 Tryz.underlying44 hi0 hz0 hz1 hz2 rfl (by decide) v2 _ _ rfl HW2.out ad (n-(i+1)) (c-(i+1)) (flat (l.drop (i+1))) rfl (by rw[flat_length,HLD.out]) (HD.out _ (bel HB1.out HB3.out)) (flat_one _) (by have:=HLT.out;unfold maxLen;simp;omega) (by have:=HLT.out;simp;omega) HB3.out.size ?_;intro v3 w3 hown3 hgrow3 _ hat3;have HW3:=z9 (own_app rfl HLD.out hown3);have HB4:=z9 (bel HB1.out (own_grow HW2.out HB3.out hgrow3 HB3.out.size));clear hown3 hgrow3 hat3))
 go_ret2
 refine⟨_,rfl,⟨?_,(Lies.own HW3.out).mono HB1.out.size⟩,HB4.out⟩
 have:=own_at HW3.out
 rw[List.append_assoc] at this
 exact this
end Mc
end Go.Proofs.YtlmdchpbpgcfmaaGreatDoor
/- What the reference's set answers of an empty book; and its Write and Strike. -/
namespace Go.Proofs.YtlmdchpbpgcfmaaGreatDoor
namespace Md
open Go.ChangeShapes Go.WideShapes Go.ChangeAt Go.RowKit Bm Ka Kb La Lb Lc Ld Le Lf Lg Lh Li Lj Lk Lp Mb Mc
theorem leaf_new2 (w:World) (o:Obj) (x:Leaf) (t:TypeId):∀j u,(flat [x])[j]? =some u→((w.alloc o).alloc (.cells #[.string x.1,.int .i64 x.2.1,.bool x.2.2] t)).cell? ((⟨w.heap.size+1,0,none⟩:Addr).add j)=some u:=by
 have e:(w.alloc o).heap.size=w.heap.size+1:=by simp
 have:=leaf_new (w.alloc o) x t
 rw[e] at this
 exact this
theorem set_none (sx:ByteArray) (nx:Int) (bx:Bool) (w:World):
  Calls Tryz.prog 107 #[.slice none 0 0,.int .i64 0,.bool false,.agg #[.string sx,.int .i64 nx,.bool bx]] w fun e w'=>∃v,e=.returned (.tuple #[v,.int .i64 0])∧BookNew w.heap.size w' v [(sx,nx,bx)]∧Below w.heap.size w w':=by
 obtain⟨i0,hi0,hz0,hz1,hz2⟩:=info_parts infoLeaf
 have HB1:Hid (Below w.heap.size w (w.alloc (.cells #[.string sx,.int .i64 nx,.bool bx] 53))):=(Below.refl _ w).alloc (Nat.le_refl _) _
 have hap:=fun W=>run_append_owned_none (P:=Tryz.prog) (w:=W) w.heap.size 44 44 53 i0 3 Tryz.underlying44 hi0 (.slice none 0 0) 0 [] (World.ownsRow_nil W _ _ _)
 go_enter Tryz.func107,Tryz.ntmps107
 go_wp2_with (first
  | (at_builtin;refine Lib.wpList_append_run _ rfl (.tmp 18) (.tmp 21) _ _ rfl _ _ rfl rfl _ _ (hap _) ?_)
  | (at_builtin;refine wpList_append_own_at _ rfl (.tmp 23) (.tmp 25) 44 rfl (w.alloc (.cells #[.string sx,.int .i64 nx,.bool bx] 53)).heap.size 53 i0 (.agg #[.string ⟨#[]⟩,.int .i64 0,.bool false]) 3 32 Tryz.underlying44 hi0 hz0 hz1 hz2 rfl (by decide) (.slice none 0 0) 0 [] rfl (World.ownsRow_nil _ _ _ _) ⟨w.heap.size+1,0,none⟩ 1 1 (flat [(sx,nx,bx)]) rfl rfl (leaf_new2 w _ (sx,nx,bx) _) (flat_one _) (by unfold maxLen;omega) (by omega) (by simp) ?_;intro v2 w2 hown2 hgrow2 _ hat2;have HW2:=z9 hown2;have HB3:Hid (Below w.heap.size w w2):=(HB1.out.alloc HB1.out.size _).grown hgrow2 (by simp;omega) (fun k hk=>by cases hk);have hap2:=run_append_owned_none (P:=Tryz.prog) (w:=w2) (w.alloc (.cells #[.string sx,.int .i64 nx,.bool bx] 53)).heap.size 44 44 53 i0 3 Tryz.underlying44 hi0 v2 _ _ HW2.out;clear hown2 hgrow2 hat2)
  | (at_builtin;refine Lib.wpList_append_run _ rfl (.tmp 30) (.tmp 33) _ _ rfl _ _ rfl rfl _ _ hap2 ?_))
 go_ret2
 exact⟨_,rfl,⟨own_at HW2.out,(Lies.own HW2.out).mono HB1.out.size⟩,HB3.out⟩
theorem set_empty (a:Addr) (c:Nat) (sx:ByteArray) (nx:Int) (bx:Bool) (w:World) (hcm:c≤maxLen):
  Calls Tryz.prog 107 #[.slice (some a) 0 c,.int .i64 0,.bool false,.agg #[.string sx,.int .i64 nx,.bool bx]] w fun e w'=>∃v,e=.returned (.tuple #[v,.int .i64 0])∧BookNew w.heap.size w' v [(sx,nx,bx)]∧Below w.heap.size w w':=by
 obtain⟨i0,hi0,hz0,hz1,hz2⟩:=info_parts infoLeaf
 unfold maxLen at hcm
 have hcz:(0:Int)≤c:=by omega
 have HB1:Hid (Below w.heap.size w (w.alloc (.cells #[.string sx,.int .i64 nx,.bool bx] 53))):=(Below.refl _ w).alloc (Nat.le_refl _) _
 go_enter Tryz.func107,Tryz.ntmps107
 go_wp2_with (first
  | (at_builtin;refine wpList_append_own_at _ rfl (.tmp 18) (.tmp 21) 44 rfl (w.alloc (.cells #[.string sx,.int .i64 nx,.bool bx] 53)).heap.size 53 i0 (.agg #[.string ⟨#[]⟩,.int .i64 0,.bool false]) 3 32 Tryz.underlying44 hi0 hz0 hz1 hz2 rfl (by decide) (.slice none 0 0) 0 [] rfl (World.ownsRow_nil _ _ _ _) a 0 c [] rfl rfl (fun j u hu=>by simp at hu) (fun u hu=>by simp at hu) (by unfold maxLen;omega) (by omega) (Nat.le_refl _) ?_;intro v1 w1 hown1 hgrow1 _ hat1;have HW1:=z9 hown1;have HB2:Hid (Below (w.alloc (.cells #[.string sx,.int .i64 nx,.bool bx] 53)).heap.size (w.alloc (.cells #[.string sx,.int .i64 nx,.bool bx] 53)) w1):=(Below.refl _ _).grown hgrow1 (Nat.le_refl _) (fun k hk=>by cases hk);have d:=new_cell (x:=(sx,nx,bx)) HB2.out;simp only at d;obtain⟨d0,d1,d2⟩:=d;clear hown1 hgrow1 hat1)
  | (at_builtin;refine wpList_append_own_at _ rfl (.tmp 23) (.tmp 25) 44 rfl (w.alloc (.cells #[.string sx,.int .i64 nx,.bool bx] 53)).heap.size 53 i0 (.agg #[.string ⟨#[]⟩,.int .i64 0,.bool false]) 3 32 Tryz.underlying44 hi0 hz0 hz1 hz2 rfl (by decide) v1 _ _ rfl (HW1.out.alloc _) ⟨w1.heap.size,0,none⟩ 1 1 (flat [(sx,nx,bx)]) rfl rfl (leaf_new w1 (sx,nx,bx) _) (flat_one _) (by unfold maxLen;omega) (by omega) (by have:=HB2.out.size;simp at this ⊢;omega) ?_;intro v2 w2 hown2 hgrow2 _ hat2;have HW2:=z9 hown2;have HB3:Hid (Below (w.alloc (.cells #[.string sx,.int .i64 nx,.bool bx] 53)).heap.size (w.alloc (.cells #[.string sx,.int .i64 nx,.bool bx] 53)) w2):=own_grow HW1.out (HB2.out.alloc HB2.out.size _) hgrow2 (by have:=HB2.out.size;simp at this ⊢;omega);clear hown2 hgrow2 hat2 d0 d1 d2)
  | (at_builtin;refine wpList_append_own_at _ rfl (.tmp 30) (.tmp 33) 44 rfl (w.alloc (.cells #[.string sx,.int .i64 nx,.bool bx] 53)).heap.size 53 i0 (.agg #[.string ⟨#[]⟩,.int .i64 0,.bool false]) 3 32 Tryz.underlying44 hi0 hz0 hz1 hz2 rfl (by decide) v2 _ _ rfl HW2.out a 0 c [] rfl rfl (fun j u hu=>by simp at hu) (fun u hu=>by simp at hu) (by unfold maxLen;omega) (by omega) HB3.out.size ?_;intro v3 w3 hown3 hgrow3 _ hat3;have HW3:Hid (w3.ownsRow (w.alloc (.cells #[.string sx,.int .i64 nx,.bool bx] 53)).heap.size 53 3 v3 1 (flat [(sx,nx,bx)])):=(by have h9:=hown3;rw[List.append_nil,Nat.add_zero] at h9;exact h9);have HB4:=z9 (bel HB1.out (own_grow HW2.out HB3.out hgrow3 HB3.out.size));clear hown3 hgrow3 hat3))
 go_ret2
 exact⟨_,rfl,⟨own_at HW3.out,(Lies.own HW3.out).mono HB1.out.size⟩,HB4.out⟩
/- set, of a leaf that is new -/
theorem set_f (v:Value) (l:List Leaf) (i:Nat) (sx:ByteArray) (nx:Int) (bx:Bool) (w:World) (h:BookAt w v l) (hi:i≤l.length) (hn:l.length≤300):
  Calls Tryz.prog 107 #[v,.int .i64 i,.bool false,.agg #[.string sx,.int .i64 nx,.bool bx]] w fun e w'=>∃v',e=.returned (.tuple #[v',.int .i64 (if 300≤l.length then 4 else 0)])∧BookNew w.heap.size w' v' (if 300≤l.length then[] else l.take i++(sx,nx,bx)::l.drop i)∧Below w.heap.size w w':=by
 obtain⟨p,c,rfl,hlf,hc,hcm,hpc⟩:=h
 by_cases h300:300≤l.length
 ·rw[if_pos h300,if_pos h300]
  refine(set_full p _ c i sx nx bx w h300 (by omega)).mono ?_
  rintro e w' ⟨rfl,hb⟩
  exact⟨_,rfl,BookNew.nil _ _,hb⟩
 ·rw[if_neg h300,if_neg h300]
  by_cases hl0:l=[]
  ·subst hl0
   obtain rfl:i=0:=by simpa using hi
   cases p with
   | none=>rw[hpc rfl];exact set_none sx nx bx w
   | some a=>exact set_empty a c sx nx bx w hcm
  ·obtain⟨b,o,rfl,hcc⟩:=hlf.some hl0
   exact set_new b o _ c i l sx nx bx w rfl hcc hi (by omega) hc hcm
/- set, of a leaf that is there -/
theorem set_t (v:Value) (l:List Leaf) (i:Nat) (sx:ByteArray) (nx:Int) (bx:Bool) (w:World) (h:BookAt w v l) (hi:i<l.length) (hn:l.length≤300):
  Calls Tryz.prog 107 #[v,.int .i64 i,.bool true,.agg #[.string sx,.int .i64 nx,.bool bx]] w fun e w'=>∃v',e=.returned (.tuple #[v',.int .i64 0])∧BookNew w.heap.size w' v' (l.take i++(sx,nx,bx)::l.drop (i+1))∧Below w.heap.size w w':=by
 obtain⟨p,c,rfl,hlf,hc,hcm,hpc⟩:=h
 obtain⟨b,o,rfl,hcc⟩:=hlf.some (by rintro rfl;simp at hi)
 exact set_has b o _ c i l sx nx bx w rfl hcc hi hn hc hcm
end Md
end Go.Proofs.YtlmdchpbpgcfmaaGreatDoor
/- What the reference's Write and Strike answer, of a book that is right. -/
namespace Go.Proofs.YtlmdchpbpgcfmaaGreatDoor
namespace Me
open Go.ChangeShapes Go.WideShapes Go.ChangeAt Go.RowKit Bm Ka Kb La Lb Lc Ld Le Lf Lg Lh Li Lj Lk Lp Mb Mc Md
def wrL (l:List Leaf) (p:ByteArray) (c:Int):List Leaf:=if wrE l p c=0 then putL l p (wrX l p c) else[]
def stL (l:List Leaf) (p:ByteArray):List Leaf:=if putE l p=0 then putL l p (stX l p) else[]
theorem put_no {l:List Leaf} {p:ByteArray} (hh:has l p.toList=false) (x:Leaf):putE l p=(if 300≤l.length then 4 else 0)∧(if putE l p=0 then putL l p x else[])=(if 300≤l.length then[] else l.take (ahd l p.toList)++x::l.drop (ahd l p.toList)):=by
 by_cases h:300≤l.length
 ·have e:putE l p=4:=by unfold putE;rw[if_pos ⟨hh,h⟩]
  rw[e,if_pos h,if_pos h];exact⟨rfl,rfl⟩
 ·have e:putE l p=0:=putE_zero.2 (Or.inr (by omega))
  rw[e,if_neg h,if_neg h,if_pos rfl]
  exact⟨rfl,by unfold putL;rw[hh];rfl⟩
theorem put_is {l:List Leaf} {p:ByteArray} (hh:has l p.toList=true) (x:Leaf):putE l p=0∧(if putE l p=0 then putL l p x else[])=l.take (ahd l p.toList)++x::l.drop (ahd l p.toList+1):=by
 have e:putE l p=0:=putE_zero.2 (Or.inl hh)
 rw[e,if_pos rfl]
 exact⟨rfl,by unfold putL;rw[hh];rfl⟩
theorem write_loc (v:Value) (l:List Leaf) (p:ByteArray) (c:Int) (w:World) (h:BookAt w v l) (hb:bookE l=0):
  Calls Tryz.prog 62 #[v,.string p,.int .i64 c] w fun e w'=>∃v',e=.returned (.tuple #[v',.int .i64 (wrE l p c)])∧BookNew w.heap.size w' v' (wrL l p c)∧Below w.heap.size w w':=by
 have hok:=book_ok hb
 have hle:=ahead_le (p:=p.toList) hok.2.1
 obtain⟨q,c0,hv,hlf,hc1,hc2,hq0⟩:=id h
 have HBK:=z9 h
 have h300:=hok.1
 obtain⟨n,hn⟩:∃n,l.length=n:=⟨_,rfl⟩
 have CA:=ahead_ref q n c0 l p w hn hlf (by omega)
 have CL:=fun W=>letter_ref c W
 cases hc:isL c
 ·have HE:Hid (wrE l p c=1):=by unfold Hid wrE;rw[if_pos hc]
  have HL:Hid (wrL l p c=[]):=by unfold Hid wrL;rw[HE.out];rfl
  rw[hc] at CL
  rw[HE.out,HL.out]
  clear h hb hok hle hlf hc1 hc2 hq0 hn hv CA HE HL hc h300 HBK
  go_enter Tryz.func62,Tryz.ntmps62
  go_wp2_with fail
  refine(CL _).mono ?_
  rintro e w2 ⟨rfl,hw⟩
  have hw2:=hw.symm;subst hw2;clear hw CL
  go_wp2_with fail
  go_ret2
  exact⟨_,rfl,BookNew.nil _ _,Below.refl _ _⟩
 ·rw[hc] at CL
  cases hh:has l p.toList
  ·have hlk:leafAt l p=(p,0,false):=by unfold leafAt;rw[hh];rfl
   have hE0:wrE l p c=putE l p:=by unfold wrE;rw[if_neg (by rw[hc];decide),hlk];rfl
   have hX0:wrX l p c=(p,c,false):=by unfold wrX;rw[hlk]
   have hL0:wrL l p c=(if putE l p=0 then putL l p (p,c,false) else[]):=by unfold wrL;rw[hE0,hX0]
   rw[hL0,hE0,(put_no hh (p,c,false)).2,(put_no hh (p,c,false)).1]
   clear hE0 hX0 hL0
   have HST:Hid (∀W,Below w.heap.size w W→Calls Tryz.prog 107 #[v,.int .i64 (ahd l p.toList),.bool false,.agg #[.string p,.int .i64 c,.bool false]] W fun e w'=>∃v',e=.returned (.tuple #[v',.int .i64 (if 300≤l.length then 4 else 0)])∧BookNew W.heap.size w' v' (if 300≤l.length then[] else l.take (ahd l p.toList)++(p,c,false)::l.drop (ahd l p.toList))∧Below W.heap.size W w'):=fun W hbw=>set_f v l _ p c false W (HBK.out.below hbw) hle h300
   have HB1:Hid (Below w.heap.size w (w.alloc (.cells #[.string p,.int .i64 c,.bool false] 53))):=(Below.refl _ w).alloc (Nat.le_refl _) _
   obtain⟨R,hR⟩:∃R,R=(if 300≤l.length then[] else l.take (ahd l p.toList)++(p,c,false)::l.drop (ahd l p.toList)):=⟨_,rfl⟩
   obtain⟨z,hz⟩:∃z:Int,z=(if 300≤l.length then 4 else 0):=⟨_,rfl⟩
   rw[←hR,←hz] at HST ⊢
   rw[hn] at hle h300 hv
   subst hv
   have hhu:=hh
   unfold has at hhu
   obtain⟨i,hi⟩:∃i,i=ahd l p.toList:=⟨_,rfl⟩
   rw[←hi] at HST CA hle hhu
   clear hR hz
   by_cases hin:i<n
   ·have hinz:(i:Int)<n:=by omega
    obtain⟨b,o,rfl,hcc⟩:=hlf.some (by rintro rfl;simp at hn;omega)
    obtain⟨a1,a2,a3⟩:=hcc i (by omega)
    rw[hn,decide_eq_true hin,Bool.true_and] at hhu
    obtain⟨x,hx⟩:∃x,x=l.getD i none0:=⟨_,rfl⟩
    rw[←hx] at a1 a2 a3 hhu
    obtain⟨s0,n0,b0⟩:=x
    simp only at a1 a2 a3 hhu
    clear h hb hok hlf hc1 hc2 hq0 hn hh hlk hi hcc hx HBK
    go_enter Tryz.func62,Tryz.ntmps62
    go_wp2_with fail
    refine(CL _).mono ?_
    rintro e w2 ⟨rfl,hw⟩
    have hw2:=hw.symm;subst hw2;clear hw CL
    go_wp2_with fail
    refine CA.mono ?_
    rintro e w3 ⟨rfl,hw⟩
    have hw2:=hw.symm;subst hw2;clear hw CA
    go_wp2_with fail
    refine(HST.out _ (HB1.out)).mono ?_
    rintro e w4 ⟨v4,rfl,hk4,hb4⟩
    have HB4:=z9 (bel HB1.out hb4)
    have HK4:=z9 (hk4.mono HB1.out.size)
    clear hk4 hb4
    go_wp2_with fail
    go_ret2
    exact⟨_,rfl,HK4.out,HB4.out⟩
   ·have hinz:¬(i:Int)<n:=by omega
    clear h hb hok hlf hc1 hc2 hq0 hn hh hlk hi HBK hhu
    go_enter Tryz.func62,Tryz.ntmps62
    go_wp2_with fail
    refine(CL _).mono ?_
    rintro e w2 ⟨rfl,hw⟩
    have hw2:=hw.symm;subst hw2;clear hw CL
    go_wp2_with fail
    refine CA.mono ?_
    rintro e w3 ⟨rfl,hw⟩
    have hw2:=hw.symm;subst hw2;clear hw CA
    go_wp2_with fail
    refine(HST.out _ (HB1.out)).mono ?_
    rintro e w4 ⟨v4,rfl,hk4,hb4⟩
    have HB4:=z9 (bel HB1.out hb4)
    have HK4:=z9 (hk4.mono HB1.out.size)
    clear hk4 hb4
    go_wp2_with fail
    go_ret2
    exact⟨_,rfl,HK4.out,HB4.out⟩
  ·have hin:ahd l p.toList<l.length:=by unfold has at hh;rw[Bool.and_eq_true,decide_eq_true_eq] at hh;exact hh.1
   have hkey:=leafAt_has hok.2.1 hh
   have hlk:leafAt l p=l.getD (ahd l p.toList) none0:=by unfold leafAt;rw[hh];rfl
   obtain⟨b,o,rfl,hcc⟩:=hlf.some (by rintro rfl;simp at hin)
   obtain⟨a1,a2,a3⟩:=hcc _ hin
   rw[←hlk] at a1 a2 a3
   obtain⟨x,hx⟩:∃x,x=leafAt l p:=⟨_,rfl⟩
   rw[←hx] at a1 a2 a3 hkey
   obtain⟨p0,n0,b0⟩:=x
   obtain⟨_,hp0⟩:=hkey
   simp only at hp0 a1 a2 a3
   subst hp0
   have HST:Hid (∀W,Below w.heap.size w W→Calls Tryz.prog 107 #[v,.int .i64 (ahd l p0.toList),.bool true,.agg #[.string p0,.int .i64 c,.bool b0]] W fun e w'=>∃v',e=.returned (.tuple #[v',.int .i64 0])∧BookNew W.heap.size w' v' (l.take (ahd l p0.toList)++(p0,c,b0)::l.drop (ahd l p0.toList+1))∧Below W.heap.size W w'):=fun W hbw=>set_t v l _ p0 c b0 W (HBK.out.below hbw) hin h300
   have HB1:Hid (Below w.heap.size w (w.alloc (.cells #[.string p0,.int .i64 c,.bool b0] 53))):=(Below.refl _ w).alloc (Nat.le_refl _) _
   obtain⟨R,hR⟩:∃R,R=l.take (ahd l p0.toList)++(p0,c,b0)::l.drop (ahd l p0.toList+1):=⟨_,rfl⟩
   have HPI:=put_is hh (p0,c,b0)
   rw[←hR] at HST HPI
   rw[hn] at hle h300 hv hin
   subst hv
   obtain⟨i,hi⟩:∃i,i=ahd l p0.toList:=⟨_,rfl⟩
   rw[←hi] at HST CA hle a1 a2 a3 hin
   have A2:=fun O=>old_one w O _ _ a2
   have A3:=fun O=>old_one w O _ _ a3
   have hinz:(i:Int)<n:=by omega
   clear hR
   cases hcl:clash (p0,n0,b0) c
   ·have hE0:wrE l p0 c=0:=by unfold wrE;rw[if_neg (by rw[hc];decide),←hx,hcl];exact HPI.1
    have hL0:wrL l p0 c=R:=by
     have hX0:wrX l p0 c=(p0,c,b0):=by unfold wrX;rw[←hx]
     unfold wrL;rw[hE0,if_pos rfl,hX0]
     have:=HPI.2;rw[HPI.1,if_pos rfl] at this;exact this
    rw[hE0,hL0]
    clear h hb hok hlf hc1 hc2 hq0 hn hh hlk hi hcc hx HBK HPI hE0 hL0 hc
    by_cases hn0:n0=0
    ·subst hn0
     clear hcl
     go_enter Tryz.func62,Tryz.ntmps62
     go_wp2_with fail
     refine(CL _).mono ?_
     rintro e w2 ⟨rfl,hw⟩
     have hw2:=hw.symm;subst hw2;clear hw CL
     go_wp2_with fail
     refine CA.mono ?_
     rintro e w3 ⟨rfl,hw⟩
     have hw2:=hw.symm;subst hw2;clear hw CA
     go_wp2_with fail
     refine(HST.out _ (HB1.out)).mono ?_
     rintro e w4 ⟨v4,rfl,hk4,hb4⟩
     have HB4:=z9 (bel HB1.out hb4)
     have HK4:=z9 (hk4.mono HB1.out.size)
     clear hk4 hb4
     go_wp2_with fail
     go_ret2
     exact⟨_,rfl,HK4.out,HB4.out⟩
    ·have hn1:(n0 !=0)=true:=by simpa using hn0
     have ecn:c=n0:=by
      unfold clash at hcl
      rw[Bool.and_eq_false_iff] at hcl
      rcases hcl with e | e
      ·rw[hn1] at e;cases e
      ·have e2:n0=c:=by simpa using e
       exact e2.symm
     subst ecn
     clear hcl
     go_enter Tryz.func62,Tryz.ntmps62
     go_wp2_with fail
     refine(CL _).mono ?_
     rintro e w2 ⟨rfl,hw⟩
     have hw2:=hw.symm;subst hw2;clear hw CL
     go_wp2_with fail
     refine CA.mono ?_
     rintro e w3 ⟨rfl,hw⟩
     have hw2:=hw.symm;subst hw2;clear hw CA
     go_wp2_with fail
     refine(HST.out _ (HB1.out)).mono ?_
     rintro e w4 ⟨v4,rfl,hk4,hb4⟩
     have HB4:=z9 (bel HB1.out hb4)
     have HK4:=z9 (hk4.mono HB1.out.size)
     clear hk4 hb4
     go_wp2_with fail
     go_ret2
     exact⟨_,rfl,HK4.out,HB4.out⟩
   ·have hE0:wrE l p0 c=7:=by unfold wrE;rw[if_neg (by rw[hc];decide),←hx,hcl];rfl
    have hL0:wrL l p0 c=[]:=by unfold wrL;rw[hE0];rfl
    rw[hE0,hL0]
    unfold clash at hcl
    rw[Bool.and_eq_true] at hcl
    obtain⟨hn1,hn2⟩:=hcl
    simp only at hn1 hn2
    have hn0:¬n0=0:=by simpa using hn1
    clear h hb hok hlf hc1 hc2 hq0 hn hh hlk hi hcc hx HBK HPI hE0 hL0 hc HST HB1
    go_enter Tryz.func62,Tryz.ntmps62
    go_wp2_with fail
    refine(CL _).mono ?_
    rintro e w2 ⟨rfl,hw⟩
    have hw2:=hw.symm;subst hw2;clear hw CL
    go_wp2_with fail
    refine CA.mono ?_
    rintro e w3 ⟨rfl,hw⟩
    have hw2:=hw.symm;subst hw2;clear hw CA
    go_wp2_with fail
    go_ret2
    exact⟨_,rfl,BookNew.nil _ _,(Below.refl _ w).alloc (Nat.le_refl _) _⟩
theorem strike_loc (v:Value) (l:List Leaf) (p:ByteArray) (w:World) (h:BookAt w v l) (hb:bookE l=0):
  Calls Tryz.prog 63 #[v,.string p] w fun e w'=>∃v',e=.returned (.tuple #[v',.int .i64 (putE l p)])∧BookNew w.heap.size w' v' (stL l p)∧Below w.heap.size w w':=by
 have hok:=book_ok hb
 have hle:=ahead_le (p:=p.toList) hok.2.1
 obtain⟨q,c0,hv,hlf,hc1,hc2,hq0⟩:=id h
 have HBK:=z9 h
 have h300:=hok.1
 obtain⟨n,hn⟩:∃n,l.length=n:=⟨_,rfl⟩
 have CA:=ahead_ref q n c0 l p w hn hlf (by omega)
 cases hh:has l p.toList
 ·have hlk:leafAt l p=(p,0,false):=by unfold leafAt;rw[hh];rfl
  have hX0:stX l p=(p,0,true):=by unfold stX;rw[hlk]
  have hL0:stL l p=(if putE l p=0 then putL l p (p,0,true) else[]):=by unfold stL;rw[hX0]
  rw[hL0,(put_no hh (p,0,true)).2,(put_no hh (p,0,true)).1]
  clear hX0 hL0
  have HST:Hid (∀W,Below w.heap.size w W→Calls Tryz.prog 107 #[v,.int .i64 (ahd l p.toList),.bool false,.agg #[.string p,.int .i64 0,.bool true]] W fun e w'=>∃v',e=.returned (.tuple #[v',.int .i64 (if 300≤l.length then 4 else 0)])∧BookNew W.heap.size w' v' (if 300≤l.length then[] else l.take (ahd l p.toList)++(p,0,true)::l.drop (ahd l p.toList))∧Below W.heap.size W w'):=fun W hbw=>set_f v l _ p 0 true W (HBK.out.below hbw) hle h300
  have HB1:Hid (Below w.heap.size w (w.alloc (.cells #[.string p,.int .i64 0,.bool true] 53))):=(Below.refl _ w).alloc (Nat.le_refl _) _
  obtain⟨R,hR⟩:∃R,R=(if 300≤l.length then[] else l.take (ahd l p.toList)++(p,0,true)::l.drop (ahd l p.toList)):=⟨_,rfl⟩
  obtain⟨z,hz⟩:∃z:Int,z=(if 300≤l.length then 4 else 0):=⟨_,rfl⟩
  rw[←hR,←hz] at HST ⊢
  rw[hn] at hle h300 hv
  subst hv
  have hhu:=hh
  unfold has at hhu
  obtain⟨i,hi⟩:∃i,i=ahd l p.toList:=⟨_,rfl⟩
  rw[←hi] at HST CA hle hhu
  clear hR hz
  by_cases hin:i<n
  ·have hinz:(i:Int)<n:=by omega
   obtain⟨b,o,rfl,hcc⟩:=hlf.some (by rintro rfl;simp at hn;omega)
   obtain⟨a1,a2,a3⟩:=hcc i (by omega)
   rw[hn,decide_eq_true hin,Bool.true_and] at hhu
   obtain⟨x,hx⟩:∃x,x=l.getD i none0:=⟨_,rfl⟩
   rw[←hx] at a1 a2 a3 hhu
   obtain⟨s0,n0,b0⟩:=x
   simp only at a1 a2 a3 hhu
   clear h hb hok hlf hc1 hc2 hq0 hn hh hlk hi hcc hx HBK
   go_enter Tryz.func63,Tryz.ntmps63
   go_wp2_with fail
   refine CA.mono ?_
   rintro e w3 ⟨rfl,hw⟩
   have hw2:=hw.symm;subst hw2;clear hw CA
   go_wp2_with fail
   refine(HST.out _ (HB1.out)).mono ?_
   rintro e w4 ⟨v4,rfl,hk4,hb4⟩
   have HB4:=z9 (bel HB1.out hb4)
   have HK4:=z9 (hk4.mono HB1.out.size)
   clear hk4 hb4
   go_wp2_with fail
   go_ret2
   exact⟨_,rfl,HK4.out,HB4.out⟩
  ·have hinz:¬(i:Int)<n:=by omega
   clear h hb hok hlf hc1 hc2 hq0 hn hh hlk hi HBK hhu
   go_enter Tryz.func63,Tryz.ntmps63
   go_wp2_with fail
   refine CA.mono ?_
   rintro e w3 ⟨rfl,hw⟩
   have hw2:=hw.symm;subst hw2;clear hw CA
   go_wp2_with fail
   refine(HST.out _ (HB1.out)).mono ?_
   rintro e w4 ⟨v4,rfl,hk4,hb4⟩
   have HB4:=z9 (bel HB1.out hb4)
   have HK4:=z9 (hk4.mono HB1.out.size)
   clear hk4 hb4
   go_wp2_with fail
   go_ret2
   exact⟨_,rfl,HK4.out,HB4.out⟩
 ·have hin:ahd l p.toList<l.length:=by unfold has at hh;rw[Bool.and_eq_true,decide_eq_true_eq] at hh;exact hh.1
  have hkey:=leafAt_has hok.2.1 hh
  have hlk:leafAt l p=l.getD (ahd l p.toList) none0:=by unfold leafAt;rw[hh];rfl
  obtain⟨b,o,rfl,hcc⟩:=hlf.some (by rintro rfl;simp at hin)
  obtain⟨a1,a2,a3⟩:=hcc _ hin
  rw[←hlk] at a1 a2 a3
  obtain⟨x,hx⟩:∃x,x=leafAt l p:=⟨_,rfl⟩
  rw[←hx] at a1 a2 a3 hkey
  obtain⟨p0,n0,b0⟩:=x
  obtain⟨_,hp0⟩:=hkey
  simp only at hp0 a1 a2 a3
  subst hp0
  have HST:Hid (∀W,Below w.heap.size w W→Calls Tryz.prog 107 #[v,.int .i64 (ahd l p0.toList),.bool true,.agg #[.string p0,.int .i64 n0,.bool true]] W fun e w'=>∃v',e=.returned (.tuple #[v',.int .i64 0])∧BookNew W.heap.size w' v' (l.take (ahd l p0.toList)++(p0,n0,true)::l.drop (ahd l p0.toList+1))∧Below W.heap.size W w'):=fun W hbw=>set_t v l _ p0 n0 true W (HBK.out.below hbw) hin h300
  have HB1:Hid (Below w.heap.size w (w.alloc (.cells #[.string p0,.int .i64 n0,.bool true] 53))):=(Below.refl _ w).alloc (Nat.le_refl _) _
  obtain⟨R,hR⟩:∃R,R=l.take (ahd l p0.toList)++(p0,n0,true)::l.drop (ahd l p0.toList+1):=⟨_,rfl⟩
  have HPI:=put_is hh (p0,n0,true)
  rw[←hR] at HST HPI
  rw[hn] at hle h300 hv hin
  subst hv
  obtain⟨i,hi⟩:∃i,i=ahd l p0.toList:=⟨_,rfl⟩
  rw[←hi] at HST CA hle a1 a2 a3 hin
  have A2:=fun O=>old_one w O _ _ a2
  have A3:=fun O=>old_one w O _ _ a3
  have hinz:(i:Int)<n:=by omega
  have hL0:stL l p0=R:=by
   have hX0:stX l p0=(p0,n0,true):=by unfold stX;rw[←hx]
   unfold stL;rw[HPI.1,if_pos rfl,hX0]
   have:=HPI.2;rw[HPI.1,if_pos rfl] at this;exact this
  rw[HPI.1,hL0]
  clear hR h hb hok hlf hc1 hc2 hq0 hn hh hlk hi hcc hx HBK HPI hL0
  go_enter Tryz.func63,Tryz.ntmps63
  go_wp2_with fail
  refine CA.mono ?_
  rintro e w3 ⟨rfl,hw⟩
  have hw2:=hw.symm;subst hw2;clear hw CA
  go_wp2_with fail
  refine(HST.out _ (HB1.out)).mono ?_
  rintro e w4 ⟨v4,rfl,hk4,hb4⟩
  have HB4:=z9 (bel HB1.out hb4)
  have HK4:=z9 (hk4.mono HB1.out.size)
  clear hk4 hb4
  go_wp2_with fail
  go_ret2
  exact⟨_,rfl,HK4.out,HB4.out⟩
end Me
end Go.Proofs.YtlmdchpbpgcfmaaGreatDoor
