import Derived.Test.YtlmdchpbpgcfmaaGreatDoorH2
import Derived.Test.YtlmdchpbpgcfmaaGreatDoorN1
set_option linter.unusedSimpArgs false
set_option linter.unusedVariables false
set_option maxRecDepth 100000
set_option maxHeartbeats 8000000
/- Package net: add, send, move, Do. -/
namespace Go.Proofs.YtlmdchpbpgcfmaaGreatDoor
namespace Hx
open Go.ChangeShapes Go.WideShapes Go.ChangeAt Go.RowKit Cm Ka Kb Na Om Oa Oz Oc Og Oi Hm Ia Ic Ie Aa Ov Hc Hd Hi Hl Ho Hs Hp
open La (bel bel_drew errV_zero errV_ne own_ge own_grow own_below Lies)
theorem add_full (X n cn:Nat) (tu:Int) (s:ByteArray) (p:Option Addr) (w:World) (c1:∀W,Below w.heap.size w W→W.cell? ⟨X,1,none⟩=some (.slice p n cn)) (hn:100≤n) (hn2:n≤1000):
  Calls Tryz.prog 82 #[ptr X,.agg #[.int .i64 tu,.string s]] w fun r w'=>r=.returned (.iface 84 (.int .i64 4))∧Below w.heap.size w w':=by
 have hB0:Below w.heap.size w (w.alloc (.cells #[.int .i64 tu,.string s] 145)):=(Below.refl _ _).alloc (Nat.le_refl _) _
 have x1:=c1 _ hB0
 have hz:(100:Int)≤(n:Int):=by omega
 have HB0:=Hid.mk' hB0
 clear hB0 c1
 go_enter Tryz.func82,Tryz.ntmps82
 go_wp2_with fail
 go_ret
 exact⟨rfl,HB0.out⟩
theorem at_new {v v':Value} {w W:World} (hat:v'.ownBlock=v.ownBlock∨v'.ownBlock=some W.heap.size) (hz:w.heap.size≤W.heap.size):∀k,v'.ownBlock=some k→v.ownBlock=some k∨w.heap.size≤k:=by
 intro k hk
 rcases hat with e | e
 ·left;rw[←e];exact hk
 ·right;rw[hk] at e;injection e with e;rw[e];exact hz
theorem add_room (X:Nat) (vd vu:Value) (N:Nt) (E:Nat→Nat) (Fd:Nat→Nat→Prop) (q:Pc) (w:World) (m:NAt w X vd vu N E Fd) (hn:N.us.length<100) (hq:q.2.size≤maxLen):
  Calls Tryz.prog 82 #[ptr X,.agg #[.int .i64 q.1,.string q.2]] w fun r w'=>r=.returned .nilIface∧∃vu',NAt w' X vd vu' { N with us:=N.us++[q] } E Fd∧Chg (Fs X vd vu N.ds.length Fd) w w'∧∀g,Fs X vd vu' N.ds.length Fd g→Fs X vd vu N.ds.length Fd g∨w.heap.size≤g:=by
 obtain⟨p,c,rfl,_⟩:=m.cellU
 obtain⟨n,hn'⟩:∃n,n=N.us.length:=⟨_,rfl⟩
 have HN:=Hid.mk' hn'
 have HM:=Hid.mk' m
 have HQ:=Hid.mk' hq
 have hB0:Below w.heap.size w (w.alloc (.cells #[.int .i64 q.1,.string q.2] 145)):=(Below.refl _ _).alloc (Nat.le_refl _) _
 have hA0:=heap_alloc_new w (.cells #[.int .i64 q.1,.string q.2] 145)
 have m0:=m.below hB0
 rw[←hn'] at m0 hn
 have hz:¬(100:Int)≤(n:Int):=by omega
 clear m hq
 rw[←hn']
 clear hn'
 go_enter Tryz.func82,Tryz.ntmps82
 go_upto_region 1 with fail
 generalize w.alloc (.cells #[.int .i64 q.1,.string q.2] 145)=w0 at hB0 hA0 m0 ⊢
 have HB0:=Hid.mk' hB0
 have y0:=blk_cell hA0 (i:=0) (u:=.int .i64 q.1) rfl
 have y1:=blk_cell hA0 (i:=1) (u:=.string q.2) rfl
 have x1:=blk_cell m0.blk (i:=1) (u:=.slice p n c) rfl
 have HM0:=Hid.mk' m0
 have HBB:Hid (∀O,Below w0.heap.size w0 (w0.alloc O).drew):=fun O=>((Below.refl _ w0).alloc (Nat.le_refl _) O).drew
 have HOA:Hid (∀O,RowP (w0.alloc O).drew (.slice p n c) N.us):=fun O=>own_below HM0.out.ru (HBB.out O)
 have HEN:Hid (∀O,NtB (w0.alloc O).drew X vd (.slice p n c)):=fun O=>(HM0.out.below (HBB.out O)).blk
 have q8:=fun O=>blk_cell (HEN.out O) (i:=1) (u:=.slice p n c) rfl
 have q7:∀O,(w0.alloc O).cell? ⟨X,1,none⟩=some (.slice p n c):=q8
 have HDNE:Hid (∀g,(Value.slice p n c).ownBlock=some g→g=X→False):=fun g hg e=>HM0.out.uX g hg e
 clear hB0 hA0 m0
 go_wp2_with fail
 go_region_law (
  (refine step_putP (by rfl) (.tmp 16) (.tmp 18) (by rfl) (.slice p n c) n N.us q (by rfl) w0.heap.size (by rfl) HN.out.symm (by omega) (HOA.out _) (heap_alloc_new w0 _) ?_;intro v9 w9 hr9 hg9 hl9;obtain⟨p9,n9,c9,rfl,_⟩:=own_shape hr9;have hbk9:NtB w9 X vd (.slice p n c):=(hg9.block X (HM0.out.below (HBB.out _)).ltX (fun e=>HDNE.out X e.symm rfl)).trans (HEN.out _);have q9:=blk_cell hbk9 (i:=1) (u:=.slice p n c) rfl;have fq9:=blk_free hbk9 (i:=1);have HR9:=Hid.mk' hr9;have HC9:Hid (Chg (fun g=>(Value.slice p n c).ownBlock=some g) w0 w9):=(Chg.ofBelow (HBB.out _) _).trans (Chg.grown hg9 (fun g e=>e));have HL9:Hid (∀k,(Value.slice p9 n9 c9).ownBlock=some k→(Value.slice p n c).ownBlock=some k∨w0.heap.size≤k):=at_new hl9 (HBB.out _).size;clear hr9 hg9 hl9 hbk9))
 all_goals
  go_wp2_with fail
  go_ret
  obtain⟨r1,r2,r3⟩:=HM0.out.set_u HC9.out HR9.out HL9.out (fun x hx=>by rcases List.mem_append.1 hx with e | e;exact HM.out.sz x e;rw[List.mem_singleton.1 e];exact HQ.out)
  exact⟨rfl,_,r1,(Chg.ofBelow HB0.out _).trans r2,fun g hg=>(r3 g hg).imp id fun e=>Nat.le_trans HB0.out.size e⟩
theorem add_any (X:Nat) (vd vu:Value) (N:Nt) (E:Nat→Nat) (Fd:Nat→Nat→Prop) (F:Nat→Prop) (q:Pc) (w:World) (m:NAt w X vd vu N E Fd) (hF:∀g,F g↔Fs X vd vu N.ds.length Fd g) (hn:N.us.length≤100) (hq:q.2.size≤maxLen):
  Calls Tryz.prog 82 #[ptr X,.agg #[.int .i64 q.1,.string q.2]] w fun r w'=>r=.returned (errV (if 100≤N.us.length then 4 else 0))∧Left' w X F (if 100≤N.us.length then N else{ N with us:=N.us++[q] }) w':=by
 by_cases h:100≤N.us.length
 ·rw[if_pos h,if_pos h,errV_ne (by decide)]
  obtain⟨p,c,e,_⟩:=m.cellU
  have hb:=m.blk
  rw[e] at hb
  refine(add_full X _ c q.1 q.2 p w (fun W hb9=>keep_cell hb9 (blk_cell hb (i:=1) rfl)) h (by omega)).mono ?_
  rintro r w' ⟨rfl,hb⟩
  exact⟨rfl,left_same ⟨vd,vu,E,Fd,m,hF⟩ hb⟩
 ·rw[if_neg h,if_neg h,errV_zero]
  refine(add_room X vd vu N E Fd q w m (by omega) hq).mono ?_
  rintro r w' ⟨rfl,vu',h1,h2,h3⟩
  exact⟨rfl,left_mk hF h1 h2 h3⟩
/- a parcel is sent -/
theorem send_no (X n c:Nat) (a b:Int) (p:Option Addr) (w:World) (c0:w.cell? ⟨X,0,none⟩=some (.slice p n c)) (hn:n≤4) (h:out n a∨out n b):
  Calls Tryz.prog 37 #[ptr X,.int .i64 a,.int .i64 b] w fun r w'=>r=.returned (.iface 84 (.int .i64 1))∧w'=w:=by
 by_cases ha:out n a
 ·have C:=node_no X n c a p w c0 hn ha
  clear ha h
  go_enter Tryz.func37,Tryz.ntmps37
  go_wp2_with fail
  refine C.mono ?_
  rintro e w' ⟨rfl,rfl⟩
  go_wp2_with fail
  go_ret
  exact⟨rfl,rfl⟩
 ·obtain⟨i,rfl⟩:∃i:Nat,a=i:=⟨a.toNat,by unfold out at ha;omega⟩
  have C:=node_yes X n i c p w c0 hn (by unfold out at ha;omega)
  have C2:=node_no X n c b p w c0 hn (by rcases h with h | h;exact absurd h ha;exact h)
  clear ha h
  go_enter Tryz.func37,Tryz.ntmps37
  go_wp2_with fail
  refine C.mono ?_
  rintro e w' ⟨rfl,rfl⟩
  go_wp2_with fail
  refine C2.mono ?_
  rintro e w' ⟨rfl,rfl⟩
  go_wp2_with fail
  go_ret
  exact⟨rfl,rfl⟩
theorem send_self (X n c i:Nat) (p:Option Addr) (w:World) (c0:w.cell? ⟨X,0,none⟩=some (.slice p n c)) (hn:n≤4) (h:i<n):
  Calls Tryz.prog 37 #[ptr X,.int .i64 i,.int .i64 i] w fun r w'=>r=.returned (.iface 84 (.int .i64 3))∧w'=w:=by
 have C:=node_yes X n i c p w c0 hn h
 go_enter Tryz.func37,Tryz.ntmps37
 go_wp2_with fail
 refine C.mono ?_
 rintro e w' ⟨rfl,rfl⟩
 go_wp2_with fail
 refine C.mono ?_
 rintro e w' ⟨rfl,rfl⟩
 go_wp2_with fail
 go_ret
 exact⟨rfl,rfl⟩
theorem send_yes (X:Nat) (vd vu:Value) (N:Nt) (E:Nat→Nat) (Fd:Nat→Nat→Prop) (F:Nat→Prop) (i j:Nat) (w:World) (m:NAt w X vd vu N E Fd) (hF:∀g,F g↔Fs X vd vu N.ds.length Fd g) (hu:N.us.length≤100) (hi:i<N.ds.length) (hj:j<N.ds.length) (hij:i≠j):
  Calls Tryz.prog 37 #[ptr X,.int .i64 i,.int .i64 j] w fun r w'=>r=.returned (errV (if 100≤N.us.length then 4 else 0))∧Left' w X F (if 100≤N.us.length then N else{ N with us:=N.us++[(j,packT (lackL (dq N i).ops (dq N j).known))] }) w':=by
 obtain⟨p,c,rfl,_,_,hc⟩:=m.cellD
 obtain⟨g,rfl,hg⟩:=hc (by omega)
 obtain⟨n,hn⟩:∃n,n=N.ds.length:=⟨_,rfl⟩
 have hn4:n≤4:=by have:=m.few;omega
 have hDi:=m.docs.at' i hi
 have hDj:=m.docs.at' j hj
 have HIi:=z9 hDi.inv
 have HIj:=z9 hDj.inv
 have x0:w.cell? ⟨X,0,none⟩=some (.slice (some ⟨g,0,none⟩) n c):=by rw[hn];exact blk_cell m.blk (i:=0) rfl
 have xi:w.cell? ⟨g,i,none⟩=some (ptr (E i)):=hg i hi
 have xj:w.cell? ⟨g,j,none⟩=some (ptr (E j)):=hg j hj
 have C1:=node_yes X n i c _ w x0 hn4 (by omega)
 have C2:=node_yes X n j c _ w x0 hn4 (by omega)
 have CK:Hid (∀W,Below w.heap.size w W→Calls Tryz.prog 81 #[ptr (E j)] W fun e w'=>∃v',e=.returned v'∧KnAt w' v' (dq N j).known∧Below W.heap.size W w'):=fun W hb=>(Il.known_get (E j) _ _ W (DocAt.below hDj hb)).mono fun e w' ⟨v',h1,h2,_,h3⟩=>⟨v',h1,h2,h3⟩
 obtain⟨T,hT⟩:∃T,T=packT (lackL (dq N i).ops (dq N j).known):=⟨_,rfl⟩
 have CP:Hid (∀W v,Below w.heap.size w W→KnAt W v (dq N j).known→Calls Tryz.prog 80 #[ptr (E i),v] W fun e w'=>e=.returned (.tuple #[.string T,.nilIface])∧Below W.heap.size W w'):=fun W v hb hk=>(Ag.parcel_any (E i) _ _ v _ W (DocAt.below hDi hb) hk).mono fun e w' ⟨h1,h2⟩=>⟨by rw[h1,hT,parc_same HIi.out HIj.out,Ii.vec_ok HIj.out,errV_zero],h2⟩
 have hTm:T.size≤maxLen:=by rw[hT];exact pack_size (Ag.pack_zero HIi.out _)
 have CA:Hid (∀W,Below w.heap.size w W→Calls Tryz.prog 82 #[ptr X,.agg #[.int .i64 j,.string T]] W fun r w'=>r=.returned (errV (if 100≤N.us.length then 4 else 0))∧Left' w X F (if 100≤N.us.length then N else{ N with us:=N.us++[(j,T)] }) w'):=fun W hb=>(add_any X _ vu N E Fd F (j,T) W (m.below hb) hF hu hTm).mono fun e w' ⟨h1,h2⟩=>⟨h1,Left'.first hb h2⟩
 rw[←hT]
 have hiz:(0:Int)≤(i:Int):=by omega
 have hjz:(0:Int)≤(j:Int):=by omega
 have hin:(i:Int)<(n:Int):=by omega
 have hjn:(j:Int)<(n:Int):=by omega
 have hije:((i:Int)==(j:Int))=false:=by simp;omega
 have HR:=Hid.mk' (Below.refl w.heap.size w)
 have HM:=Hid.mk' m
 clear hT hTm hDi hDj hg hc m hF hn hij hi hj HIi HIj
 generalize errV (if 100≤N.us.length then 4 else 0)=ev at CA ⊢
 generalize (if 100≤N.us.length then N else{ N with us:=N.us++[(j,T)] }:Nt)=NN at CA ⊢
 go_enter Tryz.func37,Tryz.ntmps37
 go_wp2_with fail
 refine C1.mono ?_
 rintro e w' ⟨rfl,hw⟩
 subst hw
 go_wp2_with fail
 refine C2.mono ?_
 rintro e w1 ⟨rfl,hw⟩
 subst hw
 clear C1 C2
 go_wp2_with fail
 go_region_held3 (fun W=>W.cell? ⟨X,0,none⟩=some (.slice (some ⟨g,0,none⟩) n c)∧W.cell? ⟨g,i,none⟩=some (ptr (E i))∧W.cell? ⟨g,j,none⟩=some (ptr (E j))) (first | (go_keep;done) | (refine⟨?_, ?_, ?_⟩<;>(first | assumption | (go_split_ands;assumption))) | (refine⟨keep_cell hb8 ?_,keep_cell hb8 ?_,keep_cell hb8 ?_⟩<;>(first | assumption | (go_split_ands;assumption))) | (refine⟨keep_cell hb7 ?_,keep_cell hb7 ?_,keep_cell hb7 ?_⟩<;>(first | assumption | (go_split_ands;assumption)))) (first
  | (go_at_call 81;refine(CK.out _ HR.out.drew).mono ?_;rintro e w6 ⟨v6,rfl,hk7,hb7⟩;obtain⟨p6,n6,c6,rfl⟩:∃p n c,v6=.slice p n c:=(by obtain⟨p,c,e,_⟩:=hk7;exact⟨_,_,_,e⟩);have HB6:=z9 (bel HR.out.drew hb7);have HK6:=Hid.mk' hk7;clear hk7)
  | (go_at_call 80;refine(CP.out _ _ HB6.out HK6.out).mono ?_;rintro e w7 ⟨rfl,hb8⟩;have HB7:=z9 (bel HB6.out hb8)))
 all_goals
  clear hb7 hb8 HK6 HB6 x0 xi xj
  have C3:=CA.out w7 HB7.out
  go_wp2_with fail
  refine C3.mono ?_
  rintro e w8 ⟨rfl,h8⟩
  have H8:=Hid.mk' h8
  clear h8 C3
  go_wp2_with fail
  go_ret
  exact⟨rfl,H8.out⟩
theorem send_any (X:Nat) (N:Nt) (F:Nat→Prop) (a b c:Int) (w:World) (h:At w X N F) (hu:N.us.length≤100):Calls Tryz.prog 37 #[ptr X,.int .i64 a,.int .i64 b] w fun r w'=>r=.returned (errV (evE N (3,a,b,c)))∧Left' w X F (evS N (3,a,b,c)) w':=by
 have h0:=h
 obtain⟨vd,vu,E,Fd,m,hF⟩:=h
 obtain⟨p,cn,e9,_,_,hc⟩:=m.cellD
 have c0:w.cell? ⟨X,0,none⟩=some (.slice p N.ds.length cn):=by
  have:=blk_cell m.blk (i:=0) (u:=vd) rfl
  rw[e9] at this;exact this
 have n1:isEd 3≠true:=by decide
 by_cases ho:out N.ds.length a∨out N.ds.length b
 ·have e1:evE N (3,a,b,c)=1:=by unfold evE;dsimp only;rw[if_neg n1,if_pos rfl,if_pos ho]
  have e2:evS N (3,a,b,c)=N:=by unfold evS;dsimp only;rw[if_neg n1,if_pos rfl,if_pos ho]
  rw[e1,e2,errV_ne (by decide)]
  refine(send_no X _ cn a b p w c0 m.few ho).mono ?_
  rintro r w' ⟨rfl,rfl⟩
  exact⟨rfl,left_same h0 (Below.refl _ _)⟩
 ·obtain⟨i,rfl⟩:∃i:Nat,a=i:=⟨a.toNat,by unfold out at ho;omega⟩
  obtain⟨j,rfl⟩:∃j:Nat,b=j:=⟨b.toNat,by unfold out at ho;omega⟩
  have hi:i<N.ds.length:=by unfold out at ho;omega
  have hj:j<N.ds.length:=by unfold out at ho;omega
  by_cases hij:i=j
  ·subst hij
   have e1:evE N (3,i,i,c)=3:=by unfold evE;dsimp only;rw[if_neg n1,if_pos rfl,if_neg ho,if_pos rfl]
   have e2:evS N (3,i,i,c)=N:=by unfold evS;dsimp only;rw[if_neg n1,if_pos rfl,if_neg ho,if_pos rfl]
   rw[e1,e2,errV_ne (by decide)]
   refine(send_self X _ cn i p w c0 m.few hi).mono ?_
   rintro r w' ⟨rfl,rfl⟩
   exact⟨rfl,left_same h0 (Below.refl _ _)⟩
  ·have hz:¬(i:Int)=(j:Int):=by omega
   have e1:evE N (3,i,j,c)=if 100≤N.us.length then 4 else 0:=by unfold evE;dsimp only;rw[if_neg n1,if_pos rfl,if_neg ho,if_neg hz]
   have e2:evS N (3,i,j,c)=if 100≤N.us.length then N else{ N with us:=N.us++[(j,packT (lackL (dq N i).ops (dq N j).known))] }:=by unfold evS;dsimp only;rw[if_neg n1,if_pos rfl,if_neg ho,if_neg hz];rfl
   rw[e1,e2]
   exact send_yes X vd vu N E Fd F i j w m hF hu hi hj hij
end Hx
end Go.Proofs.YtlmdchpbpgcfmaaGreatDoor
/- Package net: move, Do. -/
namespace Go.Proofs.YtlmdchpbpgcfmaaGreatDoor
namespace Hw
open Go.ChangeShapes Go.WideShapes Go.ChangeAt Go.RowKit Cm Ka Kb Na Om Oa Oz Oc Og Oi Hm Ia Ic Ie Um Aa Ov Hc Hd Hi Hl Ho Hs Hp Hx
open La (bel bel_drew errV_zero errV_ne own_ge own_grow own_below Lies)
theorem move_no (X n c:Nat) (t a:Int) (p:Option Addr) (w:World) (c1:w.cell? ⟨X,1,none⟩=some (.slice p n c)) (hn:n≤1000) (h:out n a):
  Calls Tryz.prog 38 #[ptr X,.int .i64 t,.int .i64 a] w fun r w'=>r=.returned (.iface 84 (.int .i64 1))∧w'=w:=by
 by_cases ha:a<0
 ·clear h
  go_enter Tryz.func38,Tryz.ntmps38
  go_wp2_with fail
  go_ret
  exact⟨rfl,rfl⟩
 ·have hb:(n:Int)≤a:=by unfold out at h;omega
  clear h
  go_enter Tryz.func38,Tryz.ntmps38
  go_wp2_with fail
  go_ret
  exact⟨rfl,rfl⟩
/- a parcel in a box of its own -/
theorem box_two (w:World) (q:Pc):∀W,W=w.alloc (.cells #[.int .i64 q.1,.string q.2] 145)→Below w.heap.size w W∧W.heap[w.heap.size]? =some (.cells #[.int .i64 q.1,.string q.2] 145):=by
 rintro W rfl
 exact⟨(Below.refl _ w).alloc (Nat.le_refl _) _,heap_alloc_new w _⟩
theorem getD_sz {l:List Pc} (h:∀p ∈ l,p.2.size≤maxLen) (i:Nat):(l.getD i pz).2.size≤maxLen:=by
 rw[List.getD_eq_getElem?_getD]
 cases hk:l[i]? with
 | none=>show(0:Nat)≤_;omega
 | some p=>exact h p (List.mem_of_getElem? hk)
theorem move_twice (X:Nat) (vd vu:Value) (N:Nt) (E:Nat→Nat) (Fd:Nat→Nat→Prop) (F:Nat→Prop) (i:Nat) (w:World) (m:NAt w X vd vu N E Fd) (hF:∀g,F g↔Fs X vd vu N.ds.length Fd g) (hu:N.us.length≤100) (hi:i<N.us.length):
  Calls Tryz.prog 38 #[ptr X,.int .i64 6,.int .i64 i] w fun r w'=>r=.returned (errV (if 100≤N.us.length then 4 else 0))∧Left' w X F (if 100≤N.us.length then N else{ N with us:=N.us++[N.us.getD i pz] }) w':=by
 obtain⟨p,c,e9,_,_,hc⟩:=m.cellU
 obtain⟨g,rfl,hg⟩:=hc (by omega)
 have x1:w.cell? ⟨X,1,none⟩=some (.slice (some ⟨g,0,none⟩) N.us.length c):=by
  have:=blk_cell m.blk (i:=1) (u:=vu) rfl
  rw[e9] at this;exact this
 have hq:=getD_sz m.sz i
 have CA:Hid (∀W,Below w.heap.size w W→Calls Tryz.prog 82 #[ptr X,.agg #[.int .i64 (N.us.getD i pz).1,.string (N.us.getD i pz).2]] W fun r w'=>r=.returned (errV (if 100≤N.us.length then 4 else 0))∧Left' w X F (if 100≤N.us.length then N else{ N with us:=N.us++[N.us.getD i pz] }) w'):=fun W hb=>(add_any X _ vu N E Fd F (N.us.getD i pz) W (m.below hb) hF hu hq).mono fun e w' ⟨h1,h2⟩=>⟨h1,Left'.first hb h2⟩
 have xa:w.cell? ⟨g,i*2,none⟩=some (.int .i64 (N.us.getD i pz).1):=(hg i hi).1
 have xb:w.cell? ⟨g,i*2+1,none⟩=some (.string (N.us.getD i pz).2):=(hg i hi).2
 generalize errV (if 100≤N.us.length then 4 else 0)=ev at CA ⊢
 generalize (if 100≤N.us.length then N else{ N with us:=N.us++[N.us.getD i pz] }:Nt)=NN at CA ⊢
 generalize N.us.getD i pz=q at CA xa xb
 obtain⟨n,hn⟩:∃n,n=N.us.length:=⟨_,rfl⟩
 rw[←hn] at x1 hi hu
 have hiz:¬(i:Int)<0:=by omega
 have hiz2:(0:Int)≤(i:Int):=by omega
 have hin:¬(n:Int)≤(i:Int):=by omega
 have hin2:(i:Int)<(n:Int):=by omega
 clear hn hq hg hc m hF e9 hi
 go_enter Tryz.func38,Tryz.ntmps38
 go_upto_region 4 with fail
 generalize hw0:World.alloc _ _=w0
 obtain⟨hB0,hA0⟩:=box_two w q w0 hw0.symm
 have HB0:=Hid.mk' hB0
 have y0:=blk_cell hA0 (i:=0) (u:=.int .i64 q.1) rfl
 have y1:=blk_cell hA0 (i:=1) (u:=.string q.2) rfl
 have C:=CA.out w0 hB0
 clear hw0 hB0 hA0 x1 xa xb
 go_wp2_with fail
 refine C.mono ?_
 rintro e w8 ⟨rfl,h8⟩
 have H8:=Hid.mk' h8
 clear h8 C
 go_wp2_with fail
 go_ret
 exact⟨rfl,H8.out⟩
theorem chg_cell {F:Nat→Prop} {w w':World} (h:Chg F w w') {b o:Nat} (hl:b<w.heap.size) (hF:¬F b):w'.cell? ⟨b,o,none⟩=w.cell? ⟨b,o,none⟩:=by
 unfold World.cell?
 show(match w'.heap[b]? with | _=>_)=_
 rw[h.block b hl hF]
/- the i-th parcel is under way no more -/
theorem erased {X:Nat} {vd vu:Value} {N:Nt} {E:Nat→Nat} {Fd:Nat→Nat→Prop} {w W W1:World} {v':Value} {i:Nat} (m:NAt w X vd vu N E Fd) (hb:Below w.heap.size w W) (hr:RowP W1 v' (N.us.eraseIdx i)) (hc:Chg (fun x=>vu.ownBlock=some x) W W1) (hv:v'.ownBlock=vu.ownBlock):
  NAt (W1.setCell ⟨X,1,none⟩ v') X vd v' { N with us:=N.us.eraseIdx i } E Fd∧Chg (Fs X vd vu N.ds.length Fd) w (W1.setCell ⟨X,1,none⟩ v')∧∀g,Fs X vd v' N.ds.length Fd g→Fs X vd vu N.ds.length Fd g∨w.heap.size≤g:=by
 obtain⟨r1,r2,r3⟩:=(m.below hb).set_u hc hr (fun g hg=>Or.inl (hv▸hg)) (fun p hp=>m.sz p (List.mem_of_mem_eraseIdx hp))
 exact⟨r1,(Chg.ofBelow hb _).trans r2,fun g hg=>(r3 g hg).imp id fun e=>Nat.le_trans hb.size e⟩
theorem move_lose (X:Nat) (vd vu:Value) (N:Nt) (E:Nat→Nat) (Fd:Nat→Nat→Prop) (F:Nat→Prop) (i:Nat) (w:World) (m:NAt w X vd vu N E Fd) (hF:∀g,F g↔Fs X vd vu N.ds.length Fd g) (hu:N.us.length≤100) (hi:i<N.us.length):
  Calls Tryz.prog 38 #[ptr X,.int .i64 5,.int .i64 i] w fun r w'=>r=.returned .nilIface∧Left' w X F { N with us:=N.us.eraseIdx i } w':=by
 obtain⟨p,c,rfl,_,_,hc⟩:=m.cellU
 obtain⟨g,rfl,hg⟩:=hc (by omega)
 have x1:=blk_cell m.blk (i:=1) (u:=.slice (some ⟨g,0,none⟩) N.us.length c) rfl
 have xa:w.cell? ⟨g,i*2,none⟩=some (.int .i64 (N.us.getD i pz).1):=(hg i hi).1
 have xb:w.cell? ⟨g,i*2+1,none⟩=some (.string (N.us.getD i pz).2):=(hg i hi).2
 generalize N.us.getD i pz=q at xa xb
 obtain⟨n,hn⟩:∃n,n=N.us.length:=⟨_,rfl⟩
 have CD:Hid (∀W,Below w.heap.size w W→Calls Tryz.prog 83 #[.slice (some ⟨g,0,none⟩) n c,.int .i64 i,.int .i64 ((i+1:Nat):Int)] W fun e w'=>e=.returned (.slice (some ⟨g,0,none⟩) (n-1) c)∧RowP w' (.slice (some ⟨g,0,none⟩) (n-1) c) (N.us.eraseIdx i)∧Chg (fun x=>(Value.slice (some ⟨g,0,none⟩) n c).ownBlock=some x) W w'):=fun W hb=>by rw[hn];exact del_one g c _ i N.us W (m.below hb).ru rfl hi
 have HM:=Hid.mk' m
 have HFF:=Hid.mk' hF
 have HN:=Hid.mk' hn
 rw[←hn] at x1 hi hu
 have hiz:¬(i:Int)<0:=by omega
 have hiz2:(0:Int)≤(i:Int):=by omega
 have hin:¬(n:Int)≤(i:Int):=by omega
 have hin2:(i:Int)<(n:Int):=by omega
 have hwr:IntKind.i64.wrap ((i:Int)+1)=((i+1:Nat):Int):=by rw[wrap_in (by omega) (by omega)];omega
 clear hn hg hc m hF hi
 go_enter Tryz.func38,Tryz.ntmps38
 go_upto_region 4 with fail
 generalize hw0:World.alloc _ _=w0
 obtain⟨hB0,hA0⟩:=box_two w q w0 hw0.symm
 have HB0:=Hid.mk' hB0
 have x2:=keep_cell hB0 x1
 have C:=CD.out w0 hB0
 clear hw0 hB0 hA0 x1 xa xb
 go_wp2_with fail
 refine C.mono ?_
 rintro e w8 ⟨rfl,hr8,hc8⟩
 have hbk:NtB w8 X vd (.slice (some ⟨g,0,none⟩) n c):=by
  have h1:=HM.out.below HB0.out
  rw[←HN.out] at h1
  unfold NtB;rw[hc8.block X h1.ltX (fun e=>h1.uX X e rfl)];exact h1.blk
 have q8:=blk_cell hbk (i:=1) (u:=.slice (some ⟨g,0,none⟩) n c) rfl
 have f8:=blk_free hbk (i:=1)
 have HE:=z9 (erased HM.out HB0.out hr8 (by rw[←HN.out];exact hc8) rfl)
 clear hbk hr8 hc8 C
 go_wp2_with fail
 go_ret
 exact⟨rfl,left_mk HFF.out HE.out.1 HE.out.2.1 HE.out.2.2⟩
theorem move_come (X:Nat) (vd vu:Value) (N:Nt) (E:Nat→Nat) (Fd:Nat→Nat→Prop) (F:Nat→Prop) (i:Nat) (w:World) (m:NAt w X vd vu N E Fd) (hF:∀g,F g↔Fs X vd vu N.ds.length Fd g) (hu:N.us.length≤100) (hi:i<N.us.length) (hto:(N.us.getD i pz).1<N.ds.length) (hok:Hid ((unpB (N.us.getD i pz).2.toList).isSome=true)):
  Calls Tryz.prog 38 #[ptr X,.int .i64 4,.int .i64 i] w fun r w'=>r=.returned (errV (opnE (dq N (N.us.getD i pz).1) (N.us.getD i pz).2))∧Left' w X F ⟨N.ds.set (N.us.getD i pz).1 (runS (dq N (N.us.getD i pz).1) (opnL (N.us.getD i pz).2)),N.us.eraseIdx i⟩ w':=by
 obtain⟨p,c,rfl,_,_,hc⟩:=m.cellU
 obtain⟨g,rfl,hg⟩:=hc (by omega)
 have hq:=getD_sz m.sz i
 have x1:=blk_cell m.blk (i:=1) (u:=.slice (some ⟨g,0,none⟩) N.us.length c) rfl
 have xa:w.cell? ⟨g,i*2,none⟩=some (.int .i64 (N.us.getD i pz).1):=(hg i hi).1
 have xb:w.cell? ⟨g,i*2+1,none⟩=some (.string (N.us.getD i pz).2):=(hg i hi).2
 generalize N.us.getD i pz=q at xa xb hto hq hok ⊢
 obtain⟨tu,T⟩:=q
 dsimp only at hok
 simp only at xa xb hto hq ⊢
 obtain⟨n,hn⟩:∃n,n=N.us.length:=⟨_,rfl⟩
 have CD:Hid (∀W,Below w.heap.size w W→Calls Tryz.prog 83 #[.slice (some ⟨g,0,none⟩) n c,.int .i64 i,.int .i64 ((i+1:Nat):Int)] W fun e w'=>e=.returned (.slice (some ⟨g,0,none⟩) (n-1) c)∧RowP w' (.slice (some ⟨g,0,none⟩) (n-1) c) (N.us.eraseIdx i)∧Chg (fun x=>(Value.slice (some ⟨g,0,none⟩) n c).ownBlock=some x) W w'):=fun W hb=>by rw[hn];exact del_one g c _ i N.us W (m.below hb).ru rfl hi
 obtain⟨pd,cd,evd,_,_,hcd⟩:=m.cellD
 obtain⟨gd,rfl,hgd⟩:=hcd (by omega)
 obtain⟨nd,hnd⟩:∃nd,nd=N.ds.length:=⟨_,rfl⟩
 have HM:=Hid.mk' m
 have HFF:=Hid.mk' hF
 have HN:=Hid.mk' hn
 have HND:=Hid.mk' hnd
 have HVD:=Hid.mk' evd
 have HTO:=Hid.mk' hto
 have HQ:=Hid.mk' hq
 have hnd4:nd≤4:=by have:=m.few;omega
 rw[←hn] at x1 hi hu
 have hiz:¬(i:Int)<0:=by omega
 have hiz2:(0:Int)≤(i:Int):=by omega
 have hin:¬(n:Int)≤(i:Int):=by omega
 have hin2:(i:Int)<(n:Int):=by omega
 have hwr:IntKind.i64.wrap ((i:Int)+1)=((i+1:Nat):Int):=by rw[wrap_in (by omega) (by omega)];omega
 have htz:(0:Int)≤(tu:Int):=by omega
 have htn:(tu:Int)<(nd:Int):=by omega
 clear hn hg hc m hF hi hgd hcd hnd evd hto hq
 go_enter Tryz.func38,Tryz.ntmps38
 go_upto_region 4 with fail
 generalize hw0:World.alloc _ _=w0
 obtain⟨hB0,hA0⟩:=box_two w (tu,T) w0 hw0.symm
 have HB0:=Hid.mk' hB0
 have HA0:=Hid.mk' hA0
 have x2:=keep_cell hB0 x1
 have C:=CD.out w0 hB0
 clear hw0 hB0 hA0 x1 xa xb
 go_wp2_with fail
 refine C.mono ?_
 rintro e w8 ⟨rfl,hr8,hc8⟩
 have hbk:NtB w8 X vd (.slice (some ⟨g,0,none⟩) n c):=by
  have h1:=HM.out.below HB0.out
  rw[←HN.out] at h1
  unfold NtB;rw[hc8.block X h1.ltX (fun e=>h1.uX X e rfl)];exact h1.blk
 have q8:=blk_cell hbk (i:=1) (u:=.slice (some ⟨g,0,none⟩) n c) rfl
 have f8:=blk_free hbk (i:=1)
 have HE:=z9 (erased HM.out HB0.out hr8 (by rw[←HN.out];exact hc8) rfl)
 have HBX:Hid ((w8.setCell ⟨X,1,none⟩ (.slice (some ⟨g,0,none⟩) (n-1) c)).heap[w.heap.size]? =some (.cells #[.int .i64 tu,.string T] 145)):=by
  unfold Hid
  have hlx:=HM.out.ltX
  have hlw:w.heap.size<w0.heap.size:=(Array.getElem?_eq_some_iff.1 HA0.out).1
  rw[set_block _ _ _ _ (by show w.heap.size≠X;omega),hc8.block _ hlw (fun e=>by have:=(own_lt HM.out.ru w.heap.size (by rw[←HN.out];exact e)).1;omega)]
  exact HA0.out
 clear hbk hr8 hc8 C
 go_upto_region 7 with fail
 generalize hw9:World.setCell _ _ _=w9
 rw[hw9] at HE HBX
 clear hw9 q8 f8 x2
 have HM9:=Hid.mk' HE.out.1
 have b0:=blk_cell HBX.out (i:=0) (u:=.int .i64 tu) rfl
 have b1:=blk_cell HBX.out (i:=1) (u:=.string T) rfl
 have d0:w9.cell? ⟨X,0,none⟩=some (.slice (some ⟨gd,0,none⟩) nd cd):=by
  have:=blk_cell HM9.out.blk (i:=0) (u:=vd) rfl
  rw[HVD.out,←HND.out] at this;exact this
 have d1:w9.cell? ⟨gd,tu,none⟩=some (ptr (E tu)):=by
  obtain⟨p7,c7,e7,_,_,h7⟩:=HM9.out.cellD
  have h8:0<N.ds.length:=by have:=HTO.out;omega
  obtain⟨g7,e8,h9⟩:=h7 h8
  rw[HVD.out] at e7
  injection e7 with e7 _ _
  rw[e8] at e7
  injection e7 with e7
  injection e7 with e7 _
  subst e7
  exact h9 tu HTO.out
 have CO:Hid (∀W,Below w9.heap.size w9 W→Calls Tryz.prog 84 #[ptr (E tu),.string T] W (Ag.OnPost W (E tu) (dq N tu) (Fd tu) T)):=fun W hb=>Ag.open_ok (E tu) _ _ T W (DocAt.below (HM9.out.docs.at' tu HTO.out) hb) HQ.out hok
 have HR:=Hid.mk' (Below.refl w9.heap.size w9)
 have HOD:=z9 (HM9.out.ofd gd (by rw[HVD.out];rfl))
 have HOB:Hid (¬All N.ds.length Fd w.heap.size):=fun e=>by have:=HM.out.docs.lt _ e;omega
 go_wp2_with fail
 go_region_held3 (fun W=>W.cell? ⟨X,0,none⟩=some (.slice (some ⟨gd,0,none⟩) nd cd)∧W.cell? ⟨gd,tu,none⟩=some (ptr (E tu))∧W.cell? ⟨w.heap.size,0,none⟩=some (.int .i64 tu)∧W.cell? ⟨w.heap.size,1,none⟩=some (.string T)) (first | (go_keep;done) | (refine⟨?_, ?_, ?_, ?_⟩<;>assumption)) (first
  | (go_at_call 84;refine(CO.out _ HR.out.drew).mono ?_;rintro e w6 ⟨he,F',h5,h6,h7⟩;obtain⟨k6,hk6⟩:∃k6:Int,k6=opnN (dq N tu) T:=⟨_,rfl⟩;obtain⟨z6,hz6⟩:∃z6,z6=errV (opnE (dq N tu) T):=⟨_,rfl⟩;rw[←hk6,←hz6] at he;subst he;have HZ6:=Hid.mk' hz6;have HP6:Hid (∃F',DocAt w6 (E tu) (runS (dq N tu) (opnL T)) F'∧Chg (Fd tu) w9 w6∧∀g,F' g→Fd tu g∨w9.heap.size≤g):=⟨F',h5,(Chg.ofBelow HR.out.drew _).trans h6,h7⟩;have hC6:Chg (Fd tu) w9 w6:=(Chg.ofBelow HR.out.drew _).trans h6;have zz0:=(chg_cell hC6 (HM9.out.ltX) (fun e=>HM9.out.off ⟨tu,HTO.out,e⟩)).trans d0;have zz1:=(chg_cell hC6 (World.block_lt_of_cell? _ _ d1) (fun e=>HOD.out ⟨tu,HTO.out,e⟩)).trans d1;have zz2:=(chg_cell hC6 (World.block_lt_of_cell? _ _ b0) (fun e=>HOB.out ⟨tu,HTO.out,e⟩)).trans b0;have zz3:=(chg_cell hC6 (World.block_lt_of_cell? _ _ b1) (fun e=>HOB.out ⟨tu,HTO.out,e⟩)).trans b1;clear h5 h6 h7 hk6 hz6 hC6))
 all_goals
  go_wp2_with fail
  go_ret
  obtain⟨F',h5,h6,h7⟩:=HP6.out
  obtain⟨r1,r2,r3⟩:=HM9.out.turn (i:=tu) HTO.out h5 h6 h7
  have hz9:w.heap.size≤w9.heap.size:=HE.out.2.1.size
  refine⟨by rw[HZ6.out];rfl,left_mk HFF.out r1 (HE.out.2.1.next r2 HE.out.2.2) fun g hg=> ?_⟩
  rcases r3 g hg with e | e
  ·exact HE.out.2.2 g e
  ·exact Or.inr (Nat.le_trans hz9 e)
theorem is_co {t:Int} (h:isCo t=true):t=4∨t=5∨t=6:=by
 unfold isCo at h
 simpa using h
theorem move_any (X:Nat) (N:Nt) (F:Nat→Prop) (t a b c:Int) (w:World) (h:At w X N F) (hgl:Gl N) (hu:N.us.length≤100) (ht:isCo t=true):Calls Tryz.prog 38 #[ptr X,.int .i64 t,.int .i64 a] w fun r w'=>r=.returned (errV (evE N (t,a,b,c)))∧Left' w X F (evS N (t,a,b,c)) w':=by
 have h0:=h
 obtain⟨vd,vu,E,Fd,m,hF⟩:=h
 have n1:isEd t≠true:=by rcases is_co ht with rfl | rfl | rfl<;>decide
 have n2:t≠3:=by rcases is_co ht with rfl | rfl | rfl<;>decide
 by_cases ho:out N.us.length a
 ·have e1:evE N (t,a,b,c)=1:=by unfold evE;dsimp only;rw[if_neg n1,if_neg n2,if_pos ht,if_pos ho]
  have e2:evS N (t,a,b,c)=N:=by unfold evS;dsimp only;rw[if_neg n1,if_neg n2,if_pos ht,if_pos ho]
  rw[e1,e2,errV_ne (by decide)]
  obtain⟨p,cn,e9,_⟩:=m.cellU
  have c1:w.cell? ⟨X,1,none⟩=some (.slice p N.us.length cn):=by
   have:=blk_cell m.blk (i:=1) (u:=vu) rfl
   rw[e9] at this;exact this
  refine(move_no X _ cn t a p w c1 (by omega) ho).mono ?_
  rintro r w' ⟨rfl,rfl⟩
  exact⟨rfl,left_same h0 (Below.refl _ _)⟩
 ·obtain⟨i,rfl⟩:∃i:Nat,a=i:=⟨a.toNat,by unfold out at ho;omega⟩
  have hi:i<N.us.length:=by unfold out at ho;omega
  have hp:par N (t,i,b,c)=N.us.getD i pz:=rfl
  rcases is_co ht with rfl | rfl | rfl
  ·have e1:evE N (4,i,b,c)=opnE (dq N (N.us.getD i pz).1) (N.us.getD i pz).2:=by unfold evE;dsimp only;rw[if_neg n1,if_neg n2,if_pos ht,if_neg ho,if_neg (by decide),if_neg (by decide),hp]
   have e2:evS N (4,i,b,c)=⟨N.ds.set (N.us.getD i pz).1 (runS (dq N (N.us.getD i pz).1) (opnL (N.us.getD i pz).2)),N.us.eraseIdx i⟩:=by unfold evS;dsimp only;rw[if_neg n1,if_neg n2,if_pos ht,if_neg ho,if_neg (by decide),if_neg (by decide),hp];rfl
   rw[e1,e2]
   have hmem:N.us.getD i pz ∈ N.us:=by rw[List.getD_eq_getElem?_getD,List.getElem?_eq_getElem hi];exact List.getElem_mem hi
   exact move_come X vd vu N E Fd F i w m hF hu hi (hgl.par _ hmem).1 (hgl.ok _ hmem)
  ·have e1:evE N (5,i,b,c)=0:=by unfold evE;dsimp only;rw[if_neg n1,if_neg n2,if_pos ht,if_neg ho,if_neg (by decide),if_pos rfl]
   have e2:evS N (5,i,b,c)={ N with us:=N.us.eraseIdx i }:=by unfold evS;dsimp only;rw[if_neg n1,if_neg n2,if_pos ht,if_neg ho,if_neg (by decide),if_pos rfl];rfl
   rw[e1,e2,errV_zero]
   exact move_lose X vd vu N E Fd F i w m hF hu hi
  ·have e1:evE N (6,i,b,c)=if 100≤N.us.length then 4 else 0:=by unfold evE;dsimp only;rw[if_neg n1,if_neg n2,if_pos ht,if_neg ho,if_pos rfl]
   have e2:evS N (6,i,b,c)=if 100≤N.us.length then N else{ N with us:=N.us++[N.us.getD i pz] }:=by unfold evS;dsimp only;rw[if_neg n1,if_neg n2,if_pos ht,if_neg ho,if_pos rfl,hp]
   rw[e1,e2]
   exact move_twice X vd vu N E Fd F i w m hF hu hi
end Hw
end Go.Proofs.YtlmdchpbpgcfmaaGreatDoor
