import Derived.Test.YtlmdchpbpgcfmaaGreatDoorJ3
import Derived.Test.YtlmdchpbpgcfmaaGreatDoorJ6
import Derived.Test.YtlmdchpbpgcfmaaGreatDoorH2
set_option linter.unusedSimpArgs false
set_option linter.unusedVariables false
set_option maxRecDepth 100000
set_option maxHeartbeats 8000000
/- slices.Equal of leafs, and of marks (drawn from Lk, Np). -/
namespace Go.Proofs.YtlmdchpbpgcfmaaGreatDoor
namespace Hy
section
open Go.ChangeShapes Go.WideShapes Go.ChangeAt Go.RowKit Bm Ka Kb La Lj Lk
theorem eq_leafs (v u:Value) (a b:List Leaf) (w:World) (h1:BookAt w v a) (h2:BookAt w u b) (hn:a.length≤1048576):
  Calls Tryz.prog 42 #[v,u] w fun e w'=>e=.returned (.bool (decide (a=b)))∧Below w.heap.size w w':=by
 obtain⟨p,c,rfl,hlf,_⟩:=h1
 obtain⟨q,d,rfl,hlg,_⟩:=h2
 obtain⟨n,ha⟩:∃n,a.length=n:=⟨_,rfl⟩
 obtain⟨m,hb⟩:∃m,b.length=m:=⟨_,rfl⟩
 rw[ha,hb]
 rw[ha] at hn
 by_cases hnm:n=m
 ·subst hnm
  have HA:=z9 ha
  have HB:=z9 hb
  have HF:=z9 hlf
  have HG:=z9 hlg
  clear ha hb hlf hlg
  go_enter Tryz.func42,Tryz.ntmps42
  go_wp2
  go_loopw [5,13] (fun _ i wr=>∃k:Nat,k≤n∧i=.int .i64 k∧Hid (∀j,j<k→a.getD j none0=b.getD j none0)∧Hid (Below w.heap.size w wr)) (fun _ i _=>n-(intOf i).toNat)
  case atStart=>exact⟨0,by omega,rfl,fun j hj=>absurd hj (by omega),Below.refl _ _⟩
  case round=>
   obtain⟨k,hk,rfl,HK,HBE⟩:=hrel
   by_cases hlt:k<n
   ·have hltz:(k:Int)<n:=by omega
    obtain⟨b1,o1,rfl,c1⟩:=HF.out.some (by intro e;have:=HA.out;rw[e] at this;simp at this;omega)
    obtain⟨b2,o2,rfl,c2⟩:=HG.out.some (by intro e;have:=HB.out;rw[e] at this;simp at this;omega)
    have e1:=(c1 k (by rw[HA.out];exact hlt)).below HBE.out (c1 k (by rw[HA.out];exact hlt)).lt
    have e2:=(c2 k (by rw[HB.out];exact hlt)).below HBE.out (c2 k (by rw[HB.out];exact hlt)).lt
    obtain⟨x,hx⟩:∃x,x=a.getD k none0:=⟨_,rfl⟩
    obtain⟨y,hy⟩:∃y,y=b.getD k none0:=⟨_,rfl⟩
    rw[←hx] at e1
    rw[←hy] at e2
    have HX:=z9 hx
    have HY:=z9 hy
    clear hx hy c1 c2
    obtain⟨sx,nx,bx⟩:=x
    obtain⟨sy,ny,by'⟩:=y
    obtain⟨x1,x2,x3⟩:=e1
    obtain⟨y1,y2,y3⟩:=e2
    simp only at x1 x2 x3 y1 y2 y3
    have hq:∀w,(binOp .neq 53 (.agg #[.string sx,.int .i64 nx,.bool bx]) (.agg #[.string sy,.int .i64 ny,.bool by'])).run Tryz.prog w=.ok (.bool (!decide (((sx,nx,bx):Leaf)=(sy,ny,by')))) w:=fun w=>neq_leaf sx sy nx ny bx by' w
    have hg:Tryz.prog.eqGuardType Tryz.prog.depth 53=false:=by kernel_rfl
    by_cases hxy:((sx,nx,bx):Leaf)=(sy,ny,by')
    ·rw[decide_eq_true hxy] at hq
     have HXY:=z9 hxy
     clear hxy
     go_wp2
     go_quiet (fail)
     go_wp2
     go_roundw
     case rel=>exact⟨k+1,by omega,by go_num,fun j hj=>by
      rcases Nat.lt_succ_iff_lt_or_eq.1 hj with h | rfl
      ·exact HK.out j h
      ·rw[←HX.out,←HY.out];exact HXY.out,bel_drew HBE.out _⟩
     case measure=>simp[intOf];omega
    ·rw[decide_eq_false hxy] at hq
     have HNE:Hid (decide (a=b)=false):=by
      rw[Hid,decide_eq_false_iff_not];intro e
      apply hxy;rw[HX.out,HY.out,e]
     clear hxy
     go_wp2
     go_quiet (fail)
     go_wp2
     go_ret
     exact⟨by rw[HNE.out];rfl,bel_drew HBE.out _⟩
   ·obtain rfl:k=n:=by omega
    have HEQ:Hid (decide (a=b)=true):=by
     rw[Hid,decide_eq_true_eq]
     apply List.ext_getElem?
     intro i
     by_cases hi:i<k
     ·have:=HK.out i hi
      rw[List.getD_eq_getElem?_getD,List.getD_eq_getElem?_getD,List.getElem?_eq_getElem (by rw[HA.out];exact hi),List.getElem?_eq_getElem (by rw[HB.out];exact hi)] at this
      rw[List.getElem?_eq_getElem (by rw[HA.out];exact hi),List.getElem?_eq_getElem (by rw[HB.out];exact hi)]
      simpa using this
     ·rw[List.getElem?_eq_none (by rw[HA.out];omega),List.getElem?_eq_none (by rw[HB.out];omega)]
    go_wp2
    go_ret
    exact⟨by rw[HEQ.out];rfl,HBE.out⟩
 ·have hnm':((n:Int)==(m:Int))=false:=by simp;omega
  have HE:Hid (decide (a=b)=false):=by
   rw[Hid,decide_eq_false_iff_not];rintro rfl;omega
  clear ha hb hlf hlg
  go_enter Tryz.func42,Tryz.ntmps42
  go_wp2
  go_ret
  exact⟨by rw[HE.out];rfl,Below.refl _ _⟩
end
section
open Go.ChangeShapes Go.WideShapes Go.ChangeAt Go.RowKit Cm Ka Kb Na Nb Nc Nd Nj Nk Np
open La (bel bel_drew errV_zero errV_ne own_ge own_grow own_below)
theorem eq_marks (v u:Value) (a b:List Mk) (w:World) (h1:MksAt w v a) (h2:MksAt w u b) (hn:a.length≤1048576):
  Calls Tryz.prog 43 #[v,u] w fun e w'=>e=.returned (.bool (decide (a=b)))∧Below w.heap.size w w':=by
 obtain⟨p,c,rfl,hlf,_⟩:=h1
 obtain⟨q,d,rfl,hlg,_⟩:=h2
 obtain⟨n,ha⟩:∃n,a.length=n:=⟨_,rfl⟩
 obtain⟨m,hb⟩:∃m,b.length=m:=⟨_,rfl⟩
 rw[ha,hb]
 rw[ha] at hn
 by_cases hnm:n=m
 ·subst hnm
  have HA:=z9 ha
  have HB:=z9 hb
  have HF:=z9 hlf
  have HG:=z9 hlg
  clear ha hb hlf hlg
  go_enter Tryz.func43,Tryz.ntmps43
  go_wp2
  go_loopw [5,13] (fun _ i wr=>∃k:Nat,k≤n∧i=.int .i64 k∧Hid (∀j,j<k→a.getD j none1=b.getD j none1)∧Hid (Below w.heap.size w wr)) (fun _ i _=>n-(intOf i).toNat)
  case atStart=>exact⟨0,by omega,rfl,fun j hj=>absurd hj (by omega),Below.refl _ _⟩
  case round=>
   obtain⟨k,hk,rfl,HK,HBE⟩:=hrel
   by_cases hlt:k<n
   ·have hltz:(k:Int)<n:=by omega
    obtain⟨b1,o1,rfl,c1⟩:=HF.out.some (by intro e;have:=HA.out;rw[e] at this;simp at this;omega)
    obtain⟨b2,o2,rfl,c2⟩:=HG.out.some (by intro e;have:=HB.out;rw[e] at this;simp at this;omega)
    have e1:=(c1 k (by rw[HA.out];exact hlt)).below HBE.out (c1 k (by rw[HA.out];exact hlt)).lt
    have e2:=(c2 k (by rw[HB.out];exact hlt)).below HBE.out (c2 k (by rw[HB.out];exact hlt)).lt
    obtain⟨x,hx⟩:∃x,x=a.getD k none1:=⟨_,rfl⟩
    obtain⟨y,hy⟩:∃y,y=b.getD k none1:=⟨_,rfl⟩
    rw[←hx] at e1
    rw[←hy] at e2
    have HX:=z9 hx
    have HY:=z9 hy
    clear hx hy c1 c2
    obtain⟨sx,nx,bx⟩:=x
    obtain⟨sy,ny,by'⟩:=y
    obtain⟨x1,x2,x3⟩:=e1
    obtain⟨y1,y2,y3⟩:=e2
    simp only at x1 x2 x3 y1 y2 y3
    have hq:∀w,(binOp .neq 96 (.agg #[.string sx,.int .i64 nx,.int .i64 bx]) (.agg #[.string sy,.int .i64 ny,.int .i64 by'])).run Tryz.prog w=.ok (.bool (!decide (((sx,(nx,bx)):Mk)=(sy,(ny,by'))))) w:=fun w=>neq_mark sx sy nx ny bx by' w
    have hg:Tryz.prog.eqGuardType Tryz.prog.depth 96=false:=by kernel_rfl
    by_cases hxy:((sx,(nx,bx)):Mk)=(sy,(ny,by'))
    ·rw[decide_eq_true hxy] at hq
     have HXY:=z9 hxy
     clear hxy
     go_wp2
     go_quiet (fail)
     go_wp2
     go_roundw
     case rel=>exact⟨k+1,by omega,by go_num,fun j hj=>by
      rcases Nat.lt_succ_iff_lt_or_eq.1 hj with h | rfl
      ·exact HK.out j h
      ·rw[←HX.out,←HY.out];exact HXY.out,bel_drew HBE.out _⟩
     case measure=>simp[intOf];omega
    ·rw[decide_eq_false hxy] at hq
     have HNE:Hid (decide (a=b)=false):=by
      rw[Hid,decide_eq_false_iff_not];intro e
      apply hxy;rw[HX.out,HY.out,e]
     clear hxy
     go_wp2
     go_quiet (fail)
     go_wp2
     go_ret
     exact⟨by rw[HNE.out];rfl,bel_drew HBE.out _⟩
   ·obtain rfl:k=n:=by omega
    have HEQ:Hid (decide (a=b)=true):=by
     rw[Hid,decide_eq_true_eq]
     apply List.ext_getElem?
     intro i
     by_cases hi:i<k
     ·have:=HK.out i hi
      rw[List.getD_eq_getElem?_getD,List.getD_eq_getElem?_getD,List.getElem?_eq_getElem (by rw[HA.out];exact hi),List.getElem?_eq_getElem (by rw[HB.out];exact hi)] at this
      rw[List.getElem?_eq_getElem (by rw[HA.out];exact hi),List.getElem?_eq_getElem (by rw[HB.out];exact hi)]
      simpa using this
     ·rw[List.getElem?_eq_none (by rw[HA.out];omega),List.getElem?_eq_none (by rw[HB.out];omega)]
    go_wp2
    go_ret
    exact⟨by rw[HEQ.out];rfl,HBE.out⟩
 ·have hnm':((n:Int)==(m:Int))=false:=by simp;omega
  have HE:Hid (decide (a=b)=false):=by
   rw[Hid,decide_eq_false_iff_not];rintro rfl;omega
  clear ha hb hlf hlg
  go_enter Tryz.func43,Tryz.ntmps43
  go_wp2
  go_ret
  exact⟨by rw[HE.out];rfl,Below.refl _ _⟩
end
end Hy
end Go.Proofs.YtlmdchpbpgcfmaaGreatDoor
/- Package net: New. -/
namespace Go.Proofs.YtlmdchpbpgcfmaaGreatDoor
namespace Hz
open Go.ChangeShapes Go.WideShapes Go.ChangeAt Go.RowKit Cm Ka Kb Na Om Oa Oz Oc Og Oi Hm Ia Ic Ie Aa Hc Hd Hi Hl Hs
open La (bel bel_drew errV_zero errV_ne own_ge own_grow own_below Lies)
theorem infoD:(Tryz.prog.info? 40).map (fun i=>(i.zero,i.size,i.bytes))=some (some (.pointer none),1,8):=by kernel_rfl
/- a pointer behind all: append in a region that draws -/
theorem step_putE {ops:Array Oper} {o:Oper} {a:Act} {W:World} {K:Act→World→Prop} {Q:Exit→Act→World→Prop} {C:Prop} (hgd:o.guard=none) (sO xO:Operand)
  (ho:o.op=.call { callee:=.builtin .append,args:=#[sO,xO],argTypes:=#[85,85] })
  (v:Value) (n:Nat) (E:Nat→Nat) (D:Nat) (hs:a.eval sO=v) (h0:Nat) (hx:a.eval xO=.slice (some ⟨h0,0,none⟩) 1 1)
  (hlen:n+1≤1048576) (hown:RowE W v n E) (hc0:W.heap[h0]? =some (.cells #[ptr D] 40))
  (h:∀v' w',RowE w' v' (n+1) (upd E n D)→W.grownBy w' v.ownBlock→(v'.ownBlock=v.ownBlock∨v'.ownBlock=some W.heap.size)→K (a.put o.dst v') w'):
  if Region.wanted o (yielded ops a.tmps)=true then Oper.wp Tryz.prog o a W K Q else C:=by
 have hw:Region.wanted o (yielded ops a.tmps)=true:=by simp[Region.wanted,hgd]
 rw[if_pos hw]
 obtain⟨i0,hi,hz0,hz1,hz2⟩:=info_parts infoD
 obtain⟨v',w',hr,h2,h3,_,h5⟩:=run_append_own_at (P:=Tryz.prog) W 0 85 o.type 40 i0 (.pointer none) 1 8 Tryz.underlying85 hi hz0 hz1 hz2 rfl (by decide) v n (ptrs n E) hown ⟨h0,0,none⟩ 1 1 [ptr D] rfl (by
  intro j u hu
  rw[Addr.add_lit,Nat.zero_add]
  rcases j with _ | j
  ·rw[blk_cell hc0 (i:=0) rfl];exact hu
  ·simp at hu) (by intro u hu;rw[List.mem_singleton.1 hu];rfl) (by unfold maxLen;omega) (by omega) (Nat.zero_le _)
 unfold Oper.wp execOp
 simp only[ho,resolve,invoke,builtin,Sem.run_bind,Sem.run_pure,Result.andThen_ok,List.map_toArray,List.map_cons,List.map_nil,hs,hx,hr]
 refine h v' w' ?_ h3 h5
 unfold RowE
 rw[ptrs_push]
 exact h2
theorem step_call0 {ops:Array Oper} {o:Oper} {a:Act} {W:World} {K:Act→World→Prop} {Q:Exit→Act→World→Prop} {E:Prop} {R:Value→World→Prop} (hgd:o.guard=none) (F:FuncId)
  (ho:o.op=.call { callee:=.value (.func F),args:=#[],argTypes:=#[] }) (hcf:∀args W,(callFunc F args).run Tryz.prog W=.ok (.enter F args) W) (hC:Calls Tryz.prog F #[] W fun e w'=>∃v,e=.returned v∧R v w')
  (h:∀v w',R v w'→K (a.put o.dst v) w'):
  if Region.wanted o (yielded ops a.tmps)=true then Oper.wp Tryz.prog o a W K Q else E:=by
 have hw:Region.wanted o (yielded ops a.tmps)=true:=by simp[Region.wanted,hgd]
 rw[if_pos hw]
 have hr:(execOp a.eval o).run Tryz.prog W=.ok (.enter F #[]) W:=by
  have he:a.eval (.func F)=.func (.func F) #[] #[]:=rfl
  unfold execOp
  simp only[ho,resolve,invoke,List.map_toArray,List.map_nil,he]
  exact hcf _ _
 unfold Oper.wp
 rw[hr,Oper.upon_enter]
 refine hC.mono ?_
 rintro e w' ⟨v,rfl,hv⟩
 exact h v w' hv
theorem new_no (n:Int) (w:World) (h:n<1∨4<n):Calls Tryz.prog 7 #[.int .i64 n] w fun e w'=>e=.returned (.tuple #[.pointer none,errV 1])∧Below w.heap.size w w':=by
 rw[errV_ne (by decide)]
 by_cases h1:n<1
 ·clear h
  go_enter Tryz.func7,Tryz.ntmps7
  go_wp2_with fail
  go_ret2
  exact⟨rfl,Below.refl _ _⟩
 ·have h2:4<n:=by omega
  clear h
  go_enter Tryz.func7,Tryz.ntmps7
  go_wp2_with fail
  go_ret2
  exact⟨rfl,Below.refl _ _⟩
theorem nw_len (k:Nat):(nw k).ds.length=k:=by unfold nw;simp
theorem nw_push (k:Nat):({ nw k with ds:=(nw k).ds++[d0] }:Nt)=nw (k+1):=by
 unfold nw
 rw[List.replicate_succ']
/- so many docs so far -/
def Mk (w:World) (X k:Nat) (wr:World):Prop:=∃vd E Fd,NAt wr X vd (.slice none 0 0) (nw k) E Fd∧(∀g,Fs X vd (.slice none 0 0) k Fd g→w.heap.size≤g)∧Below w.heap.size w wr
theorem put_doc {w wr w2 W w9:World} {X k c D:Nat} {p:Option Addr} {E:Nat→Nat} {Fd:Nat→Nat→Prop} {G:Nat→Prop} {v9:Value} (m:NAt wr X (.slice p k c) (.slice none 0 0) (nw k) E Fd) (hfs:∀g,Fs X (.slice p k c) (.slice none 0 0) k Fd g→w.heap.size≤g) (hbw:Below w.heap.size w wr) (hk:k+1≤4)
  (hb2:Below wr.heap.size wr w2) (hd:DocAt w2 D d0 G) (hG:∀g,G g→wr.heap.size≤g) (hbW:Below w2.heap.size w2 W) (hr:RowE w9 v9 (k+1) (upd E k D)) (hg:W.grownBy w9 (Value.slice p k c).ownBlock) (hl:v9.ownBlock=(Value.slice p k c).ownBlock∨v9.ownBlock=some W.heap.size):
  w9.cell? ⟨X,0,none⟩=some (.slice p k c)∧w9.frozen? ⟨X,0,none⟩=false∧Mk w X (k+1) (w9.setCell ⟨X,0,none⟩ v9):=by
 have hb:Below wr.heap.size wr W:=bel hb2 hbW
 have mW:=m.below hb
 have hbk:NtB w9 X (.slice p k c) (.slice none 0 0):=(hg.block X mW.ltX (fun e=>mW.dX X e.symm rfl)).trans mW.blk
 have hc:Chg (fun g=>(Value.slice p k c).ownBlock=some g) W w9:=Chg.grown hg fun g e=>e
 have hP:=m.push (N:=nw k) hb (hd.below hbW) hG hc (by rw[nw_len];exact hr) (fun g e=>by
  rcases hl with e2 | e2
  ·left;rw[←e2];exact e
  ·right;rw[e] at e2;injection e2 with e2;omega) (by rw[nw_len];exact hk)
 rw[nw_push,nw_len] at hP
 have hX:w.heap.size≤X:=hfs X (Or.inl rfl)
 have hlow:∀g,v9.ownBlock=some g→w.heap.size≤g:=fun g e=>by
  rcases hl with e2 | e2
  ·exact hfs g (Or.inr (Or.inl (by rw[←e2];exact e)))
  ·rw[e] at e2;injection e2 with e2;have:=(bel hbw hb).size;omega
 refine⟨blk_cell hbk (i:=0) rfl,blk_free hbk (i:=0),v9,_,_,hP, ?_, ?_⟩
 ·rintro g (e | e | e | ⟨i,hi,e⟩)
  ·rw[e];exact hX
  ·exact hlow g e
  ·cases e
  ·by_cases hik:i=k
   ·subst hik;rw[upd_same] at e;have:=hG g e;have:=hbw.size;omega
   ·rw[upd_other _ _ hik] at e
    exact hfs g (Or.inr (Or.inr (Or.inr ⟨i,by omega,e⟩)))
 ·exact(hc.below (fun g e=>hfs g (Or.inr (Or.inl e))) (bel hbw hb) (bel hbw hb).size).setCell (p:=⟨X,0,none⟩) hX _
theorem Mk.below {w wr w':World} {X k:Nat} (h:Mk w X k wr) (hb:Below wr.heap.size wr w'):Mk w X k w':=by
 obtain⟨vd,E,Fd,m,hfs,hbw⟩:=h
 exact⟨vd,E,Fd,m.below hb,hfs,bel hbw hb⟩
theorem new_yes (n:Nat) (w:World) (h1:1≤n) (h4:n≤4):Calls Tryz.prog 7 #[.int .i64 n] w fun e w'=>∃X F,e=.returned (.tuple #[ptr X,.nilIface])∧At w' X (nw n) F∧(∀g,F g→w.heap.size≤g)∧Below w.heap.size w w':=by
 have z1:¬(n:Int)<1:=by omega
 have z4:¬(4:Int)<(n:Int):=by omega
 have hcf:∀args W,(callFunc 29 args).run Tryz.prog W=.ok (.enter 29 args) W:=fun _ _=>by kernel_rfl
 go_enter Tryz.func7,Tryz.ntmps7
 go_wp2_with fail
 go_loopw [15] (fun i wr=>∃k:Nat,k≤n∧i=.int .i64 k∧Hid (Mk w w.heap.size k wr)) (fun i _=>n-(intOf i).toNat)
 case atStart=>
  refine⟨0,by omega,rfl,.slice none 0 0,fun _=>0,fun _ _=>False,⟨heap_alloc_new w _,⟨rfl,Or.inl ⟨rfl,rfl⟩⟩,⟨rfl,Or.inl ⟨rfl,rfl⟩⟩,Rowd.none _ _ _ _ _,fun ⟨i,hi,_⟩=>absurd hi (Nat.not_lt_zero i),fun g hg=>by(cases hg),fun g hg=>by(cases hg),by rw[nw_len];omega,fun p hp=>by(cases hp)⟩, ?_,(Below.refl _ w).alloc (Nat.le_refl _) _⟩
  rintro g (e | e | e | ⟨i,hi,_⟩)
  ·omega
  ·cases e
  ·cases e
  ·exact absurd hi (Nat.not_lt_zero i)
 case round=>
  obtain⟨k,hk,rfl,HK⟩:=hrel
  by_cases hlt:k<n
  ·have hltz:(k:Int)<n:=by omega
   obtain⟨vd,E,Fd,m,hfs,hbw⟩:=HK.out
   obtain⟨p,c,rfl,_⟩:=m.cellD
   rw[nw_len] at m hfs
   have HM:=Hid.mk' m
   have HFS:=Hid.mk' hfs
   have HBW:=Hid.mk' hbw
   have x0:=blk_cell m.blk (i:=0) (u:=.slice p k c) rfl
   have CN:Hid (∀W,Calls Tryz.prog 29 #[] W fun e w'=>∃v,e=.returned v∧∃D F,v=ptr D∧DocAt w' D d0 F∧(∀g,F g→W.heap.size≤g)∧Below W.heap.size W w'):=fun W=>(Il.new_any W).mono fun e w' ⟨D,F,h1,h2,h3,h4⟩=>⟨_,h1,D,F,rfl,h2,h3,h4⟩
   have HR:=Hid.mk' (Below.refl wr.heap.size wr)
   have HRE:Hid (∀W,Below wr.heap.size wr W→RowE W (.slice p k c) k E):=fun W hb=>by have:=(HM.out.below hb).rd;rw[nw_len] at this;exact this
   have hk4:k+1≤4:=by omega
   clear m hfs hbw HK
   go_wp2_with fail
   go_region_law (first
    | (refine step_call0 (by rfl) 29 (by rfl) hcf (CN.out _) ?_;rintro v2 w2 ⟨D,G,rfl,hd2,hG2,hb2⟩;have HB2:Hid (Below wr.heap.size wr w2):=(by first | exact bel HR.out hb2 | exact bel HR.out.drew hb2 | exact bel HR.out.drew.drew hb2);have HD2:Hid (DocAt w2 D d0 G∧∀g,G g→wr.heap.size≤g):=⟨hd2,fun g hg=>hG2 g hg⟩;have x2:=keep_cell HB2.out x0;have x3:∀O,(w2.alloc O).cell? ⟨w.heap.size,0,none⟩=some (.slice p k c):=fun O=>keep_cell ((Below.refl _ w2).alloc (Nat.le_refl _) O) x2;clear hd2 hG2 hb2)
    | (refine step_putE (by rfl) (.tmp 21) (.tmp 23) (by rfl) (.slice p k c) k E D (by rfl) w2.heap.size (by rfl) (by omega) (by first | exact(HRE.out _ (HB2.out.alloc HB2.out.size _)) | exact(HRE.out _ (HB2.out.alloc HB2.out.size _).drew) | exact(HRE.out _ (HB2.out.alloc HB2.out.size _).drew.drew)) (heap_alloc_new w2 _) ?_;intro v9 w9 hr9 hg9 hl9;obtain⟨p9,n9,c9,rfl,_⟩:=own_shape hr9;obtain⟨q9,fq9,hm9⟩:=put_doc HM.out HFS.out HBW.out hk4 HB2.out HD2.out.1 HD2.out.2 (by first | exact(Below.refl _ w2).alloc (Nat.le_refl _) _ | exact((Below.refl _ w2).alloc (Nat.le_refl _) _).drew | exact((Below.refl _ w2).alloc (Nat.le_refl _) _).drew.drew) hr9 hg9 hl9;have HM9:=Hid.mk' hm9;clear hr9 hg9 hl9 hm9))
   all_goals
    go_wp2_with fail
    go_roundw
    case rel=>exact⟨k+1,by omega,by go_num,by first | exact HM9.out | exact HM9.out.below (Below.refl _ _).drew | exact HM9.out.below (bel_drew (Below.refl _ _) _)⟩
    case measure=>simp[intOf];omega
  ·obtain rfl:k=n:=by omega
   have hltz:¬(k:Int)<k:=by omega
   go_wp2_with fail
   go_ret2
   obtain⟨vd,E,Fd,m,hfs,hbw⟩:=HK.out
   exact⟨w.heap.size,rfl,Fs w.heap.size vd (.slice none 0 0) (nw k).ds.length Fd,⟨_,_,_,_,m,fun g=>Iff.rfl⟩,by rw[nw_len];exact hfs,hbw⟩
end Hz
end Go.Proofs.YtlmdchpbpgcfmaaGreatDoor
