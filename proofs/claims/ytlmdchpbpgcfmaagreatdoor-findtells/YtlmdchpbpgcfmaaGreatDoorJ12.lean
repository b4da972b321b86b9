import Derived.Test.YtlmdchpbpgcfmaaGreatDoorJ11
set_option linter.unusedSimpArgs false
set_option linter.unusedVariables false
set_option maxRecDepth 100000
set_option maxHeartbeats 8000000
/- What settle leaves: the places at which a join saw what is still to come. -/
namespace Go.Proofs.YtlmdchpbpgcfmaaGreatDoor
namespace Ih
open Go.ChangeShapes Go.WideShapes Go.ChangeAt Go.RowKit Cm Ka Kb Na Om Oa Oz Oc Og Oi Hm Ia Ib Ic Idc Ie If Ig
open La (bel bel_drew errV_zero errV_ne own_ge own_grow own_below Lies)
structure SetSt (w:World) (m:Mem) (S:Dq) (G:Nat→Prop) (N:Nat) (a b t:Int) (p:ByteArray) (c:Int) (vs:Value) (s:List Dt) (k:Nat) (wr:World) (M':List Ent):Prop where
 mem:DocMem wr { m with M:=M' } S G
 chg:Chg (Wr m) w wr
 own:∀g,Wr { m with M:=M' } g→Wr m g∨w.heap.size≤g
 box:wr.heap[w.heap.size]? =some (.cells #[.int .i64 a,.int .i64 b,.int .i64 t,.string p,.int .i64 c,vs] 75)
 short:∀x ∈ M',x.2.2.length≤N+k
 jn:∀d q,d≠(a,b)→(q ∈ getJ M' d↔q ∈ getJ m.M d∨(d ∈ s.take k∧Dm.hasB S.known d.1 d.2=false∧q=p))
theorem keep_heap {W W':World} {k:Nat} {o:Obj} (hb:Below W.heap.size W W') (h:W.heap[k]? =some o):W'.heap[k]? =some o:=by
 rw[hb.block k (Array.getElem?_eq_some_iff.1 h).1];exact h
theorem SetSt.below {w:World} {m:Mem} {S:Dq} {G:Nat→Prop} {N:Nat} {a b t:Int} {p:ByteArray} {c:Int} {vs:Value} {s:List Dt} {k:Nat} {wr w2:World} {M':List Ent} (h:SetSt w m S G N a b t p c vs s k wr M') (hb:Below wr.heap.size wr w2):SetSt w m S G N a b t p c vs s k w2 M':=
 ⟨h.mem.below hb,h.chg.trans (Chg.ofBelow hb _),h.own,keep_heap hb h.box,h.short,h.jn⟩
theorem mem_take_succ {s:List Dt} {k:Nat} {x d:Dt} (hk:k<s.length) (hx:x=s.getD k noneD):d ∈ s.take (k+1)↔d ∈ s.take k∨d=x:=by
 rw[List.take_add_one,List.getElem?_eq_getElem hk,List.mem_append,hx,List.getD_eq_getElem?_getD,List.getElem?_eq_getElem hk]
 simp
theorem SetSt.skip {w:World} {m:Mem} {S:Dq} {G:Nat→Prop} {N:Nat} {a b t:Int} {p:ByteArray} {c:Int} {vs:Value} {s:List Dt} {k:Nat} {wr:World} {M':List Ent} {x:Dt} (h:SetSt w m S G N a b t p c vs s k wr M') (hk:k<s.length) (hx:x=s.getD k noneD) (hs:Dm.hasB S.known x.1 x.2=true∨isIn (getJ M' x) p=true):SetSt w m S G N a b t p c vs s (k+1) wr M':=by
 refine⟨h.mem,h.chg,h.own,h.box,fun y hy=>Nat.le_trans (h.short y hy) (by omega),fun d q hd=> ?_⟩
 rw[h.jn d q hd,mem_take_succ hk hx]
 constructor
 ·rintro(e | ⟨e1,e2⟩)
  ·exact Or.inl e
  ·exact Or.inr ⟨Or.inl e1,e2⟩
 ·rintro(e | ⟨e1 | e1,e2,e3⟩)
  ·exact Or.inl e
  ·exact Or.inr ⟨e1,e2,e3⟩
  ·subst e1
   rcases hs with hs | hs
   ·rw[hs] at e2;cases e2
   ·rw[e3];exact(h.jn d p hd).1 (isIn_iff.1 hs)
theorem SetSt.put {w:World} {m:Mem} {S:Dq} {G:Nat→Prop} {N:Nat} {a b t:Int} {p:ByteArray} {c:Int} {vs:Value} {s:List Dt} {k:Nat} {wr w2:World} {M':List Ent} {x:Dt} {v':Value} (h:SetSt w m S G N a b t p c vs s k wr M') (hk:k<s.length) (hx:x=s.getD k noneD) (hs:Dm.hasB S.known x.1 x.2=false) 
  (hm:MapAt w2 m.B (putM x v' (getJ M' x++[p]) M')) (hr:RowS w2 v' (getJ M' x++[p])) (hc:Chg (fun g=>g=m.B∨(getV M' x).ownBlock=some g) wr w2) (hv:∀g,v'.ownBlock=some g→(getV M' x).ownBlock=some g∨wr.heap.size≤g):
  SetSt w m S G N a b t p c vs s (k+1) w2 (putM x v' (getJ M' x++[p]) M'):=by
 obtain⟨r1,r2,r3⟩:=put_memd (m:={ m with M:=M' }) h.mem hm hr hc hv
 have hz:w.heap.size≤wr.heap.size:=h.chg.size
 have hbox:¬(w.heap.size=m.B∨(getV M' x).ownBlock=some w.heap.size):=by
  rintro(e | e)
  ·obtain⟨es,clock,hb,_⟩:=h.mem.map
   have hb2:wr.heap[m.B]? =some (.map es clock):=hb
   rw[←e,h.box] at hb2;cases hb2
  ·rcases get_mem x M' with⟨e0,_⟩ | ⟨z,hz,e0,_⟩
   ·rw[e0] at e;cases e
   ·rw[←e0] at e
    obtain⟨_,cur,hcc⟩:=own_lt (h.mem.rows z hz) _ e
    rw[h.box] at hcc
    injection hcc with hcc
    injection hcc with _ hcc _
    exact absurd hcc (by decide)
 refine⟨r1,h.chg.next r2 h.own,fun g hg=> ?_, ?_,fun y hy=> ?_,fun d q hd=> ?_⟩
 ·rcases r3 g hg with e | e
  ·exact h.own g e
  ·exact Or.inr (by omega)
 ·rw[hc.block _ (Array.getElem?_eq_some_iff.1 h.box).1 hbox];exact h.box
 ·rcases put_mem hy with rfl | hy
  ·have:=short_get h.short x
   simp only[List.length_append,List.length_singleton]
   omega
  ·exact Nat.le_trans (h.short y hy) (by omega)
 ·rw[getJ_put,mem_take_succ hk hx]
  by_cases e:d=x
  ·rw[if_pos e,List.mem_append,List.mem_singleton,←e,h.jn d q hd]
   rw[←e] at hs
   constructor
   ·rintro((e1 | ⟨e1,e2⟩) | e1)
    ·exact Or.inl e1
    ·exact Or.inr ⟨Or.inl e1,e2⟩
    ·exact Or.inr ⟨Or.inr rfl,hs,e1⟩
   ·rintro(e1 | ⟨_,_,e3⟩)
    ·exact Or.inl (Or.inl e1)
    ·exact Or.inr e3
  ·rw[if_neg e,h.jn d q hd]
   constructor
   ·rintro(e1 | ⟨e1,e2⟩)
    ·exact Or.inl e1
    ·exact Or.inr ⟨Or.inl e1,e2⟩
   ·rintro(e1 | ⟨e1 | e1,e2⟩)
    ·exact Or.inl e1
    ·exact Or.inr ⟨e1,e2⟩
    ·exact absurd e1 e
theorem settle_any (m:Mem) (S:Dq) (G:Nat→Prop) (N:Nat) (a b t:Int) (p:ByteArray) (c:Int) (vs:Value) (s:List Dt) (w:World) (h:DocMem w m S G) (hN:N+41≤1048576) (hsh:∀x ∈ m.M,x.2.2.length≤N) (hd:DtsAt w vs s) (hoff:In (fun g=>¬Wr m g) vs) (hs:s.length≤40):
  Calls Tryz.prog 69 #[.pointer (some ⟨m.D,0,none⟩),.agg #[.int .i64 a,.int .i64 b,.int .i64 t,.string p,.int .i64 c,vs]] w fun e w'=>e=.returned (.tuple #[])∧∃M',SetSt w m S G N a b t p c vs s s.length w' M':=by
 have d4:=blk_cell h.blk (i:=4) (u:=.map (some m.B)) rfl
 have HB1:Hid (Below w.heap.size w (w.alloc (.cells #[.int .i64 a,.int .i64 b,.int .i64 t,.string p,.int .i64 c,vs] 75))):=(Below.refl _ w).alloc (Nat.le_refl _) _
 have HMA:Hid (∀W,Below w.heap.size w W→MapAt W m.B m.M):=fun W hb=>MapAt.below h.map hb
 have HDR:Hid (∀W w',Below w.heap.size w W→W.heap[w.heap.size]? =some (.cells #[.int .i64 a,.int .i64 b,.int .i64 t,.string p,.int .i64 c,vs] 75)→MapAt w' m.B (delM (a,b) m.M)→W.grownBy w' (some m.B)→SetSt w m S G N a b t p c vs s 0 w' (delM (a,b) m.M)):=by
  intro W w' hb hbx hm hg
  obtain⟨r1,r2,r3⟩:=drop_mem (h.below hb) hm hg
  have hne:w.heap.size≠m.B:=fun e=>by have:=MapAt.lt h.map;omega
  refine⟨r1,(Chg.ofBelow hb _).trans (r2.mono fun g e=>Or.inr (Or.inl e)),fun g hgg=>Or.inl (r3 g hgg), ?_,fun x hx=>hsh x ((del_sub _ _).subset hx),fun d q hdd=> ?_⟩
  ·rw[hg.block _ (Array.getElem?_eq_some_iff.1 hbx).1 (fun e=>hne (by injection e))];exact hbx
  ·rw[getJ_del _ _ hdd];simp
 have HDS:Hid (∀W,Chg (Wr m) w W→DtsAt W vs s):=fun W hc=>dots_stay hd (G:=fun g=>g<w.heap.size∧¬Wr m g) (fun x n cc e hn=>⟨by
   obtain⟨q,c2,hv,hin,_⟩:=hd
   rw[e] at hv
   injection hv with e1 e2 e3
   rcases hin with e0 | ⟨bb,oo,hp,hcs⟩
   ·rw[e0] at e2;simp at e2;omega
   ·rw[hp] at e1;injection e1 with e1;rw[e1];exact(hcs 0 (by omega)).lt,hoff x n cc e hn⟩) (hc.stay fun g hg=>hg)
 obtain⟨D,hD⟩:∃D,D=m.D:=⟨_,rfl⟩
 obtain⟨B,hB⟩:∃B,B=m.B:=⟨_,rfl⟩
 have HD:=z9 hD
 have HBB:=z9 hB
 obtain⟨pv,nv,cv,hvs⟩:∃p n c,vs=.slice p n c:=by obtain⟨p,c,e,_⟩:=hd;exact⟨_,_,_,e⟩
 have HVN:Hid (s.length=nv):=by obtain⟨p,c,e,_⟩:=hd;rw[hvs] at e;injection e with _ e _;exact e.symm
 rw[←hB,←hD] at d4
 rw[←hB] at HMA HDR
 rw[←hD]
 rw[hvs] at HDS
 have e4:=keep_cell HB1.out d4
 obtain⟨o0,o1,o2,o3,o4,o5⟩:=six_new w a b t p c vs 75
 have HBX:Hid ((w.alloc (.cells #[.int .i64 a,.int .i64 b,.int .i64 t,.string p,.int .i64 c,vs] 75)).heap[w.heap.size]? =some (.cells #[.int .i64 a,.int .i64 b,.int .i64 t,.string p,.int .i64 c,vs] 75)):=heap_alloc_new w _
 have HS:=z9 hs
 have HN:=z9 hN
 have hnv:nv≤40:=by rw[←HVN.out];exact hs
 have hnvz:(nv:Int)≤40:=by omega
 have HVS:=z9 hvs
 rw[hvs] at o0 o1 o2 o3 o4 o5 HBX HB1 e4 HDR
 rw[hvs]
 clear h hsh hd hoff hs hD hB hvs hN d4
 go_enter Tryz.func69,Tryz.ntmps69
 go_wp2_with fail
 go_region_law (first
  | (refine step_drop (by rfl) (.tmp 9) (.tmp 11) (by rfl) (by rfl) (HMA.out _ HB1.out.drew) a b (by rfl) ?_;intro w2 hm2 hg2;have HS2:Hid (SetSt w m S G N a b t p c (.slice pv nv cv) s 0 w2 (delM (a,b) m.M)):=HDR.out _ w2 HB1.out.drew HBX.out hm2 hg2;have q5:=blk_cell HS2.out.box (i:=5) (u:=.slice pv nv cv) rfl))
 all_goals
  clear hm2 hg2 o0 o1 o2 o3 o4 o5 e4
  go_wp2_with fail
  clear HMA HDR HB1 HBX q5
  go_loopw [15] (fun vi wr=>∃(k:Nat) (M':List Ent),k≤nv∧vi=.int .i64 k∧Hid (SetSt w m S G N a b t p c (.slice pv nv cv) s k wr M')) (fun vi _=>nv-(intOf vi).toNat)
  case atStart=>exact⟨0,_,by omega,rfl,HS2⟩
  case round=>
   clear HS2
   obtain⟨k,M',hk,rfl,HST⟩:=hrel
   by_cases hlt:k<nv
   ·have hltz:(k:Int)<nv:=by omega
    have hkl:k<s.length:=by rw[HVN.out];exact hlt
    obtain⟨qd,cd,hvd,hin,_⟩:=HDS.out wr HST.out.chg
    injection hvd with v1 v2 v3
    subst v1
    clear v2 v3
    obtain⟨bs,os,rfl,hcs⟩:=hin.some (by intro e;rw[e] at hkl;simp at hkl)
    obtain⟨x,hx⟩:∃x,x=s.getD k noneD:=⟨_,rfl⟩
    obtain⟨u1,u2⟩:=hcs k hkl
    rw[←hx] at u1 u2
    have HX:=z9 hx
    have HKL:=z9 hkl
    obtain⟨x1,x2⟩:=x
    simp only at u1 u2
    have HBA:Hid (Below wr.heap.size wr (wr.alloc (.cells #[.int .i64 x1,.int .i64 x2] 72))):=(Below.refl _ wr).alloc (Nat.le_refl _) _
    have CK:Hid (∀W,Below wr.heap.size wr W→Calls Tryz.prog 111 #[.pointer (some ⟨D,0,none⟩),.agg #[.int .i64 x1,.int .i64 x2]] W fun e w'=>e=.returned (.bool (Dm.hasB S.known x1 x2))∧Below W.heap.size W w'):=fun W hb=>by
     rw[HD.out];exact knows_any { m with M:=M' } S G x1 x2 W (HST.out.mem.below hb)
    have hma:MapAt wr B M':=by rw[HBB.out];exact HST.out.mem.map
    obtain⟨es,clock,hes,hes2⟩:=hma
    have hlk:∀W,W.heap[B]? =some (.map es clock)→(Instr.lookup 107 (.map (some B)) (.agg #[.int .i64 x1,.int .i64 x2]) false).run Tryz.prog W=.ok (getV M' (x1,x2)) W:=fun W hW=>lookup_run ⟨es,clock,hW,hes2⟩ x1 x2
    have hrow:=row_get HST.out.mem.rows (x1,x2)
    have CN:Hid (∀W,Below wr.heap.size wr W→Calls Tryz.prog 114 #[getV M' (x1,x2),.string p] W fun e w'=>e=.returned (.bool (isIn (getJ M' (x1,x2)) p))∧w'=W):=fun W hb=>
     contains_any _ _ p W (RowS.below hrow hb) (Nat.le_trans (short_get HST.out.short (x1,x2)) (by have:=HN.out;omega))
    have HROW:=z9 hrow
    have HME:Hid (MapAt wr B M'):=⟨es,clock,hes,hes2⟩
    obtain⟨pr,cr,hvr,_⟩:=row_txts hrow
    obtain⟨nr,hnr⟩:∃nr,nr=(getJ M' (x1,x2)).length:=⟨_,rfl⟩
    rw[←hnr] at hvr
    have HVR:=z9 hvr
    rw[hvr] at hlk CN
    have y0:=keep_cell HBA.out (blk_cell HST.out.mem.blk (i:=4) (u:=.map (some m.B)) rfl)
    rw[show({ m with M:=M' }:Mem).D=D from HD.out.symm,←HBB.out] at y0
    have y3:=keep_cell HBA.out (blk_cell HST.out.box (i:=3) (u:=.string p) rfl)
    have y5:=keep_heap HBA.out hes
    obtain⟨z0,z1⟩:=Nj.new_cellD (x:=(x1,x2)) (Below.refl _ (wr.alloc (.cells #[.int .i64 x1,.int .i64 x2] 72)))
    simp only at z0 z1
    clear hcs hx hkl hin hes hes2 hrow hvr hnr
    cases hhas:Dm.hasB S.known x1 x2
    ·rw[hhas] at CK
     have HHAS:=z9 hhas
     clear hhas
     cases hisin:isIn (getJ M' (x1,x2)) p
     ·rw[hisin] at CN
      clear hisin
      go_wp2_with fail
      go_region_held3 (fun W=>W.cell? ⟨wr.heap.size,0,none⟩=some (.int .i64 x1)∧W.cell? ⟨wr.heap.size,1,none⟩=some (.int .i64 x2)∧W.cell? ⟨D,4,none⟩=some (.map (some B))∧W.cell? ⟨w.heap.size,3,none⟩=some (.string p)∧W.heap[B]? =some (.map es clock)) (first | exact⟨z0,z1,y0,y3,y5⟩ | (go_split_ands;assumption) | (refine⟨keep_cell hb7 ?_,keep_cell hb7 ?_,keep_cell hb7 ?_,keep_cell hb7 ?_,keep_heap hb7 ?_⟩<;>(go_split_ands;assumption))) (first
       | (go_at_call 111;refine(CK.out _ HBA.out.drew).mono ?_;rintro e w7 ⟨rfl,hb7⟩;have HB7:=z9 (bel HBA.out.drew hb7))
       | (go_at_call 114;refine(CN.out _ HB7.out).mono ?_;rintro e w8 ⟨rfl,hw⟩;have hw2:=hw.symm;subst hw2;clear hw))
      all_goals
       have i0:=keep_cell (p:=⟨wr.heap.size,0,none⟩) hb7 z0
       have i1:=keep_cell (p:=⟨wr.heap.size,1,none⟩) hb7 z1
       have i3:=keep_cell (p:=⟨w.heap.size,3,none⟩) hb7 y3
       have i4:=keep_cell (p:=⟨D,4,none⟩) hb7 y0
       have HBN:Below w7.heap.size w7 (w7.alloc (.cells #[.string p] 9)):=(Below.refl _ w7).alloc (Nat.le_refl _) _
       have j0:=keep_cell HBN i0
       have j1:=keep_cell HBN i1
       have j3:=keep_cell HBN i3
       have j4:=keep_cell HBN i4
       clear HBN
       have HBW:Hid (Below wr.heap.size wr ((w7.alloc (.cells #[.string p] 9)).drew)):=(HB7.out.alloc HB7.out.size _).drew
       obtain⟨st,w5,hme,hent,hg5⟩:=entry_run (MapAt.below HME.out HBW.out) x1 x2
       have HENT:=z9 hent
       have HG5:=z9 hg5
       rw[HVR.out] at hme
       have HC5:Hid (w5.cell? ⟨w7.heap.size,0,none⟩=some (.string p)):=by
        have h9:((w7.alloc (.cells #[.string p] 9)).drew).heap[w7.heap.size]? =some (.cells #[.string p] 9):=heap_alloc_new w7 _
        exact blk_cell ((hg5.block _ (Array.getElem?_eq_some_iff.1 h9).1 (fun e=>by have:=MapAt.lt HME.out;have:=HB7.out.size;injection e with e;omega)).trans h9) rfl
       have HR5:Hid (RowS w5 (.slice pr nr cr) (getJ M' (x1,x2))):=by
        unfold Hid
        rw[←HVR.out]
        refine own_stay (RowS.below HROW.out HBW.out) fun g hg=>hg5.block g (own_lt (RowS.below HROW.out HBW.out) g hg).1 fun e=> ?_
        injection e with e
        obtain⟨_,cur,hc⟩:=own_lt HROW.out g hg
        obtain⟨es9,clock9,hb9,_⟩:=HME.out
        rw[e,hb9] at hc;cases hc
       clear hent hg5 hlk z0 z1 y0 y3 y5 hb7 CK CN u1 u2
       go_wp2_with fail
       go_region_law (first
        | (refine step_putS (by rfl) (.tmp 40) (.tmp 43) (by rfl) (.slice pr nr cr) (getJ M' (x1,x2)) p (by rfl) w7.heap.size (by rfl) (by have:=short_get HST.out.short (x1,x2);have:=HN.out;have:=HKL.out;have:=HS.out;omega) HR5.out HC5.out ?_;intro v9 w9 hr9 hg9 hl9;obtain⟨p9,n9,c9,rfl,_⟩:=own_shape hr9;have HR9:=z9 hr9;have HG9:=z9 hg9;have HL9:=z9 hl9;obtain⟨w10,hst,hm10,hg10⟩:=store_run (EntAt.stay HENT.out (hg9.block B (by obtain⟨es9,clock9,i9,u9,hb9,_⟩:=HENT.out;exact(Array.getElem?_eq_some_iff.1 hb9).1) (fun e=>by obtain⟨es9,clock9,i9,u9,hb9,_⟩:=HENT.out;obtain⟨_,cur,hc⟩:=own_lt HR5.out B e.symm;rw[hb9] at hc;cases hc))) (.slice p9 n9 c9) (getJ M' (x1,x2)++[p]);have HM10:=z9 hm10;have HG10:=z9 hg10;clear hr9 hg9 hl9 hm10 hg10))
       all_goals
        have HN10:Hid (SetSt w m S G N a b t p c (.slice (some ⟨bs,os,none⟩) nv cv) s (k+1) w10 (putM (x1,x2) (.slice p9 n9 c9) (getJ M' (x1,x2)++[p]) M')):=by
         have hne:∀g,(Value.slice p9 n9 c9).ownBlock=some g→g≠B:=fun g hg e=>by
          obtain⟨_,cur,hc⟩:=own_lt HR9.out g hg
          have h9:=HG9.out.block B (by obtain⟨es9,clock9,i9,u9,hb9,_⟩:=HENT.out;exact(Array.getElem?_eq_some_iff.1 hb9).1) (fun e=>by obtain⟨es9,clock9,i9,u9,hb9,_⟩:=HENT.out;obtain⟨_,cur,hc⟩:=own_lt HR5.out B e.symm;rw[hb9] at hc;cases hc)
          obtain⟨es9,clock9,i9,u9,hb9,_⟩:=HENT.out
          rw[e,h9,hb9] at hc;cases hc
         refine SetSt.put HST.out HKL.out HX.out HHAS.out ?_ ?_ ?_ ?_
         ·have:=HM10.out
          rw[put_put,HBB.out] at this;exact this
         ·exact own_stay HR9.out fun g hg=>HG10.out.block g (own_lt HR9.out g hg).1 fun e=>hne g hg (by injection e)
         ·rw[HVR.out,←HBB.out]
          have c1:Chg (fun g=>g=B∨(Value.slice pr nr cr).ownBlock=some g) wr w5:=(Chg.ofBelow HBW.out _).trans (Chg.grown HG5.out fun g e=>Or.inl (by injection e with e;exact e.symm))
          have c2:Chg (fun g=>g=B∨(Value.slice pr nr cr).ownBlock=some g) w5 w9:=Chg.grown HG9.out fun g e=>Or.inr e
          have c3:Chg (fun g=>g=B∨(Value.slice pr nr cr).ownBlock=some g) w9 w10:=Chg.grown HG10.out fun g e=>Or.inl (by injection e with e;exact e.symm)
          exact(c1.trans c2).trans c3
         ·intro g hg
          rw[HVR.out]
          rcases HL9.out with e | e
          ·exact Or.inl (by rw[←e];exact hg)
          ·rw[hg] at e
           injection e with e
           have q1:=HG5.out.size
           have q2:=HBW.out.size
           exact Or.inr (by omega)
        clear hst
        go_wp2_with fail
        go_roundw
        case rel=>exact⟨k+1,_,by omega,by go_num,HN10⟩
        case measure=>simp[intOf];omega
     ·have HIS:=z9 hisin
      rw[hisin] at CN
      clear hisin
      go_wp2_with fail
      go_region_held3 (fun W=>W.cell? ⟨wr.heap.size,0,none⟩=some (.int .i64 x1)∧W.cell? ⟨wr.heap.size,1,none⟩=some (.int .i64 x2)∧W.cell? ⟨D,4,none⟩=some (.map (some B))∧W.cell? ⟨w.heap.size,3,none⟩=some (.string p)∧W.heap[B]? =some (.map es clock)) (first | exact⟨z0,z1,y0,y3,y5⟩ | (go_split_ands;assumption) | (refine⟨keep_cell hb7 ?_,keep_cell hb7 ?_,keep_cell hb7 ?_,keep_cell hb7 ?_,keep_heap hb7 ?_⟩<;>(go_split_ands;assumption))) (first
       | (go_at_call 111;refine(CK.out _ HBA.out.drew).mono ?_;rintro e w7 ⟨rfl,hb7⟩;have HB7:=z9 (bel HBA.out.drew hb7))
       | (go_at_call 114;refine(CN.out _ HB7.out).mono ?_;rintro e w8 ⟨rfl,hw⟩;have hw2:=hw.symm;subst hw2;clear hw))
      all_goals
       have HN7:=z9 (SetSt.skip (HST.out.below HB7.out) HKL.out HX.out (Or.inr HIS.out))
       clear hb7 CK CN hlk z0 z1 y0 y3 y5
       go_wp2_with fail
       go_roundw
       case rel=>exact⟨k+1,_,by omega,by go_num,HN7⟩
       case measure=>simp[intOf];omega
    ·have HHAS:=z9 hhas
     rw[hhas] at CK
     clear hhas
     go_wp2_with fail
     refine wp_region_held_drew (S:=fun W=>W.cell? ⟨wr.heap.size,0,none⟩=some (.int .i64 x1)∧W.cell? ⟨wr.heap.size,1,none⟩=some (.int .i64 x2)) (by kernel_rfl) ⟨z0,z1⟩ (fun hS0=> ?_)
     refine wpAnyH_take (i:=0) (oi:={ dst:=some 19,op:=Op.move (Operand.tmp 0),type:=40,pos:= "doc.go:137",after:=#[],guard:=none }) (v:=.pointer (some ⟨D,0,none⟩)) rfl (by kernel_rfl) (by kernel_rfl) (by kernel_rfl) (fun _ _ _ h=>h) (Or.inl ⟨by rfl,by(intro W hW;obtain⟨g0,g1⟩:=hW;go_simp)⟩) hS0 ?_
     try simp only[Act.put,List.setIfInBounds_toArray,List.set_cons_zero,List.set_cons_succ]
     refine wpAnyH_take (i:=1) (oi:={ dst:=some 20,op:=Op.load 72 (Operand.tmp 5),type:=72,pos:= "doc.go:137",after:=#[],guard:=none }) (v:=.agg #[.int .i64 x1,.int .i64 x2]) rfl (by kernel_rfl) (by kernel_rfl) (by kernel_rfl) (fun _ _ _ h=>h) (Or.inl ⟨by rfl,by(intro W hW;obtain⟨g0,g1⟩:=hW;go_simp)⟩) hS0 ?_
     try simp only[Act.put,List.setIfInBounds_toArray,List.set_cons_zero,List.set_cons_succ]
     refine wpAnyH_ready (rs:=[2]) (by kernel_rfl) (by simp) ?_
     refine AllReadyH.cons (o:={ dst:=some 21,op:=Op.call { callee:=Callee.value (Operand.func 111),args:=#[Operand.tmp 19,Operand.tmp 20],argTypes:=#[40,72] },type:=4,pos:= "doc.go:137",after:=#[{ on:=0,ground:=Ground.data },{ on:=1,ground:=Ground.data }],guard:=none }) rfl (fun K hK=> ?_) AllReadyH.nil
     refine step_call2 (R:=fun v w'=>v=.bool true∧Below ((wr.alloc (.cells #[.int .i64 x1,.int .i64 x2] 72)).drew).heap.size ((wr.alloc (.cells #[.int .i64 x1,.int .i64 x2] 72)).drew) w') rfl 111 (.tmp 19) (.tmp 20) _ _ rfl (.pointer (some ⟨D,0,none⟩)) (.agg #[.int .i64 x1,.int .i64 x2]) rfl rfl enter_knows ((CK.out _ HBA.out.drew).mono fun e w' h9=>⟨_,h9.1,rfl,h9.2⟩) ?_
     rintro v7 w7 ⟨rfl,hb7⟩
     have HB7:=z9 (bel HBA.out.drew hb7)
     refine hK _ _ ⟨keep_cell hb7 z0,keep_cell hb7 z1⟩ (fun hS1=> ?_)
     try simp only[Act.put,List.setIfInBounds_toArray,List.set_cons_zero,List.set_cons_succ]
     refine wpAnyH_take (i:=3) (oi:={ dst:=some 22,op:=Op.unOp UnOp.not 4 (Operand.tmp 21),type:=4,pos:= "doc.go:137",after:=#[{ on:=2,ground:=Ground.data }],guard:=none }) (v:=.bool false) rfl (by kernel_rfl) (by kernel_rfl) (by kernel_rfl) (fun _ _ _ h=>h) (Or.inl ⟨by rfl,by(intro W hW;obtain⟨g0,g1⟩:=hW;go_simp)⟩) hS1 ?_
     try simp only[Act.put,List.setIfInBounds_toArray,List.set_cons_zero,List.set_cons_succ]
     refine wpAnyH_take (i:=4) (oi:={ dst:=some 23,op:=Op.move (Operand.tmp 22),type:=4,pos:= "doc.go:137",after:=#[{ on:=3,ground:=Ground.data },{ on:=2,ground:=Ground.chain }],guard:=none }) (v:=.bool false) rfl (by kernel_rfl) (by kernel_rfl) (by kernel_rfl) (fun _ _ _ h=>h) (Or.inl ⟨by rfl,by(intro W hW;obtain⟨g0,g1⟩:=hW;go_simp)⟩) hS1 ?_
     try simp only[Act.put,List.setIfInBounds_toArray,List.set_cons_zero,List.set_cons_succ]
     refine wpAnyH_take (i:=5) (oi:={ dst:=some 24,op:=Op.move (Operand.tmp 0),type:=40,pos:= "doc.go:137",after:=#[{ on:=4,ground:=Ground.guard }],guard:=some (4,true) }) (v:=undef) rfl (by kernel_rfl) (by kernel_rfl) (by kernel_rfl) (fun _ _ _ h=>h) (Or.inr ⟨by rfl,rfl⟩) hS1 ?_
     try simp only[Act.put,List.setIfInBounds_toArray,List.set_cons_zero,List.set_cons_succ]
     refine wpAnyH_take (i:=6) (oi:={ dst:=some 25,op:=Op.nilCheck (Operand.tmp 24),type:=0,pos:= "doc.go:137",after:=#[{ on:=5,ground:=Ground.data },{ on:=4,ground:=Ground.guard }],guard:=some (4,true) }) (v:=undef) rfl (by kernel_rfl) (by kernel_rfl) (by kernel_rfl) (fun _ _ _ h=>h) (Or.inr ⟨by rfl,rfl⟩) hS1 ?_
     try simp only[Act.put,List.setIfInBounds_toArray,List.set_cons_zero,List.set_cons_succ]
     refine wpAnyH_take (i:=7) (oi:={ dst:=some 26,op:=Op.fieldAddr 109 (Operand.tmp 25) 2,type:=0,pos:= "doc.go:137",after:=#[{ on:=6,ground:=Ground.data },{ on:=4,ground:=Ground.guard }],guard:=some (4,true) }) (v:=undef) rfl (by kernel_rfl) (by kernel_rfl) (by kernel_rfl) (fun _ _ _ h=>h) (Or.inr ⟨by rfl,rfl⟩) hS1 ?_
     try simp only[Act.put,List.setIfInBounds_toArray,List.set_cons_zero,List.set_cons_succ]
     refine wpAnyH_take (i:=8) (oi:={ dst:=some 27,op:=Op.load 107 (Operand.tmp 26),type:=107,pos:= "doc.go:137",after:=#[{ on:=7,ground:=Ground.data },{ on:=4,ground:=Ground.guard }],guard:=some (4,true) }) (v:=undef) rfl (by kernel_rfl) (by kernel_rfl) (by kernel_rfl) (fun _ _ _ h=>h) (Or.inr ⟨by rfl,rfl⟩) hS1 ?_
     try simp only[Act.put,List.setIfInBounds_toArray,List.set_cons_zero,List.set_cons_succ]
     refine wpAnyH_take (i:=9) (oi:={ dst:=some 28,op:=Op.load 72 (Operand.tmp 5),type:=72,pos:= "doc.go:137",after:=#[{ on:=4,ground:=Ground.guard }],guard:=some (4,true) }) (v:=undef) rfl (by kernel_rfl) (by kernel_rfl) (by kernel_rfl) (fun _ _ _ h=>h) (Or.inr ⟨by rfl,rfl⟩) hS1 ?_
     try simp only[Act.put,List.setIfInBounds_toArray,List.set_cons_zero,List.set_cons_succ]
     refine wpAnyH_take (i:=10) (oi:={ dst:=some 29,op:=Op.lookup 107 (Operand.tmp 27) (Operand.tmp 28) false,type:=35,pos:= "doc.go:137",after:=#[{ on:=8,ground:=Ground.data },{ on:=9,ground:=Ground.data },{ on:=4,ground:=Ground.guard }],guard:=some (4,true) }) (v:=undef) rfl (by kernel_rfl) (by kernel_rfl) (by kernel_rfl) (fun _ _ _ h=>h) (Or.inr ⟨by rfl,rfl⟩) hS1 ?_
     try simp only[Act.put,List.setIfInBounds_toArray,List.set_cons_zero,List.set_cons_succ]
     refine wpAnyH_take (i:=11) (oi:={ dst:=some 30,op:=Op.fieldAddr 75 (Operand.tmp 3) 2,type:=0,pos:= "doc.go:137",after:=#[{ on:=4,ground:=Ground.guard }],guard:=some (4,true) }) (v:=undef) rfl (by kernel_rfl) (by kernel_rfl) (by kernel_rfl) (fun _ _ _ h=>h) (Or.inr ⟨by rfl,rfl⟩) hS1 ?_
     try simp only[Act.put,List.setIfInBounds_toArray,List.set_cons_zero,List.set_cons_succ]
     refine wpAnyH_take (i:=12) (oi:={ dst:=some 31,op:=Op.load 9 (Operand.tmp 30),type:=9,pos:= "doc.go:137",after:=#[{ on:=11,ground:=Ground.data },{ on:=4,ground:=Ground.guard }],guard:=some (4,true) }) (v:=undef) rfl (by kernel_rfl) (by kernel_rfl) (by kernel_rfl) (fun _ _ _ h=>h) (Or.inr ⟨by rfl,rfl⟩) hS1 ?_
     try simp only[Act.put,List.setIfInBounds_toArray,List.set_cons_zero,List.set_cons_succ]
     refine wpAnyH_take (i:=13) (oi:={ dst:=some 32,op:=Op.call { callee:=Callee.value (Operand.func 114),args:=#[Operand.tmp 29,Operand.tmp 31],argTypes:=#[35,9] },type:=4,pos:= "doc.go:137",after:=#[{ on:=10,ground:=Ground.data },{ on:=12,ground:=Ground.data },{ on:=4,ground:=Ground.chain },{ on:=4,ground:=Ground.guard }],guard:=some (4,true) }) (v:=undef) rfl (by kernel_rfl) (by kernel_rfl) (by kernel_rfl) (fun _ _ _ h=>h) (Or.inr ⟨by rfl,rfl⟩) hS1 ?_
     try simp only[Act.put,List.setIfInBounds_toArray,List.set_cons_zero,List.set_cons_succ]
     refine wpAnyH_take (i:=14) (oi:={ dst:=some 33,op:=Op.unOp UnOp.not 4 (Operand.tmp 32),type:=4,pos:= "doc.go:137",after:=#[{ on:=13,ground:=Ground.data },{ on:=4,ground:=Ground.guard }],guard:=some (4,true) }) (v:=undef) rfl (by kernel_rfl) (by kernel_rfl) (by kernel_rfl) (fun _ _ _ h=>h) (Or.inr ⟨by rfl,rfl⟩) hS1 ?_
     try simp only[Act.put,List.setIfInBounds_toArray,List.set_cons_zero,List.set_cons_succ]
     refine wpAnyH_take (i:=15) (oi:={ dst:=some 34,op:=Op.pick (Operand.tmp 23) (Operand.tmp 33) (Operand.const (Value.bool false)),type:=4,pos:= "doc.go:137",after:=#[{ on:=4,ground:=Ground.data },{ on:=14,ground:=Ground.data }],guard:=none }) (v:=.bool false) rfl (by kernel_rfl) (by kernel_rfl) (by kernel_rfl) (fun _ _ _ h=>h) (Or.inl ⟨by rfl,by(intro W hW;obtain⟨g0,g1⟩:=hW;go_simp)⟩) hS1 ?_
     try simp only[Act.put,List.setIfInBounds_toArray,List.set_cons_zero,List.set_cons_succ]
     refine wpAnyH_done (by kernel_rfl) ?_ _
     all_goals
      have HN7:=z9 (SetSt.skip (HST.out.below HB7.out) HKL.out HX.out (Or.inl HHAS.out))
      clear hb7 CK CN hlk z0 z1 y0 y3 y5
      go_wp2_with fail
      go_roundw
      case rel=>exact⟨k+1,_,by omega,by go_num,HN7⟩
      case measure=>simp[intOf];omega
   ·obtain rfl:k=nv:=by omega
    have hltz:¬(k:Int)<k:=by omega
    go_wp2_with fail
    go_end0
    exact⟨rfl,M',by rw[HVN.out];exact HST.out⟩
end Ih
end Go.Proofs.YtlmdchpbpgcfmaaGreatDoor
/- What Apply stands on: what is known, the ops with one more, the doc behind it. -/
namespace Go.Proofs.YtlmdchpbpgcfmaaGreatDoor
namespace Ii
open Go.ChangeShapes Go.WideShapes Go.ChangeAt Go.RowKit Cm Ka Kb Na Om Oa Oz Oc Og Oi Hm Ia Ib Ic Idc Ie If Ig Ih
open La (bel bel_drew errV_zero errV_ne own_ge own_grow own_below Lies)
theorem vec_ok {S:Dq} (I:Inv S):Dm.vecE S.known=0:=by
 refine Dm.vecE_zero.2 ⟨I.klen,fun x hx=> ?_⟩
 obtain⟨i,hi,e⟩:=List.mem_iff_getElem.1 hx
 have h8:i<8:=by rw[←I.klen];exact hi
 have h1:=I.kno ((i:Int)+1) (by omega) (by omega)
 unfold kn at h1
 rw[show((i:Int)+1-1).toNat=i by omega,List.getD_eq_getElem?_getD,List.getElem?_eq_getElem hi] at h1
 simp only[Option.getD_some] at h1
 rw[e] at h1
 have h2:=List.length_filter_le (fun o:Ox=>decide (o.1.1=(i:Int)+1)) S.ops
 have h3:=I.few
 omega
theorem has_eq {S:Dq} (I:Inv S) {a b:Int} (hd:dotE a b=0):Dm.hasB S.known a b=decide (b≤kn S a):=by
 have hw:Dm.withE S.known a b=0:=by unfold Dm.withE;rw[if_pos (vec_ok I)];exact hd
 unfold Dm.hasB
 rw[hw,decide_eq_true rfl,Bool.true_and];rfl
theorem add_eq {S:Dq} (I:Inv S) {a b:Int} (hd:dotE a b=0) (hk:¬b≤kn S a):Dm.addE S.known a b=if kn S a+1<b then 6 else 0:=by
 have hw:Dm.withE S.known a b=0:=by unfold Dm.withE;rw[if_pos (vec_ok I)];exact hd
 unfold Dm.addE
 rw[hw,if_neg (by decide),if_neg (show¬b≤Dm.known S.known a from hk)];rfl
/- known's row is another one -/
theorem set_known {w:World} {m:Mem} {S:Dq} {G:Nat→Prop} {vk:Value} {l:List Int} (h:DocMem w m S G) (h1:KnAt w vk l) (i1:In G vk):
  DocMem (w.setCell ⟨m.D,2,none⟩ vk) { m with vk:=vk } { S with known:=l } G∧Chg (fun g=>g=m.D) w (w.setCell ⟨m.D,2,none⟩ vk):=by
 have oth:∀g,g≠m.D→(w.setCell ⟨m.D,2,none⟩ vk).heap[g]? =w.heap[g]? :=fun g hg=>set_block _ _ _ _ hg
 have hs:Stay G w (w.setCell ⟨m.D,2,none⟩ vk):=fun g hg=>oth g (fun e=>h.off g hg (Or.inl e))
 have hne:∀g cur t,w.heap[g]? =some (.cells cur t (0,0))→t≠109→g≠m.D:=fun g cur t hg ht e=>by
  rw[e,h.blk] at hg
  injection hg with hg
  injection hg with _ hg _
  exact ht hg.symm
 obtain⟨L,o1,o2,o3⟩:=h.ops
 refine⟨⟨?_,book_stay h.book h.bookG hs,h.bookG,marks_stay h.marks h.marksG hs,h.marksG,known_stay h1 i1 hs,i1,⟨L,o1,own_stay o2 (fun g hg=> ?_),fun y hy=>⟨dots_stay (o3 y hy).1 (o3 y hy).2 hs,(o3 y hy).2⟩⟩,MapAt.stay h.map (oth _ ?_),fun x hx=>own_stay (h.rows x hx) (fun g hg=> ?_),h.apart,fun g hg=>by rw[set_size];exact h.lt g hg,h.off⟩, ?_⟩
 ·rw[set_heap h.blk];rfl
 ·obtain⟨_,cur,hc⟩:=own_lt o2 g hg
  exact oth g (hne g cur _ hc (by decide))
 ·intro e
  obtain⟨es,clock,hb9,_⟩:=h.map
  rw[e,h.blk] at hb9;cases hb9
 ·obtain⟨_,cur,hc⟩:=own_lt (h.rows x hx) g hg
  exact oth g (hne g cur _ hc (by decide))
 ·exact(Chg.refl (fun g=>g=m.D) w).setCell (p:=⟨m.D,2,none⟩) rfl _
theorem infoO:(Tryz.prog.info? 75).map (fun i=>(i.zero,i.size,i.bytes))=some (some (.agg #[.int .i64 0,.int .i64 0,.int .i64 0,.string ⟨#[]⟩,.int .i64 0,.slice none 0 0]),6,72):=by kernel_rfl
/- append of one op to a row of the doc's own, at a step of a region that draws -/
theorem step_putO {ops:Array Oper} {o:Oper} {a:Act} {W:World} {K:Act→World→Prop} {Q:Exit→Act→World→Prop} {E:Prop} (hgd:o.guard=none) (sO xO:Operand)
  (ho:o.op=.call { callee:=.builtin .append,args:=#[sO,xO],argTypes:=#[55,55] })
  (v:Value) (n:Nat) (L:List (Ox × Value)) (x:Ox) (px:Option Addr) (nx cx:Nat) (hs:a.eval sO=v) (h0:Nat) (hx:a.eval xO=.slice (some ⟨h0,0,none⟩) 1 1)
  (hlen:n+1≤1048576) (hown:W.ownsRow 0 75 6 v n (flatO L)) (hc0:W.heap[h0]? =some (.cells #[.int .i64 x.1.1,.int .i64 x.1.2,.int .i64 x.2.1,.string x.2.2.1,.int .i64 x.2.2.2.1,.slice px nx cx] 75))
  (h:∀v' w',w'.ownsRow 0 75 6 v' (n+1) (flatO (L++[(x,.slice px nx cx)]))→W.grownBy w' v.ownBlock→(v'.ownBlock=v.ownBlock∨v'.ownBlock=some W.heap.size)→K (a.put o.dst v') w'):
  if Region.wanted o (yielded ops a.tmps)=true then Oper.wp Tryz.prog o a W K Q else E:=by
 have hw:Region.wanted o (yielded ops a.tmps)=true:=by simp[Region.wanted,hgd]
 rw[if_pos hw]
 obtain⟨i0,hi,hz0,hz1,hz2⟩:=info_parts infoO
 have e6:flatO [(x,Value.slice px nx cx)]=[.int .i64 x.1.1,.int .i64 x.1.2,.int .i64 x.2.1,.string x.2.2.1,.int .i64 x.2.2.2.1,.slice px nx cx]:=rfl
 obtain⟨v',w',hr,h2,h3,_,h5⟩:=run_append_own_at (P:=Tryz.prog) W 0 55 o.type 75 i0 (.agg #[.int .i64 0,.int .i64 0,.int .i64 0,.string ⟨#[]⟩,.int .i64 0,.slice none 0 0]) 6 72 Tryz.underlying55 hi hz0 hz1 hz2 rfl (by decide) v n (flatO L) hown ⟨h0,0,none⟩ 1 1 (flatO [(x,.slice px nx cx)]) rfl (by
  intro j u hu
  rw[Addr.add_lit,Nat.zero_add]
  rw[e6] at hu
  exact blk_cell hc0 (by simpa using hu)) (by
  intro u hu
  rw[e6] at hu
  simp only[List.mem_cons,List.not_mem_nil,or_false] at hu
  rcases hu with rfl | rfl | rfl | rfl | rfl | rfl<;>rfl) (by unfold maxLen;omega) (by omega) (Nat.zero_le _)
 unfold Oper.wp execOp
 simp only[ho,resolve,invoke,builtin,Sem.run_bind,Sem.run_pure,Result.andThen_ok,List.map_toArray,List.map_cons,List.map_nil,hs,hx,hr]
 refine h v' w' ?_ h3 h5
 rw[flatO_append]
 exact h2
/- the ops with one more -/
theorem put_ops {w w1 w2:World} {m:Mem} {S:Dq} {G:Nat→Prop} {v9 vs':Value} {o:Ox} {L:List (Ox × Value)} (h:DocMem w m S G) (hL:L.map (·.1)=S.ops) (hLd:∀y ∈ L,DtsAt w y.2 y.1.2.2.2.2∧In G y.2) (hb:Below w.heap.size w w1) (hn:w1.ownsRow w.heap.size 72 2 vs' o.2.2.2.2.length (flatD o.2.2.2.2))
  (hg:w1.grownBy w2 m.vo.ownBlock) (hr:w2.ownsRow 0 75 6 v9 (S.ops.length+1) (flatO (L++[(o,vs')]))) (hl:v9.ownBlock=m.vo.ownBlock∨v9.ownBlock=some w1.heap.size):
  DocMem (w2.setCell ⟨m.D,3,none⟩ v9) { m with vo:=v9 } { S with ops:=S.ops++[o] } (fun g=>G g∨vs'.ownBlock=some g)∧Chg (Wr m) w (w2.setCell ⟨m.D,3,none⟩ v9)∧∀g,Wr { m with vo:=v9 } g→Wr m g∨w.heap.size≤g:=by
 have h1:=h.below hb
 obtain⟨L0,p1,p2,p3⟩:=h1.ops
 have hvo:∀g,m.vo.ownBlock=some g→∃cur,w1.heap[g]? =some (.cells cur 75 (0,0)):=fun g hgg=>(own_lt p2 g hgg).2
 have hD1:w1.heap[m.D]? =some (.cells #[m.vb,m.vm,m.vk,m.vo,.map (some m.B)] 109):=h1.blk
 have hDne:∀g,m.vo.ownBlock=some g→g≠m.D:=fun g hgg e=>by
  obtain⟨cur,hc⟩:=hvo g hgg
  rw[e,hD1] at hc
  injection hc with hc
  injection hc with _ hc _
  exact absurd hc (by decide)
 have oth:∀g,g<w1.heap.size→g≠m.D→m.vo.ownBlock≠some g→(w2.setCell ⟨m.D,3,none⟩ v9).heap[g]? =w1.heap[g]? :=fun g hgl hne hnv=>by
  rw[set_block _ _ _ _ hne];exact hg.block g hgl (fun e=>hnv e.symm)
 have hD2:w2.heap[m.D]? =some (.cells #[m.vb,m.vm,m.vk,m.vo,.map (some m.B)] 109):=by
  rw[hg.block _ (Array.getElem?_eq_some_iff.1 hD1).1 (fun e=>hDne m.D e.symm rfl)];exact hD1
 have hwl:∀g,Wr m g→g<w.heap.size:=h.wr_lt
 have hs:Stay G w1 (w2.setCell ⟨m.D,3,none⟩ v9):=fun g hgg=>oth g (h1.lt g hgg) (fun e=>h.off g hgg (Or.inl e)) (fun e=>h.off g hgg (Or.inr (Or.inr (Or.inl e))))
 have hvs:∀g,vs'.ownBlock=some g→w.heap.size≤g∧g<w1.heap.size∧∃cur,w1.heap[g]? =some (.cells cur 72 (0,0)):=fun g hgg=>⟨own_ge hn g hgg,own_lt hn g hgg⟩
 have hw:∀g,Wr { m with vo:=v9 } g→Wr m g∨(w.heap.size≤g∧g=w1.heap.size):=by
  rintro g (e | e | e | e)
  ·exact Or.inl (Or.inl e)
  ·exact Or.inl (Or.inr (Or.inl e))
  ·have e9:v9.ownBlock=some g:=e
   rcases hl with e2 | e2
   ·exact Or.inl (Or.inr (Or.inr (Or.inl (by rw[←e2];exact e9))))
   ·rw[e9] at e2;injection e2 with e2;exact Or.inr ⟨by rw[e2];exact hb.size,e2⟩
  ·exact Or.inl (Or.inr (Or.inr (Or.inr e)))
 have hcell:∀g cur t,w1.heap[g]? =some (.cells cur t (0,0))→t≠75→t≠109→g≠m.D∧m.vo.ownBlock≠some g:=fun g cur t h9 ht ht2=>by
  refine⟨fun e=> ?_,fun e=> ?_⟩
  ·rw[e,hD1] at h9
   injection h9 with h9
   injection h9 with _ h9 _
   exact ht2 h9.symm
  ·obtain⟨cur2,h8⟩:=hvo g e
   rw[h8] at h9
   injection h9 with h9
   injection h9 with _ h9 _
   exact ht h9.symm
 have hvst:DtsAt (w2.setCell ⟨m.D,3,none⟩ v9) vs' o.2.2.2.2:=own_dts (own_stay hn fun g hgg=>by
  obtain⟨_,q2,cur,q3⟩:=hvs g hgg
  obtain⟨q4,q5⟩:=hcell g cur _ q3 (by decide) (by decide)
  exact oth g q2 q4 q5)
 refine⟨⟨?_,book_stay h1.book h1.bookG hs,h1.bookG.mono fun g e=>Or.inl e,marks_stay h1.marks h1.marksG hs,h1.marksG.mono fun g e=>Or.inl e,known_stay h1.known h1.knownG hs,h1.knownG.mono fun g e=>Or.inl e, ?_, ?_,fun x hx=>own_stay (h1.rows x hx) (fun g hgg=> ?_),h1.apart, ?_, ?_⟩, ?_,fun g hgg=> ?_⟩
 ·rw[set_heap hD2];rfl
 ·refine⟨L++[(o,vs')],by rw[List.map_append,hL];rfl, ?_,fun y hy=> ?_⟩
  ·rw[List.length_append]
   refine own_stay hr fun g hgg=>set_block _ _ _ _ (fun e=> ?_)
   have e2:g=m.D:=e
   obtain⟨_,cur,hc⟩:=own_lt hr g hgg
   rw[e2,hD2] at hc
   injection hc with hc
   injection hc with _ hc _
   exact absurd hc (by decide)
  ·rcases List.mem_append.1 hy with hy | hy
   ·exact⟨dots_stay ((hLd y hy).1.below hb) (hLd y hy).2 hs,(hLd y hy).2.mono fun g e=>Or.inl e⟩
   ·rw[List.mem_singleton.1 hy]
    exact⟨hvst,fun a n c e _=>Or.inr (by have e2:vs'=Value.slice (some a) n c:=e;rw[e2];rfl)⟩
 ·obtain⟨es,clock,hb9,_⟩:=h1.map
  refine MapAt.stay h1.map (oth _ (MapAt.lt h1.map) (fun e=> ?_) (fun e=> ?_))
  ·rw[e,hD1] at hb9;cases hb9
  ·obtain⟨cur,hc⟩:=hvo _ e
   rw[hc] at hb9;cases hb9
 ·obtain⟨q2,cur,q3⟩:=own_lt (h1.rows x hx) g hgg
  obtain⟨q4,q5⟩:=hcell g cur _ q3 (by decide) (by decide)
  exact oth g q2 q4 q5
 ·rintro g (e | e)
  ·rw[set_size];exact Nat.lt_of_lt_of_le (h1.lt g e) hg.size
  ·rw[set_size];exact Nat.lt_of_lt_of_le (hvs g e).2.1 hg.size
 ·rintro g (e | e) e2
  ·rcases hw g e2 with e3 | e3
   ·exact h.off g e e3
   ·have:=h.lt g e;omega
  ·obtain⟨q1,q2,cur,q3⟩:=hvs g e
   rcases hw g e2 with e3 | e3
   ·have:=hwl g e3;omega
   ·omega
 ·refine(Chg.ofBelow hb (Wr m)).trans ?_
  have c1:Chg (Wr m) w1 w2:=Chg.grown hg fun g e=>Or.inr (Or.inr (Or.inl e))
  exact c1.setCell (p:=⟨m.D,3,none⟩) (Or.inl rfl) _
 ·rcases hw g hgg with e | e
  ·exact Or.inl e
  ·exact Or.inr e.1
/- what the places that are kept mean, behind an op that is new -/
theorem jn_next {S:Dq} {o:Ox} {M M':List Ent} (I:Inv S) (hnew:isNew S o=true) (hj:Jn M S) (h:∀d q,d≠o.1→(q ∈ getJ M' d↔q ∈ getJ M d∨(d ∈ o.2.2.2.2∧Dm.hasB (next S o).known d.1 d.2=false∧q=o.2.2.1))):Jn M' (next S o):=by
 obtain⟨h0,hk,hfew,hdo⟩:=isNew_iff.1 hnew
 obtain⟨e1,e2,e3,e4⟩:=opE_zero.1 h0
 obtain⟨d1,d2,d3,d4⟩:=dotE_iff.1 e1
 intro d q hd hun
 obtain⟨f1,f2,f3,f4⟩:=dotE_iff.1 hd
 rw[kn_next S o d.1 I.klen f1 f2 d1 d2] at hun
 have hne:d≠o.1:=by rintro rfl;rw[if_pos rfl] at hun;omega
 have hun2:kn S d.1<d.2:=by
  by_cases e:d.1=o.1.1
  ·rw[if_pos e] at hun;rw[e];omega
  ·rw[if_neg e] at hun;exact hun
 have hh:Dm.hasB (next S o).known d.1 d.2=false:=by
  rw[has_eq (inv_next I hnew) hd,kn_next S o d.1 I.klen f1 f2 d1 d2,decide_eq_false]
  omega
 rw[h d q hne,hj d q hd hun2,hh]
 show _↔saw (S.ops++[o]) q d=true
 rw[saw_snoc,Bool.or_eq_true]
 by_cases t4:o.2.1=4
 ·simp only[t4,decide_true,Bool.true_and,Bool.and_eq_true,decide_eq_true_eq,true_and]
  constructor
  ·rintro(e | ⟨e,e9⟩)
   ·exact Or.inl e
   ·exact Or.inr ⟨e9.symm,e⟩
  ·rintro(e | ⟨e9,e⟩)
   ·exact Or.inl e
   ·exact Or.inr ⟨e,e9.symm⟩
 ·have hs:o.2.2.2.2=[]:=(lawOf_zero.1 e4).2.2.1 t4
  rw[hs,decide_eq_false t4]
  simp
end Ii
end Go.Proofs.YtlmdchpbpgcfmaaGreatDoor
/- The worlds between Apply's calls. -/
namespace Go.Proofs.YtlmdchpbpgcfmaaGreatDoor
namespace Ij
open Go.ChangeShapes Go.WideShapes Go.ChangeAt Go.RowKit Cm Ka Kb Na Om Oa Oz Oc Og Oi Hm Ia Ib Ic Idc Ie If Ig Ih Ii
open La (bel bel_drew errV_zero errV_ne own_ge own_grow own_below Lies)
/- what Apply leaves -/
def ApPost (w:World) (D:Nat) (S:Dq) (F:Nat→Prop) (o:Ox) (e:Ending) (w':World):Prop:=
 e=.returned (.tuple #[.bool (isNew S o),errV (apE S o)])∧(isNew S o=false→Below w.heap.size w w')∧∃F',DocAt w' D (apS S o) F'∧Chg F w w'∧∀g,F' g→F g∨w.heap.size≤g
theorem ApPost.no {w w':World} {D:Nat} {S:Dq} {F:Nat→Prop} {o:Ox} {v:Value} (h:DocAt w D S F) (hn:isNew S o=false) (he:errV (apE S o)=v) (hb:Below w.heap.size w w'):ApPost w D S F o (.returned (.tuple #[.bool false,v])) w':=by
 refine⟨by rw[hn,he],fun _=>hb,F, ?_,Chg.ofBelow hb F,fun g hg=>Or.inl hg⟩
 unfold apS
 rw[hn]
 exact h.below hb
def Mid (w:World) (F:Nat→Prop) (m':Mem) (S':Dq) (W:World):Prop:=∃G',DocMem W m' S' G'∧Chg F w W∧(∀g,G' g→F g∨w.heap.size≤g)∧(∀g,Wr m' g→F g∨w.heap.size≤g)
theorem Mid.below {w W W':World} {F:Nat→Prop} {m':Mem} {S':Dq} (h:Mid w F m' S' W) (hb:Below W.heap.size W W'):Mid w F m' S' W':=by
 obtain⟨G',h1,h2,h3,h4⟩:=h
 exact⟨G',h1.below hb,h2.trans (Chg.ofBelow hb _),h3,h4⟩
theorem Mid.blk {w W:World} {F:Nat→Prop} {m':Mem} {S':Dq} (h:Mid w F m' S' W):W.heap[m'.D]? =some (.cells #[m'.vb,m'.vm,m'.vk,m'.vo,.map (some m'.B)] 109):=by
 obtain⟨G',h1,_⟩:=h;exact h1.blk
theorem Mid.chg {w W:World} {F:Nat→Prop} {m':Mem} {S':Dq} (h:Mid w F m' S' W):Chg F w W:=by obtain⟨G',_,h2,_⟩:=h;exact h2
/- at whatever world behind the first ones: all new blocks may be the doc's -/
/- the block in which behind's content lies -/
def Ct (W:World) (g:Nat):Prop:=W.heap[g]? =some (.cells #[.slice none 0 0,.slice none 0 0,.slice none 0 0] 106)
theorem ct_new (w:World) (O:Obj):Ct ((w.alloc O).alloc (.cells #[.slice none 0 0,.slice none 0 0,.slice none 0 0] 106)) (w.heap.size+1):=by
 have h:=heap_alloc_new (w.alloc O) (.cells #[.slice none 0 0,.slice none 0 0,.slice none 0 0] 106)
 rwa [show(w.alloc O).heap.size=w.heap.size+1 by simp] at h
theorem Ct.lt {W:World} {g:Nat} (h:Ct W g):g<W.heap.size:=(Array.getElem?_eq_some_iff.1 h).1
abbrev set3 (w:World) (g:Nat) (x y z:Value):World:=((w.setCell ⟨g,0,none⟩ x).setCell ⟨g,1,none⟩ y).setCell ⟨g,2,none⟩ z
theorem set3_block (w:World) (g:Nat) (x y z:Value) (k:Nat) (h:k≠g):(set3 w g x y z).heap[k]? =w.heap[k]? :=by
 rw[set_block _ _ _ _ h,set_block _ _ _ _ h,set_block _ _ _ _ h]
theorem set3_size (w:World) (g:Nat) (x y z:Value):(set3 w g x y z).heap.size=w.heap.size:=by rw[set_size,set_size,set_size]
theorem set3_below {B g:Nat} {w w':World} (h:Below B w w') (hg:B≤g) (x y z:Value):Below B w (set3 w' g x y z):=
 ((h.setCell (p:=⟨g,0,none⟩) hg _).setCell (p:=⟨g,1,none⟩) hg _).setCell (p:=⟨g,2,none⟩) hg _
/- what behind leaves -/
def BePost (w:World) (S:Dq) (G:Nat→Prop) (o:Ox) (e:Ending) (w':World):Prop:=
 ∃pb nb cb pm nm cm pk nk ck,e=.returned (.tuple #[.agg #[.slice pb nb cb,.slice pm nm cm,.slice pk nk ck],.bool (isNew S o),errV (apE S o)])∧Below w.heap.size w w'∧
  (isNew S o=true→(Lj.BookAt w' (.slice pb nb cb) (doB S o)∧In (News G w w') (.slice pb nb cb))∧(MksAt w' (.slice pm nm cm) (doM S o)∧In (News G w w') (.slice pm nm cm))∧KnAt w' (.slice pk nk ck) (S.known.set (o.1.1-1).toNat o.1.2)∧In (News G w w') (.slice pk nk ck))
theorem BePost.no {w w':World} {S:Dq} {G:Nat→Prop} {o:Ox} {v:Value} (hn:isNew S o=false) (he:errV (apE S o)=v) (hb:Below w.heap.size w w'):BePost w S G o (.returned (.tuple #[.agg #[.slice none 0 0,.slice none 0 0,.slice none 0 0],.bool false,v])) w':=
 ⟨none,0,0,none,0,0,none,0,0,by rw[hn,he],hb,fun h=>by rw[hn] at h;cases h⟩
theorem BePost.yes {w w4 w5:World} {S:Dq} {G:Nat→Prop} {o:Ox} {pb pm:Option Addr} {nb cb nm cm gk ck:Nat} (hn:isNew S o=true) (hlt:∀g,G g→g<w.heap.size) (hb4:Below w.heap.size w w4) (ht:Ct w4 (w.heap.size+1)) (hb5:Below w4.heap.size w4 w5)
  (h1:Lj.BookAt w5 (.slice pb nb cb) (doB S o)) (i1:In (News G w4 w5) (.slice pb nb cb)) (h2:MksAt w5 (.slice pm nm cm) (doM S o)) (i2:In (News G w4 w5) (.slice pm nm cm)) (hk:Za.IntsIn w4 (some ⟨gk,0,none⟩) (S.known.set (o.1.1-1).toNat o.1.2)) (hl:(S.known.set (o.1.1-1).toNat o.1.2).length=8) (hgk:w.heap.size+1<gk):
  BePost w S G o (.returned (.tuple #[.agg #[.slice pb nb cb,.slice pm nm cm,.slice (some ⟨gk,0,none⟩) 8 ck],.bool true,.nilIface])) (set3 w5 (w.heap.size+1) (.slice pb nb cb) (.slice pm nm cm) (.slice (some ⟨gk,0,none⟩) 8 ck)):=by
 obtain⟨e0,hkn,hfew,hdo⟩:=isNew_iff.1 hn
 have hap:apE S o=0:=by
  unfold apE
  rw[if_neg (by simpa using e0),if_neg (by omega),if_neg (by omega),if_neg (by omega)]
  exact hdo
 have hz4:=hb4.size
 have hz5:=hb5.size
 have htl:=ht.lt
 have hs:Stay (News G w4 w5) w5 (set3 w5 (w.heap.size+1) (.slice pb nb cb) (.slice pm nm cm) (.slice (some ⟨gk,0,none⟩) 8 ck)):=fun g hg=>set3_block _ _ _ _ _ g (by
  rcases hg with e | e
  ·have:=hlt g e;omega
  ·omega)
 have hmono:∀g,News G w4 w5 g→News G w (set3 w5 (w.heap.size+1) (.slice pb nb cb) (.slice pm nm cm) (.slice (some ⟨gk,0,none⟩) 8 ck)) g:=fun g hg=>by
  rcases hg with e | e
  ·exact Or.inl e
  ·exact Or.inr ⟨by omega,by rw[set3_size];exact e.2⟩
 have hgl:gk<w4.heap.size:=by
  rcases hk with e | ⟨b,o9,hp,hcs⟩
  ·rw[e] at hl;simp at hl
  ·injection hp with hp
   injection hp with hp1 hp2
   rw[hp1]
   exact World.block_lt_of_cell? _ _ (hcs 0 (by omega))
 have hk5:KnAt w5 (.slice (some ⟨gk,0,none⟩) 8 ck) (S.known.set (o.1.1-1).toNat o.1.2):=⟨_,_,by rw[hl],hk.below hb5⟩
 refine⟨pb,nb,cb,pm,nm,cm,some ⟨gk,0,none⟩,8,ck,by rw[hn,hap];rfl,set3_below (hb4.trans ⟨hb5.os,hb5.tape,hb5.output,hb5.size,fun k hk=>hb5.block k (by omega)⟩) (by omega) _ _ _,fun _=>⟨⟨book_stay h1 i1 hs,i1.mono hmono⟩,⟨marks_stay h2 i2 hs,i2.mono hmono⟩,known_stay hk5 (G:=fun g=>g=gk) (fun a n c e _=>by injection e with e1;injection e1 with e1;rw[←e1]) (fun g e=>set3_block _ _ _ _ _ g (by rw[e];omega)),fun a n c e _=> ?_⟩⟩
 injection e with e1
 injection e1 with e1
 rw[←e1]
 exact Or.inr ⟨by show w.heap.size≤gk;omega,by rw[set3_size];show gk<w5.heap.size;omega⟩
/- behind the store of the content -/
theorem mid_content {w w5:World} {m:Mem} {S:Dq} {G F:Nat→Prop} {vb vm vk:Value} {B:List Bm.Leaf} {M:List Mk} {l:List Int} (h:DocOk w m S G) (hF:∀g,F g↔(G g∨Wr m g)) (hb:Below w.heap.size w w5) (h1:Lj.BookAt w5 vb B) (i1:In (News G w w5) vb) (h2:MksAt w5 vm M) (i2:In (News G w w5) vm) (h3:KnAt w5 vk l) (i3:In (News G w w5) vk):
  Mid w F { m with vb:=vb,vm:=vm,vk:=vk } ⟨B,M,l,S.ops⟩ (set3 w5 m.D vb vm vk):=by
 obtain⟨r1,r2⟩:=do_end h.mem hb h1 i1 h2 i2
 have hoff:∀g,News G w w5 g→g≠m.D:=fun g hg e=>by
  rcases hg with e9 | e9
  ·exact h.mem.off g e9 (Or.inl e)
  ·have:=h.mem.wr_lt m.D (Or.inl rfl);omega
 have k3:=known_stay h3 i3 (w':=(w5.setCell ⟨m.D,0,none⟩ vb).setCell ⟨m.D,1,none⟩ vm) (fun g hg=>by rw[set_block _ _ _ _ (hoff g hg),set_block _ _ _ _ (hoff g hg)])
 obtain⟨r3,r4⟩:=set_known r1 k3 i3
 have hDF:∀g,g=m.D→F g:=fun g e=>(hF g).2 (Or.inr (Or.inl e))
 refine⟨_,r3,(r2.mono hDF).trans (r4.mono hDF),fun g hg=> ?_,fun g hg=>Or.inl ((hF g).2 (Or.inr hg))⟩
 rcases hg with e | e
 ·exact Or.inl ((hF g).2 (Or.inl e))
 ·exact Or.inr e.1
/- with one op more -/
theorem mid_ops {w w6 w7 w8:World} {m:Mem} {S:Dq} {G' F:Nat→Prop} {o:Ox} {v9 vs':Value} {L:List (Ox × Value)} (h1:DocMem w6 m S G') (h2:Chg F w w6) (h3:∀g,G' g→F g∨w.heap.size≤g) (h4:∀g,Wr m g→F g∨w.heap.size≤g)
  (q1:L.map (·.1)=S.ops) (q2:∀y ∈ L,DtsAt w6 y.2 y.1.2.2.2.2∧In G' y.2) (hb:Below w6.heap.size w6 w7) (hn:w7.ownsRow w6.heap.size 72 2 vs' o.2.2.2.2.length (flatD o.2.2.2.2))
  (hg:w7.grownBy w8 m.vo.ownBlock) (hr:w8.ownsRow 0 75 6 v9 (S.ops.length+1) (flatO (L++[(o,vs')]))) (hl:v9.ownBlock=m.vo.ownBlock∨v9.ownBlock=some w7.heap.size):
  Mid w F { m with vo:=v9 } { S with ops:=S.ops++[o] } (w8.setCell ⟨m.D,3,none⟩ v9):=by
 obtain⟨r1,r2,r3⟩:=put_ops h1 q1 q2 hb hn hg hr hl
 have hz:=h2.size
 refine⟨_,r1,h2.next r2 h4,fun g hgg=> ?_,fun g hgg=> ?_⟩
 ·rcases hgg with e | e
  ·exact h3 g e
  ·exact Or.inr (Nat.le_trans hz (own_ge hn g e))
 ·rcases r3 g hgg with e | e
  ·exact h4 g e
  ·exact Or.inr (by omega)
theorem un_drew {B:Nat} {w w':World} (h:Below B w.drew w'):Below B w w':=⟨h.os,h.tape,h.output,h.size,h.block⟩
theorem six_same {W W':World} {h:Nat} {a b t:Int} {p:ByteArray} {c:Int} {v:Value} (s:Six W h a b t p c v) (hs:W'.heap[h]? =W.heap[h]?):Six W' h a b t p c v:=by
 obtain⟨h0,h1,h2,h3,h4,h5⟩:=s
 exact⟨(cell_stay hs).trans h0,(cell_stay hs).trans h1,(cell_stay hs).trans h2,(cell_stay hs).trans h3,(cell_stay hs).trans h4,(cell_stay hs).trans h5⟩
theorem six_lt {W:World} {h:Nat} {a b t:Int} {p:ByteArray} {c:Int} {v:Value} (s:Six W h a b t p c v):h<W.heap.size:=World.block_lt_of_cell? _ _ s.1
/- behind settle -/
theorem mid_end {w w9 w10:World} {m0 m:Mem} {S:Dq} {G F:Nat→Prop} {o:Ox} {vs:Value} {M':List Ent} (h0:DocOk w m0 S G) (hM:m.M=m0.M) (hnew:isNew S o=true) (G':Nat→Prop) (h2:Chg F w w9) (h3:∀g,G' g→F g∨w.heap.size≤g) (h4:∀g,Wr m g→F g∨w.heap.size≤g)
  (h:SetSt w9 m (next S o) G' (40*S.ops.length) o.1.1 o.1.2 o.2.1 o.2.2.1 o.2.2.2.1 vs o.2.2.2.2 o.2.2.2.2.length w10 M'):ApPost w m.D S F o (.returned (.tuple #[.bool true,.nilIface])) w10:=by
 obtain⟨e0,hk,hfew,hdo⟩:=isNew_iff.1 hnew
 have hs40:o.2.2.2.2.length≤40:=(lawOf_zero.1 (opE_zero.1 e0).2.2.2).2.2.2.1
 have hap:apE S o=0:=by
  unfold apE
  rw[if_neg (by simpa using e0),if_neg (by omega),if_neg (by omega),if_neg (by omega)]
  exact hdo
 refine⟨by rw[hnew,hap];rfl,fun h9=>(by rw[hnew] at h9;cases h9),fun g=>G' g∨Wr { m with M:=M' } g, ?_,h2.next h.chg h4,fun g hg=> ?_⟩
 ·unfold apS
  rw[hnew,if_pos rfl]
  refine⟨{ m with M:=M' },G',rfl,⟨h.mem,inv_next h0.inv hnew,jn_next h0.inv hnew h0.jn ?_,fun x hx=> ?_⟩,fun g=>Iff.rfl⟩
  ·intro d q hd
   have h9:=h.jn d q hd
   rw[List.take_length] at h9
   have e9:getJ m.M d=getJ m0.M d:=by rw[hM]
   rw[e9] at h9
   exact h9
  ·have h9:=h.short x hx
   show x.2.2.length≤40*(S.ops++[o]).length
   rw[List.length_append]
   simp only[List.length_singleton]
   omega
 ·have hz:=h2.size
  rcases hg with e | e
  ·exact h3 g e
  ·rcases h.own g e with e | e
   ·exact h4 g e
   ·exact Or.inr (by omega)
end Ij
end Go.Proofs.YtlmdchpbpgcfmaaGreatDoor
