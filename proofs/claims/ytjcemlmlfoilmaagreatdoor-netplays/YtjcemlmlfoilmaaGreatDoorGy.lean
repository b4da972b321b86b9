import Derived.Test.YtjcemlmlfoilmaaGreatDoorG3
import Derived.Test.YtjcemlmlfoilmaaGreatDoorN5
set_option linter.unusedSimpArgs false
set_option linter.unusedVariables false
set_option maxRecDepth 100000
set_option maxHeartbeats 8000000
namespace Go.Proofs.YtjcemlmlfoilmaaGreatDoor
namespace Gy
open Go.RowKit Cm Om Oa Oz Oc Oi Hm Ia Ic Aa Ac Hc Hd Hj Gp
open La (bel aC own_below)
theorem aA4:(Tryz.prog.info? 70).map (fun i=>(i.zero,i.size,i.bytes))=some (some (.agg #[.int .i64 0,.string ⟨#[]⟩]),2,24):=by kernel_rfl
theorem lQ{ops:Array Oper}{o:Oper}{a:Act}{W:World}{K:Act->World->Prop}{Q:Exit->Act->World->Prop}{E:Prop}(hgd:o.guard=none)(sO xO:Operand)(ho:o.op=.call { callee:=.builtin .append,args:=#[sO,xO],argTypes:=#[37,37] })(v:Value)(n:Nat)(l:List Pc)(x:Pc)(hs:a.eval sO=v)(h0:Nat)(hx:a.eval xO=.slice (some ⟨h0,0,none⟩) 1 1)(hn:l.length=n)(hlen:n+1<=1048576)(hown:RowP W v l)(hc0:W.heap[h0]? =some (.cells #[.int .i64 x.1,.string x.2] 70))(h:∀v' w',RowP w' v' (l++[x])->W.grownBy w' v.ownBlock->(v'.ownBlock=v.ownBlock\/v'.ownBlock=some W.heap.size)->K (a.put o.dst v') w'):
  if Region.wanted o (yielded ops a.tmps)=true then Oper.wp Tryz.prog o a W K Q else E:=by
 have f:Region.wanted o (yielded ops a.tmps)=true:=by simp[Region.wanted,hgd]
 rw[if_pos f];obtain⟨g,i,b,c,d⟩:=info_parts aA4;have e:flatP [x]=[zI x.1,.string x.2]:=rfl
 obtain⟨v',w',k,m,p,_,q⟩:=run_append_own_at (P:=Tryz.prog) W 0 37 o.type 70 g (.agg #[zI 0,.string ⟨#[]⟩]) 2 24 Tryz.underlying37 i b c d rfl (by decide) v l.length (flatP l) hown (zA h0) 1 1 (flatP [x]) rfl (by
  intro j u hu;rw[jU,qY];rw[e] at hu;exact aB hc0 (by simpa using hu)) (by
  intro u hu;rw[e] at hu;simp only[jD,vO,or_false] at hu;rcases hu with rfl | rfl<;>rfl) (by unfold maxLen;omega) (by omega) (jW _)
 unfold Oper.wp execOp;simp only[ho,resolve,invoke,builtin,jZ,vB,vU,xN,jY,vM,hs,hx,k];refine h v' w' ?_ p q;unfold RowP;rw[qE,bZ];exact m
theorem aF9{w:World}{E:Nat}{S:Dq}{F:Nat->Prop}(h:RefD w E S F):∃p n c,w.cell? ⟨E,3,none⟩=some (.slice p n c)/\OpsAt w (.slice p n c) S.ops:=by
 obtain⟨P,G,⟨I,g,j,k,f,a⟩,_⟩:=h;have b:=a.ops.at;obtain⟨p,n,c,rfl⟩:∃p n c,f=.slice p n c:=by obtain⟨p,c,e,_⟩:=b;exact⟨_,_,_,e⟩
 exact⟨p,n,c,aB a.blk (i:=3) rfl,b⟩
theorem aG7{w:World}{E:Nat}{S:Dq}{F:Nat->Prop}(h:RefD w E S F):∃gk,w.cell? ⟨E,2,none⟩=some (.slice (some ⟨gk,0,none⟩) 8 8)/\KnAt w (.slice (some ⟨gk,0,none⟩) 8 8) S.known:=by
 obtain⟨P,G,⟨I,gk,f,g,k,a⟩,_⟩:=h;obtain⟨d,b,c⟩:=a.kn;refine⟨gk,aB a.blk (i:=2) rfl,some (zA gk),8,by rw[I.klen],qF ⟨gk,0,rfl,fun j hj=> ?_⟩⟩;rw[qY];refine aB b ?_;rw[<-kJ,c,qT,qB hj,qA,qB hj];rfl
theorem aEc(X : Nat)(vd vu : Value)(N : Nt)(E : Nat -> Nat)(Fd : Nat -> Nat -> Prop)(F : Nat -> Prop)(i j : Nat)(c : Int)(w : World)(m : NAt w X vd vu N E Fd)(hF : ∀ g, F g ↔ Fs X vd vu N.ds.length Fd g)(hu : N.us.length < 100)(hi : i < N.ds.length)(hj : j < N.ds.length)(hij : i ≠ j) :
  Calls Tryz.prog 7 #[ptr X, evV (3, i, j, c)] w fun r w' => r = .returned (.int .i64 0) /\ Left' w X F { N with us := N.us ++ [(j, packT (lackL (dq N i).ops (dq N j).known))] } w' := by
 obtain ⟨p, cn, ad, _, _, hc⟩ := m.fC
 obtain ⟨g, rfl, q⟩ := hc (by omega)
 obtain ⟨f, l, I, _⟩ := m.fJ
 obtain⟨n,hn⟩:=zx N.ds.length
 obtain⟨u,D⟩:=zx N.us.length
 rw [<- D] at hu
 have bq : n <= 4 := by have := m.few; omega
 have J := m.docs.at' i hi
 have K := m.docs.at' j hj
 have L : Hid (Inv (dq N i)) := RefD.inv J
 have a0 : Hid (Inv (dq N j)) := RefD.inv K
 obtain ⟨U, V, Y, o3, ae⟩ := aF9 J
 obtain ⟨Z, k2, af⟩ := aG7 K
 have M : Hid (packE (lackL (dq N i).ops (dq N j).known) = 0) := Ag.lO L.out _
 obtain⟨T,hT⟩:=zx (packT (lackL (dq N i).ops (dq N j).known))
 have a3 : Hid (T.size <= maxLen) := by rw [Hid, hT]; exact Ho.wQ M.out
 have CL : Hid (∀ W, Below w.heap.size w W -> Calls Tryz.prog 24 #[.slice U V Y, .slice (some ⟨Z, 0, none⟩) 8 8] W fun e w' => ∃ p n c, e = .returned (.slice p n c) /\ OpsAt w' (.slice p n c) (lackL (dq N i).ops (dq N j).known) /\ Below W.heap.size W w') := fun W hb =>
  (Ah.aGW _ _ (.slice U V Y) (.slice (some ⟨Z, 0, none⟩) 8 8) (dq N i).ops (dq N j).known W (OpsJ.old (ae.below hb)) (fun g q => q) (af.below hb) a0.out.klen (fun o ho => by have s := bH.1 (aO.1 (L.out.right o ho)).1; exact ⟨s.1, s.2.1⟩) L.out.few).mono fun e w' ⟨p, n, c, h1, h2, h3⟩ => ⟨p, n, c, h1, h2.at, h3⟩
 have CP : Hid (∀ W v, OpsAt W v (lackL (dq N i).ops (dq N j).known) -> Calls Tryz.prog 23 #[v] W fun e w' => e = .returned (.string T) /\ Below W.heap.size W w') := fun W v h => by
  rw [hT]; exact Oj.aHb v _ W h (dC.1 M.out).2 (dC.1 M.out).1
 have HC : Hid (∀ W, Below w.heap.size w W -> W.cell? ⟨X, 0, none⟩ = some (.slice (some ⟨g, 0, none⟩) n cn) /\ W.cell? ⟨X, 1, none⟩ = some (.slice f u l) /\ W.cell? ⟨g, i, none⟩ = some (ptr (E i)) /\ W.cell? ⟨g, j, none⟩ = some (ptr (E j)) /\ W.cell? ⟨E i, 3, none⟩ = some (.slice U V Y) /\ W.cell? ⟨E j, 2, none⟩ = some (.slice (some ⟨Z, 0, none⟩) 8 8)) := fun W hb => by
  refine ⟨aA hb ?_, aA hb ?_, aA hb (q i hi), aA hb (q j hj), aA hb o3, aA hb k2⟩
  ·have s := aB m.blk (i := 0) (u := vd) rfl
   rw [s, ad, hn]
  ·have s := aB m.blk (i := 1) (u := vu) rfl
   rw [s, I, D]
 rw [<- hT]
 have z1 : decide ((i : Int) < 0) = false := by simp
 have br : i < n := by omega
 have bs : j < n := by omega
 have z2 : decide ((n : Int) <= (i : Int)) = false := by simp; omega
 have z3 : decide ((j : Int) < 0) = false := by simp
 have z4 : decide ((n : Int) <= (j : Int)) = false := by simp; omega
 have z5 : ¬ (n : Int) <= (i : Int) := by omega
 have z6 : ¬ (n : Int) <= (j : Int) := by omega
 have z7 : (i : Int) < (n : Int) := by omega
 have z8 : (j : Int) < (n : Int) := by omega
 have z9 : (0 : Int) <= (i : Int) := by omega
 have bt : (0 : Int) <= (j : Int) := by omega
 have bj : ((i : Int) == (j : Int)) = false := by simp; omega
 have bu : ¬ (100 : Int) <= (u : Int) := by omega
 have HM := Hid.mk' m
 have a5 := Hid.mk' hF
 have P := Hid.mk' D
 have ag := Hid.mk' I
 have G : Below w.heap.size w (w.alloc (.cells #[.int .i64 3, .int .i64 i, .int .i64 j, .int .i64 c] 33)) := (qD _ _).alloc (qC _) _
 have y := heap_alloc_new w (.cells #[.int .i64 3, .int .i64 i, .int .i64 j, .int .i64 c] 33)
 clear m hF D I ad hn J K hc q hi hj hij o3 ae k2 af hT
 go_in
 go_upto_region 1 with fail
 generalize w.alloc (.cells #[.int .i64 3, .int .i64 i, .int .i64 j, .int .i64 c] 33) = w0 at G y |-
 have a6 := Hid.mk' G
 have HY : Hid (∀ W, Below w0.heap.size w0 W -> W.cell? ⟨w.heap.size, 1, none⟩ = some (.int .i64 i) /\ W.cell? ⟨w.heap.size, 2, none⟩ = some (.int .i64 j)) := fun W hb => ⟨aA hb (aB y (i := 1) rfl), aA hb (aB y (i := 2) rfl)⟩
 have y0 := aB y (i := 0) (u := .int .i64 3) rfl
 obtain ⟨y1, Q⟩ := HY.out w0 (qD _ _)
 obtain ⟨x0, x1, x2, x3, x4, x5⟩ := HC.out w0 G
 clear G y
 go_wp2_with fail
 go_quiet (fail)
 generalize R : World.drewN _ _ = w1
 have S : Hid (Below w.heap.size w w1) := by rw [<- R]; exact La.aC a6.out _
 have ah : Hid (Below w0.heap.size w0 w1) := by rw [<- R]; exact La.aC (qD _ _) _
 clear R y0 y1 Q x0 x1 x2 x3 x4 x5
 obtain ⟨y1, Q⟩ := HY.out w1 ah.out
 obtain ⟨x0, x1, x2, x3, x4, x5⟩ := HC.out w1 S.out
 have a7 := Hid.mk' (qD w1.heap.size w1)
 go_wp2_with fail
 go_region_held3 (fun W => W.cell? ⟨X, 0, none⟩ = some (.slice (some ⟨g, 0, none⟩) n cn) /\ W.cell? ⟨g, i, none⟩ = some (ptr (E i)) /\ W.cell? ⟨g, j, none⟩ = some (ptr (E j)) /\ W.cell? ⟨E i, 3, none⟩ = some (.slice U V Y) /\ W.cell? ⟨E j, 2, none⟩ = some (.slice (some ⟨Z, 0, none⟩) 8 8) /\ W.cell? ⟨w.heap.size, 1, none⟩ = some (.int .i64 i) /\ W.cell? ⟨w.heap.size, 2, none⟩ = some (.int .i64 j)) (first | (go_keep; done) | (refine ⟨aA b ?_, aA b ?_, aA b ?_, aA b ?_, aA b ?_, aA b ?_, aA b ?_⟩ <;> (first | assumption | (go_split_ands; assumption))) | (refine ⟨aA d ?_, aA d ?_, aA d ?_, aA d ?_, aA d ?_, aA d ?_, aA d ?_⟩ <;> (first | assumption | (go_split_ands; assumption)))) (first
  | (go_at_call 24; refine (CL.out _ S.out.drew).mono ?_; rintro e w6 ⟨p6, n6, c6, rfl, ai, d⟩; have aj : Hid (Below w1.heap.size w1 w6) := bel a7.out.drew d; have ak := Hid.mk' ai; clear ai)
  | (go_at_call 23; refine (CP.out _ _ ak.out).mono ?_; rintro e w7 ⟨rfl, b⟩; have al : Hid (Below w1.heap.size w1 w7) := bel aj.out b))
 all_goals
  have H : Hid (Below w.heap.size w w7) := bel S.out al.out
  have a8 : Hid (Below w0.heap.size w0 w7) := bel ah.out al.out
  clear d b ak aj y1 Q x0 x1 x2 x3 x4 x5
  obtain ⟨y1, Q⟩ := HY.out w7 a8.out
  have x1 := (HC.out w7 H.out).2.1
  have z : Hid (NAt w7 X vd (.slice f u l) N E Fd) := by
   have s := HM.out.below H.out
   rw [ag.out, <- P.out] at s; exact s
  have A : Hid (∀ O, Below w7.heap.size w7 (w7.alloc O).drew) := fun O => ((qD _ w7).alloc (qC _) O).drew
  have a9 : Hid (∀ O, RowP (w7.alloc O).drew (.slice f u l) N.us) := fun O => own_below z.out.ru (A.out O)
  have am : Hid (∀ O, NtB (w7.alloc O).drew X vd (.slice f u l)) := fun O => (z.out.below (A.out O)).blk
  have q8 := fun O => aB (am.out O) (i := 1) (u := .slice f u l) rfl
  have q7 : ∀ O, (w7.alloc O).cell? ⟨X, 1, none⟩ = some (.slice f u l) := q8
  have q6 : ∀ O, (w7.alloc O).cell? ⟨w.heap.size, 2, none⟩ = some (.int .i64 j) := fun O => aA ((qD _ w7).alloc (qC _) O) Q
  have av : Hid (∀ g, (Value.slice f u l).ownBlock = some g -> g = X -> False) := fun g q e => z.out.uX g q e
  go_wp2_with fail
  go_region_law (
   (refine lQ (by rfl) (.tmp 89) (.tmp 94) (by rfl) (.slice f u l) u N.us (j, T) (by rfl) w7.heap.size (by rfl) P.out.symm (by omega) (a9.out _) (heap_alloc_new w7 _) ?_; intro v9 w9 hr9 hg9 hl9; obtain ⟨p9, n9, c9, rfl, _⟩ := aG hr9; have C : NtB w9 X vd (.slice f u l) := (hg9.block X (z.out.below (A.out _)).oM (fun e => av.out X e.symm rfl)).trans (am.out _); have q9 := aB C (i := 1) (u := .slice f u l) rfl; have bv := aF C (i := 1); have ba := Hid.mk' hr9; have bb : Hid (Chg (fun g => (Value.slice f u l).ownBlock = some g) w7 w9) := (Chg.ofBelow (A.out _) _).trans (Chg.grown hg9 (fun g e => e)); have bc : Hid (∀ k, (Value.slice p9 n9 c9).ownBlock = some k -> (Value.slice f u l).ownBlock = some k \/ w7.heap.size <= k) := Hx.aCs hl9 (A.out _).size; clear hr9 hg9 hl9 C))
  all_goals
   go_wp2_with fail
   go_ret
   obtain ⟨r1, r2, r3⟩ := z.out.sC bb.out ba.out bc.out (fun x hx => by rcases jB.1 hx with e | e; exact HM.out.sz x e; rw [qP.1 e]; exact a3.out)
   have bf : Value.slice f u l = vu := by rw [ag.out, P.out]
   rw [bf] at r2 r3
   exact ⟨rfl, dM a5.out r1 ((Chg.ofBelow H.out _).trans r2) fun g q => (r3 g q).imp id fun e => qO H.out.size e⟩
end Gy
end Go.Proofs.YtjcemlmlfoilmaaGreatDoor
