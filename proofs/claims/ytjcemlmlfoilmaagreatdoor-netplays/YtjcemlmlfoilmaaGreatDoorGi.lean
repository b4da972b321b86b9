import Derived.Test.YtjcemlmlfoilmaaGreatDoorGh
set_option linter.unusedSimpArgs false
set_option linter.unusedVariables false
set_option maxRecDepth 100000
set_option maxHeartbeats 8000000
namespace Go.Proofs.YtjcemlmlfoilmaaGreatDoor
namespace Gi
open Go.RowKit Oz Oc Oi Ia Ic Hc Hd Gp
open La (bel aC own_below)
theorem aI7(X : Nat)(vd vu : Value)(N : Nt)(E : Nat -> Nat)(Fd : Nat -> Nat -> Prop)(F : Nat -> Prop)(i : Nat)(b c : Int)(w : World)(m : NAt w X vd vu N E Fd)(hF : ∀ g, F g ↔ Fs X vd vu N.ds.length Fd g)(hu : N.us.length <= 100)(hi : i < N.us.length) :
  Calls Tryz.prog 7 #[ptr X, evV (5, i, b, c)] w fun r w' => r = .returned (.int .i64 0) /\ Left' w X F { N with us := N.us.eraseIdx i } w' := by
 obtain ⟨pu, d, T, _, _, hc⟩ := m.fJ;obtain ⟨g, rfl, hg⟩ := hc (by omega);obtain⟨u,K⟩:=zx N.us.length
 have U : Hid (∀ W, Below w.heap.size w W -> W.cell? ⟨X, 1, none⟩ = some (.slice (some ⟨g, 0, none⟩) u d) /\ W.cell? ⟨g, i * 2, none⟩ = some (.int .i64 (N.us.getD i pz).1) /\ W.cell? ⟨g, i * 2 + 1, none⟩ = some (.string (N.us.getD i pz).2)) := fun W hb => by
  refine ⟨aA hb ?_, aA hb (hg i hi).1, aA hb (hg i hi).2⟩;have P := aB m.blk (i := 1) (u := vu) rfl;rw [P, T, K]
 generalize N.us.getD i pz = q at U |-;rw [<- K] at hu hi;have z1 : decide ((i : Int) < 0) = false := by simp
 have z2 : decide ((u : Int) <= (i : Int)) = false := by simp; omega
 have z5 : ¬ (u : Int) <= (i : Int) := by omega
 have z7 : (i : Int) < (u : Int) := by omega
 have z9 : (0 : Int) <= (i : Int) := by omega
 have L : Below w.heap.size w (w.alloc (.cells #[.int .i64 5, .int .i64 i, .int .i64 b, .int .i64 c] 33)) := (qD _ _).alloc (qC _) _;have p := heap_alloc_new w (.cells #[.int .i64 5, .int .i64 i, .int .i64 b, .int .i64 c] 33);have HM := Hid.mk' m;have a4 := Hid.mk' hF;have n := Hid.mk' K;have ak := Hid.mk' T;have bq : (i : Int) + 1 <= (u : Int) := by omega
 clear m hF K T hc hg;go_in;go_upto_region 1 with fail
 generalize w.alloc (.cells #[.int .i64 5, .int .i64 i, .int .i64 b, .int .i64 c] 33) = w0 at L p |-;have a5 := Hid.mk' L;have ay : Hid (w0.heap[w.heap.size]? = some (.cells #[.int .i64 5, .int .i64 i, .int .i64 b, .int .i64 c] 33)) := p;have Q : Hid (∀ W, Below w0.heap.size w0 W -> W.cell? ⟨w.heap.size, 0, none⟩ = some (.int .i64 5) /\ W.cell? ⟨w.heap.size, 1, none⟩ = some (.int .i64 i)) := fun W hb => ⟨aA hb (aB p (i := 0) rfl), aA hb (aB p (i := 1) rfl)⟩
 obtain ⟨B, s⟩ := Q.out w0 (qD _ _);obtain ⟨t, x2, x3⟩ := U.out w0 L;clear L p;go_wp2_with fail;go_quiet (fail)
 generalize V : World.drewN _ _ = w1;have al : Hid (Below w.heap.size w w1) := by rw [<- V]; exact La.aC a5.out _
 have HR1 : Hid (Below w0.heap.size w0 w1) := by rw [<- V]; exact La.aC (qD _ _) _
 clear V B s t x2 x3;obtain ⟨B, s⟩ := Q.out w1 HR1.out;obtain ⟨t, x2, x3⟩ := U.out w1 al.out;have R : Hid (∀ O, Below w1.heap.size w1 (w1.alloc O)) := fun O => (qD _ w1).alloc (qC _) O
 have d1 : ∀ O, (w1.alloc O).cell? ⟨X, 1, none⟩ = some (.slice (some ⟨g, 0, none⟩) u d) := fun O => aA (R.out O) t
 have d2 : ∀ O, (w1.alloc O).cell? ⟨g, i * 2, none⟩ = some (.int .i64 q.1) := fun O => aA (R.out O) x2
 have d3 : ∀ O, (w1.alloc O).cell? ⟨g, i * 2 + 1, none⟩ = some (.string q.2) := fun O => aA (R.out O) x3
 have d4 : ∀ O, (w1.alloc O).cell? ⟨w.heap.size, 1, none⟩ = some (.int .i64 i) := fun O => aA (R.out O) s
 go_upto_region 22 with fail
 go_cut [6] (fun s6 wx => s6 = .pointer (some ⟨w1.heap.size, 0, none⟩) /\ Hid (Below w1.heap.size w1 wx /\ wx.heap[w1.heap.size]? = some (.cells #[.int .i64 q.1, .string q.2] 70)))
 case first =>
  go_region_law (fail)
  all_goals
   go_wp2_with fail;go_meet
   case rel => exact ⟨rfl, (R.out _).drew, heap_alloc_new w1 _⟩
 case rest =>
  obtain ⟨rfl, HR⟩ := hcut;have M : Hid (Below w.heap.size w wc) := bel al.out HR.out.1;have v : Hid (Below w0.heap.size w0 wc) := bel HR1.out HR.out.1;clear B s t x2 x3 d1 d2 d3 d4 R;have B := (Q.out wc v.out).1;obtain ⟨xc, _⟩ := U.out wc M.out;have t := xc;have s := (Q.out wc v.out).2;clear xc
  have y : Hid (NAt wc X vd (.slice (some ⟨g, 0, none⟩) u d) N E Fd) := by
   have P := HM.out.below M.out;rw [ak.out, <- n.out] at P; exact P
  have am : Hid (u <= d /\ d <= maxLen) := by
   obtain ⟨C, D, e9, P, h8, _⟩ := y.out.fJ;injection e9 with _ e9 e10
   rw [e10, e9]; exact ⟨P, h8⟩
  have br : u <= d := am.out.1;have bs : d <= 9223372036854775807 := by have := am.out.2; unfold maxLen at this; omega
  have bt : i <= d := by omega
  have bm : i + 1 <= d := by omega
  obtain ⟨w2, a8⟩ : ∃ W, W = wc := ⟨_, rfl⟩;subst a8;go_upto_region 29 with fail
  go_cut [7] (fun s7 wx => ∃ (G : Option Addr) (Y H : Nat), s7 = .slice G Y H /\ Hid (Y = i /\ RowP wx (.slice G Y H) (N.us.take i) /\ Below w2.heap.size w2 wx /\ ∀ k, (Value.slice G Y H).ownBlock = some k -> w2.heap.size <= k))
  case first =>
   go_region_law (refine Gh.lJ (by rfl) (.tmp 142) (.tmp 149) (by rfl) (.slice none 0 0) 0 i d [] (N.us.take i) (by rfl) ⟨g, 0, none⟩ (by rfl) rfl (by rw [qQ, <- n.out]; omega) (by omega) (jT _ _ _ _) (Gh.sT (own_below y.out.ru (qD _ w2).drew) i) ?_; intro S w9 f hg9 l; obtain ⟨C, I, D, rfl, an⟩ := aG f; have a9 : Hid (I = i) := (by rw [Hid, an.out, vC, qQ, <- n.out]; omega); have Z : Hid (RowP w9 (.slice C I D) (N.us.take i)) := f; have aa : Hid (Below w2.heap.size w2 w9) := (qD _ w2).drew.grown hg9 (qC _) (fun k hk => by cases hk); have ab : Hid (∀ k, (Value.slice C I D).ownBlock = some k -> w2.heap.size <= k) := (fun k hk => by rcases l with e | e <;> rw [hk] at e <;> cases e; exact qC _); clear f hg9 l an)
   all_goals
    go_wp2_with fail;go_meet
    case rel => exact ⟨C, I, D, rfl, a9.out, Z.out, aa.out, ab.out⟩
  case rest =>
   obtain ⟨G, Y, H, rfl, H7⟩ := hcut;obtain ⟨w3, ba⟩ : ∃ W, W = wc := ⟨_, rfl⟩;subst ba;have bb := H7.out.1.symm;subst bb;have HR3 : Hid (RowP w3 (.slice G i H) (N.us.take i)) := H7.out.2.1;have z : Hid (Below w2.heap.size w2 w3) := H7.out.2.2.1;have ad : Hid (∀ k, (Value.slice G i H).ownBlock = some k -> w2.heap.size <= k) := H7.out.2.2.2;have ao : Hid (NAt w3 X vd (.slice (some ⟨g, 0, none⟩) u d) N E Fd) := y.out.below z.out;have ae : Hid (w2.heap.size <= w3.heap.size) := z.out.size;clear H7 t B s;obtain ⟨t, _⟩ := U.out w3 (bel M.out z.out);obtain ⟨B, s⟩ := Q.out w3 (bel v.out z.out);have ap : Hid ((N.us.drop (i + 1)).length = u - (i + 1)) := by rw [Hid, xH, <- n.out]
   obtain ⟨A, hA, a0⟩ : ∃ A : Addr, (if d = i + 1 then some (⟨g, 0, none⟩ : Addr) else some ⟨g, (i + 1) * 2, none⟩) = some A /\ Hid (∀ j x, (flatP (N.us.drop (i + 1)))[j]? = some x -> w3.drew.cell? (A.add j) = some x) := by
    by_cases h : d = i + 1
    ·refine ⟨⟨g, 0, none⟩, by rw [if_pos h], fun j x hx => ?_⟩;have h0 : (flatP (N.us.drop (i + 1))).length = 0 := by rw [bA, ap.out]; omega
     rw [List.length_eq_zero_iff.1 h0] at hx;simp at hx
    ·exact ⟨⟨g, (i + 1) * 2, none⟩, by rw [if_neg h], Gh.tH (own_below ao.out.ru (qD _ w3).drew) (i + 1)⟩
   have bc : Hid ((N.us.take i).length = i) := by rw [Hid, qQ, <- n.out]; omega
   have aq : Hid (X < w2.heap.size) := y.out.oM;have bd : Hid (NtB w3.drew X vd (.slice (some ⟨g, 0, none⟩) u d)) := (ao.out.below (qD _ w3).drew).blk;have be : IntKind.i64.wrap ((i : Int) + 1) = ((i + 1 : Nat) : Int) := by rw [Gr.bG (by omega) (by omega)]; omega
   have bv : i + 1 <= u := by omega
   have bw : (0 : Int) <= (i : Int) + 1 := by omega
   go_upto_region 30 with fail
   go_cut [7] (fun _ wx => Hid (∃ (S : Value) (w9 : World), RowP w9 S (N.us.eraseIdx i) /\ Below w2.heap.size w2 w9 /\ (∀ k, S.ownBlock = some k -> (Value.slice (some ⟨g, 0, none⟩) u d).ownBlock = some k \/ w2.heap.size <= k) /\ wx = w9.setCell ⟨X, 1, none⟩ S))
   case first =>
    go_region_law (refine Gh.lJ (by rfl) (.tmp 152) (.tmp 160) (by rfl) (.slice G i H) i (u - (i + 1)) (d - (i + 1)) (N.us.take i) (N.us.drop (i + 1)) (by rfl) A (by first | rfl | simp [Act.eval, Act.put]) bc.out ap.out (by omega) (own_below HR3.out (qD _ w3).drew) a0.out ?_; intro S w9 f hg9 l; obtain ⟨C, I, D, rfl, _⟩ := aG f; have J : NtB w9 X vd (.slice (some ⟨g, 0, none⟩) u d) := (hg9.block X (jE aq.out ae.out) (fun e => absurd (ad.out X e.symm) (Nat.not_le.2 aq.out))).trans bd.out; have q9 := aB J (i := 1) (u := .slice (some ⟨g, 0, none⟩) u d) rfl; have bx := aF J (i := 1); have Z : Hid (RowP w9 (.slice C I D) (N.us.eraseIdx i)) := (by rw [Hid, List.eraseIdx_eq_take_drop_succ]; exact f); have aa : Hid (Below w2.heap.size w2 w9) := z.out.drew.grown hg9 ae.out (fun k hk => ad.out k hk); have ab : Hid (∀ k, (Value.slice C I D).ownBlock = some k -> (Value.slice (some ⟨g, 0, none⟩) u d).ownBlock = some k \/ w2.heap.size <= k) := (fun k hk => qF (by rcases l with e | e; exact ad.out k (e.symm.trans hk); rw [hk] at e; injection e with e; rw [e]; exact ae.out)); clear f hg9 l J)
    all_goals
     go_wp2_with fail;go_meet
     case rel => exact ⟨_, w9, Z.out, aa.out, ab.out, rfl⟩
   case rest =>
    obtain ⟨S, w9, f, af, l, ag⟩ := hcut.out;obtain ⟨r1, r2, r3⟩ := y.out.sC (Chg.ofBelow af _) f l (fun x hx => HM.out.sz x ((List.eraseIdx_sublist _ _).subset hx));rw [<- ag] at r1 r2;have ar : Value.slice (some ⟨g, 0, none⟩) u d = vu := by rw [ak.out, n.out]
    rw [ar] at r2 r3;have HR1' := Hid.mk' r1;have HR2' := Hid.mk' r2;have HR3' := Hid.mk' r3;have HK : Hid (∀ k, k < w2.heap.size -> k ≠ X -> wc.heap[k]? = w2.heap[k]?) := fun k hk hx => by rw [ag, set_block _ _ _ _ hx]; exact af.block k hk
    have au : Hid (w.heap.size < w2.heap.size /\ w.heap.size ≠ X) := ⟨jE (qG.1 ay.out).1 v.out.size, fun e => by have := HM.out.oM; omega⟩;have bf : Hid (∀ o, wc.cell? ⟨w.heap.size, o, none⟩ = w2.cell? ⟨w.heap.size, o, none⟩) := fun o => aM (HK.out _ au.out.1 au.out.2)
    have z0 : wc.cell? ⟨w.heap.size, 0, none⟩ = some (.int .i64 5) := (bf.out 0).trans (Q.out w2 v.out).1;have av := M;clear hcut f af l ag r1 r2 r3 ar t B s hA be;go_wp2_with fail;go_ret;exact ⟨rfl, dM a4.out HR1'.out ((Chg.ofBelow av.out _).trans HR2'.out) fun k hk => (HR3'.out k hk).imp id fun e => qO av.out.size e⟩
end Gi
end Go.Proofs.YtjcemlmlfoilmaaGreatDoor
