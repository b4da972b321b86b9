import Derived.Test.YtjcemlmlfoilmaaGreatDoorX2
set_option linter.unusedVariables false
set_option maxRecDepth 100000
set_option maxHeartbeats 8000000
namespace Go.Proofs.YtjcemlmlfoilmaaGreatDoor
open Go.Proofs.Tryz (prog)
namespace Xs
open Go.RowKit Cm Na Om Oa Oz Oc Oi Hm Ia Ic Ie Ii Xp Xq Xr
open La (bel aC own_below Lies)
open Lj (BookAt)
variable (B:Nat -> Prop)(E:Nat)(S:Dq)(F:Nat -> Prop)(a b:Int)(p:ByteArray)(c:Int)(vs:Value)(s:List Dt)(w:World)
theorem aBu(h : RefAt B w E S F)(hd : DtsAt w vs s)(hi : In B vs)(hp : p.size <= maxLen)(ho : opE ((a, b), 3, p, c, s) = 0)(hpc : Pm.chk p.toList = 0)(hkn : kn S a + 1 = b)(hf : S.ops.length < 400)(hdo : doE S ((a, b), 3, p, c, s) = 0)(hsw : saw S.ops p (a, b) = true):
  Calls prog 71 #[.pointer (some ⟨E, 0, none⟩), .agg #[.int .i64 a, .int .i64 b, .int .i64 3, .string p, .int .i64 c, vs]] w (RPost B w E S F ((a, b), 3, p, c, s)) := by
 have dc := z9 h;obtain ⟨I, gk, vb, vm, vo, H⟩ := h;have ab : Hid (zB w (w.alloc (.cells #[zI a, zI b, zI 3, .string p, zI c, vs] 97))) := (qD _ w).alloc (qC _) _;have H6 := z9 (aT w a b 3 p c vs 97);have ac : Hid (∀ W, zB w W -> Calls prog 91 #[.agg #[zI a, zI b, zI 3, .string p, zI c, vs]] W fun e w' => e = .returned (zI (opE ((a, b), 3, p, c, s))) /\ zB W w') := fun W hb => Ob.dR a b 3 p c vs s W hp (hd.below hb)
 have az : doB S ((a, b), 3, p, c, s) = S.book := by unfold doB; rw [if_neg (by decide : ¬ (3 : Int) = 1), if_neg (by decide : ¬ (3 : Int) = 2)]
 have a0 : doM S ((a, b), 3, p, c, s) = S.marks := by unfold doM; rw [if_pos rfl]; simp only [hsw, if_true]
 have bs := z9 az;have bt := z9 a0
 have CS : Hid (∀ W, zB w W -> Calls prog 94 #[.pointer (some (zA E)), .string p, .agg #[zI a, zI b]] W fun e w' => e = .returned (.bool true) /\ zB W w') := fun W hb => by
  rw [<- hsw];exact Hb.gZ E vo S.ops p a b W (aB (H.below hb).blk rfl) (H.below hb).ops.at (by have := I.few; omega) (fun x hx => qO (bB.1 (aO.1 (I.right x hx)).2.2.2).2.2.2.1 (by decide))
 have bn := z9 (aZ.2 ⟨ho, hkn, hf, hdo⟩);have HI := z9 I;have bv : Hid (∀ W, zB w W -> DtsAt W vs s) := fun W hb => hd.below hb
 have a1 := z9 hi;obtain ⟨ps, ns, cs, bw⟩ : ∃ p n c, vs = .slice p n c := by obtain ⟨p, c, e, _⟩ := hd; exact ⟨_, _, _, e⟩
 subst bw;obtain ⟨i0, dd, de, df, dg⟩ := info_parts aAL;rw [ho] at ac;obtain ⟨d1, d2, d3, d4⟩ := bH.1 (aO.1 ho).1;simp only at d1 d2 d3 d4;obtain⟨q,hq⟩:=zx (kn S a);have a2 : a.toNat - 1 < 8 := by omega
 have ag : (a - 1).toNat = a.toNat - 1 := by omega
 have bx := z9 ag
 have bz : Hid (∀ W, zB w W -> W.cell? ⟨gk, a.toNat - 1, none⟩ = some (zI q)) := fun W hb => by
  obtain ⟨G, k1, k2⟩ := (H.below hb).kn;refine aB k1 ?_;have a3 : a.toNat - 1 < S.known.length := by rw [I.klen]; exact a2
  rw [<- kJ, k2, qT, qB a3, hq];unfold kn;rw [ag, qA, qB a3]; rfl
 obtain ⟨k, f, l, a4⟩ : ∃ p n c, vo = .slice p n c := by obtain ⟨L, _, e, _⟩ := H.ops; obtain ⟨p, n, c, Z, _⟩ := aG e; exact ⟨p, n, c, Z⟩
 obtain ⟨m, r, t, b0⟩ : ∃ p n c, vb = .slice p n c := by obtain ⟨p, c, e, _⟩ := H.book; exact ⟨_, _, _, e⟩
 obtain ⟨y, z, A, b1⟩ : ∃ p n c, vm = .slice p n c := by obtain ⟨p, c, e, _⟩ := H.marks; exact ⟨_, _, _, e⟩
 have R : Hid (f = S.ops.length) := by
  obtain ⟨L, _, e, _⟩ := H.ops;obtain ⟨p, n, c, Z, e3⟩ := aG e;rw [a4] at Z;injection Z with _ Z _
  exact Z.trans e3.out
 have j := z9 H;subst a4 b0 b1;have T : Hid (∀ W, zB w W -> W.heap[E]? = some (.cells #[.slice m r t, .slice y z A, .slice (some (zA gk)) 8 8, .slice k f l] 52)) := fun W hb => (H.below hb).blk
 have dh : 0 <= a - 1 := by omega
 have di : a - 1 < 8 := by omega
 rw [<- hq] at hkn;have cp : ¬ b <= q := by omega
 have cq : ¬ q < b - 1 := by omega
 have dj : ¬ (400 : Int) <= f := by have := R.out; omega
 have dk : f < 400 := by have := R.out; omega
 clear hd hi hp ho H I hq a2 ag hf hpc az a0 hdo hsw;go_in;obtain ⟨o0, o1, o2, o3, o4, o5⟩ := H6.out;go_wp2_with fail;refine (ac.out _ ab.out).mono ?_;rintro e w2 ⟨rfl, U⟩;have an := z9 (bel ab.out U);obtain ⟨o0, o1, o2, o3, o4, o5⟩ := H6.out.below U;have a5 := z9 (H6.out.below U);have x2 := aB (T.out w2 an.out) (i := 2) (u := .slice (some (zA gk)) 8 8) rfl;have xk := bz.out w2 an.out;clear U ac H6 ab;go_wp2_with fail;have dl : IntKind.i64.wrap (a - 1) = a - 1 := bG (by omega) (by omega);go_quiet (fail)
 generalize ao : World.drewN _ _ = wq;have M : Hid (zB w wq) := by rw [<- ao]; exact aC an.out _
 have a6 : Hid (Six wq w.heap.size a b 3 p c (.slice ps ns cs)) := by rw [<- ao]; exact a5.out
 clear ao o0 o1 o2 o3 o4 o5 x2 xk a5;obtain ⟨o0, o1, o2, o3, o4, o5⟩ := a6.out;have x3 := aB (T.out wq M.out) (i := 3) (u := .slice k f l) rfl;have x0 := aB (T.out wq M.out) (i := 0) (u := .slice m r t) rfl;have x1 := aB (T.out wq M.out) (i := 1) (u := .slice y z A) rfl;go_wp2_with fail;refine (CS.out wq M.out).mono ?_;rintro e w7 ⟨rfl, ap⟩;have V := z9 (bel M.out ap);have b2 := z9 (a6.out.below ap);have a7 : Hid (BookAt w7 (.slice m r t) (doB S ((a, b), 3, p, c, s)) /\ In (Gn (News' F w w7) E gk (.slice k f l)) (.slice m r t)) := ⟨(by rw [bs.out]; exact j.out.book.below V.out), j.out.bookG.mono fun g hg => ⟨qH hg.1, hg.2⟩⟩;have a8 : Hid (MksAt w7 (.slice y z A) (doM S ((a, b), 3, p, c, s)) /\ In (Gn (News' F w w7) E gk (.slice k f l)) (.slice y z A)) := ⟨(by rw [bt.out]; exact j.out.marks.below V.out), j.out.marksG.mono fun g hg => ⟨qH hg.1, hg.2⟩⟩
 all_goals
  obtain ⟨a9, ba⟩ := nD (i := a.toNat - 1) (n := b) j.out V.out a7.out.1 a7.out.2 a8.out.1 a8.out.2;have C := j.out.below V.out;obtain ⟨G, aq, bb⟩ := C.kn;have ar : E ≠ gk := blk_ne C.blk aq (by decide);have bp : a.toNat - 1 < G.size := by have K := congrArg List.length bb; rw [jM, HI.out.klen] at K; have h8 : G.toList.length = G.size := (by simp); omega
  have X : Hid (E < w.heap.size /\ gk < w.heap.size) := ⟨(j.out.lt _ (j.out.wr _ (qH rfl))).2, (j.out.lt _ (j.out.wr _ (qF (qH rfl)))).2⟩;have y0 := aB C.blk (i := 0) (u := .slice m r t) rfl;have g0 := aF C.blk (i := 0);have Y := set_heap (i := 0) (v := .slice m r t) C.blk;have y1 := aB Y (i := 1) (u := .slice y z A) rfl;have g1 := aF Y (i := 1);have bc := set_heap (i := 1) (v := .slice y z A) Y;have y2 := aB bc (i := 2) (u := .slice (some (zA gk)) 8 8) rfl;have au : ((w7.setCell (zA E) (.slice m r t)).setCell ⟨E, 1, none⟩ (.slice y z A)).heap[gk]? = some (.cells G 3 (0, 0)) := by rw [set_block _ _ _ _ ar.symm, set_block _ _ _ _ ar.symm]; exact aq
  have y4 := aB au (i := a.toNat - 1) (u := G[a.toNat - 1]) (yT bp);have g4 := aF au (i := a.toNat - 1);have av : Hid (Six ((w7.setCell (zA E) (.slice m r t)).setCell ⟨E, 1, none⟩ (.slice y z A)) w.heap.size a b 3 p c (.slice ps ns cs)) := cB b2.out (by rw [set_block _ _ _ _ (by have := X.out.1; simp; omega), set_block _ _ _ _ (by have := X.out.1; simp; omega)]);have bd : Hid (Six (st3 w7 E gk (a.toNat - 1) (.slice m r t) (.slice y z A) b) w.heap.size a b 3 p c (.slice ps ns cs)) := cB av.out (by unfold st3; rw [set_block _ _ _ _ (by have := X.out.2; simp; omega)]);obtain ⟨r0, r1, _, _, _, _⟩ := av.out;have aw := z9 a9;have D := z9 ba;have b5 : ((w7.setCell (zA E) (.slice m r t)).setCell ⟨E, 1, none⟩ (.slice y z A)).drew.cell? ⟨gk, a.toNat - 1, none⟩ = some G[a.toNat - 1] := y4;have b6 : ((w7.setCell (zA E) (.slice m r t)).setCell ⟨E, 1, none⟩ (.slice y z A)).drew.frozen? ⟨gk, a.toNat - 1, none⟩ = false := g4;have be : w.heap.size ≠ gk := by have := X.out.2; omega
  clear a9 ba C aq bb Y bc au av o0 o1 o2 o3 o4 o5 x0 x1 x3 ap y4 g4;go_wp2_with fail;go_region_held3 (fun W => W.cell? ⟨E, 2, none⟩ = some (.slice (some (zA gk)) 8 8) /\ W.cell? (zW w) = some (zI a) /\ W.cell? ⟨w.heap.size, 1, none⟩ = some (zI b)) (first | (refine ⟨(bJ ar).trans ?_, (bJ be).trans ?_, (bJ be).trans ?_⟩ <;> (go_split_ands; assumption)) | (go_keep; done)) (fail)
  generalize N : World.setCell _ ⟨gk, a.toNat - 1, none⟩ _ = w8;have hh : w8.heap = (st3 w7 E gk (a.toNat - 1) (.slice m r t) (.slice y z A) b).heap := by rw [<- N]; rfl
  have P : Hid (RefMem B w8 E gk (.slice m r t) (.slice y z A) (.slice k f l) ⟨doB S ((a, b), 3, p, c, s), doM S ((a, b), 3, p, c, s), S.known.set (a.toNat - 1) b, S.ops⟩ (News' F w w7)) := aw.out.stay (fun g _ => by rw [hh]) (by rw [hh]; exact qC _);have bf : Hid (Chg F w w8) := ⟨by rw [<- N]; exact D.out.os, by rw [<- N]; exact D.out.tape, by rw [<- N]; exact D.out.output, by rw [hh]; exact D.out.size, fun g hg hf => by rw [hh]; exact D.out.block g hg hf⟩;have b7 := z9 (cB bd.out (by rw [hh]));clear N hh aw D bd y0 g0 y1 g1 y2 b5 b6 r0 r1;obtain ⟨L, hL, bg, bh⟩ := P.out.ops;have b9 := z9 hL;have ca := z9 bh;have bi : Hid (w8.ownsRow 0 97 6 (.slice k f l) f (flatO L)) := by have K : w8.ownsRow 0 97 6 (.slice k f l) S.ops.length (flatO L) := bg; rw [<- R.out] at K; exact K
  have ax : Hid (∀ O, zB w8 (w8.alloc O).drew.drew) := fun O => ((qD _ w8).alloc (qC _) O).drew.drew
  have cc : Hid (∀ O, (w8.alloc O).drew.drew.ownsRow 0 97 6 (.slice k f l) f (flatO L)) := fun O => own_below bi.out (ax.out O)
  have bj : Hid (∀ O, (w8.alloc O).drew.drew.heap[E]? = some (.cells #[.slice m r t, .slice y z A, .slice (some (zA gk)) 8 8, .slice k f l] 52)) := fun O => (P.out.below (ax.out O)).blk
  have q8 := fun O => aB (bj.out O) (i := 3) (u := .slice k f l) rfl
  have q7 : ∀ O, (w8.alloc O).cell? ⟨E, 3, none⟩ = some (.slice k f l) := q8;have cd : Hid (DtsAt w8 (.slice ps ns cs) s) := bI (bv.out w (qD _ _)) a1.out (bf.out.stay fun g hg => ⟨j.out.old g hg, fun e => (j.out.lt g e).1 hg⟩)
  have bq : Hid (∀ g, (Value.slice k f l).ownBlock = some g -> g = E -> False) := fun g hg e => by
   obtain ⟨_, c5, hc⟩ := aL bi.out g hg;exact blk_ne hc P.out.blk (by decide) e
  have z3 := aB P.out.blk (i := 3) (u := .slice k f l) rfl;obtain ⟨o0, o1, o2, o3, o4, o5⟩ := b7.out;clear hL bg bh;go_wp2_with fail
  go_region_law (
   (refine eQ (by rfl) (.tmp 140) (.tmp 142) (by rfl) (.slice k f l) f L ((a, b), 3, p, c, s) ps ns cs (by rfl) w8.heap.size (by rfl) (by omega) (cc.out _) (heap_alloc_new w8 _) ?_; intro v9 w9 hr9 hg9 hl9; obtain ⟨p9, n9, c9, rfl, _⟩ := aG hr9; have Q := (eZ (bj.out _) hg9 (fun e => bq.out E e rfl)); have q9 := aB Q (i := 3) (u := .slice k f l) rfl; have dm := aF Q (i := 3); have bk := Hid.mk' hr9; have bl := Hid.mk' hg9; have bm := Hid.mk' hl9; clear hr9 hg9 hl9 Q))
  all_goals
   have HP : Hid (RPost B w E S F ((a, b), 3, p, c, s) (.returned (.tuple #[.bool true, zI 0])) (w9.setCell ⟨E, 3, none⟩ (.slice p9 n9 c9))) := (oG (o := ((a, b), 3, p, c, s)) (F1 := News' F w w7) (vb := .slice m r t) (vm := .slice y z A) (vo := .slice k f l) (gk := gk) (L := L) HI.out bn.out bf.out (fun g hg => hg.imp id And.left) (by have K := P.out; rw [<- bx.out] at K; exact K) b9.out ca.out (ax.out _) cd.out a1.out bl.out (by have K := bk.out; rw [R.out] at K; exact K) bm.out);clear bk bl bm;go_wp2_with fail;go_ret2;exact HP.out
theorem aFe(h : RefAt B w E S F)(hd : DtsAt w vs s)(hi : In B vs)(hp : p.size <= maxLen)(ho : opE ((a, b), 3, p, c, s) = 0)(hpc : Pm.chk p.toList = 0)(hkn : kn S a + 1 = b)(hf : S.ops.length < 400)(hsw : saw S.ops p (a, b) = false)(k : Int)(hdo : doE S ((a, b), 3, p, c, s) = k)(h0 : k ≠ 0):
  Calls prog 71 #[.pointer (some ⟨E, 0, none⟩), .agg #[.int .i64 a, .int .i64 b, .int .i64 3, .string p, .int .i64 c, vs]] w (RPost B w E S F ((a, b), 3, p, c, s)) := by
 have am := z9 h
 obtain ⟨I, gk, vb, P, vo, d⟩ := h
 have y : Hid (zB w (w.alloc (.cells #[zI a, zI b, zI 3, .string p, zI c, vs] 97))) := (qD _ w).alloc (qC _) _
 have Q := z9 (aT w a b 3 p c vs 97)
 have z : Hid (∀ W, zB w W -> Calls prog 91 #[.agg #[zI a, zI b, zI 3, .string p, zI c, vs]] W fun e w' => e = .returned (zI (opE ((a, b), 3, p, c, s))) /\ zB W w') := fun W hb => Ob.dR a b 3 p c vs s W hp (hd.below hb)
 have HN : Hid (isNew S ((a, b), 3, p, c, s) = false) := by
  unfold Hid
  cases h9 : isNew S ((a, b), 3, p, c, s)
  ·rfl
  ·have h8 := (aZ.1 h9).2.2.2; rw [hdo] at h8; exact absurd h8 h0
 have HE : Hid (apE S ((a, b), 3, p, c, s) = k) := by unfold Hid apE; rw [if_neg (by simpa using ho)]; simp only; rw [if_neg (by omega), if_neg (by omega), if_neg (by omega), hdo]
 have bj : (k == 0) = false := by simpa using h0
 have bk : (k != 0) = true := by simpa using h0
 have ap : doB S ((a, b), 3, p, c, s) = S.book := by unfold doB; rw [if_neg (by decide : ¬ (3 : Int) = 1), if_neg (by decide : ¬ (3 : Int) = 2)]
 have V : doE S ((a, b), 3, p, c, s) = withM S.marks (p, (a, b)) := by unfold doE; rw [if_neg (by decide : ¬ (3 : Int) = 1), if_neg (by decide : ¬ (3 : Int) = 2), if_pos rfl]; simp only [hsw]; rfl
 have aq : doM S ((a, b), 3, p, c, s) = ins mlt S.marks (p, (a, b)) := by unfold doM; rw [if_pos rfl]; simp only [hsw]; rfl
 have CC : Hid (∀ W, zB w W -> Calls prog 95 #[P, .agg #[.string p, zI a, zI b]] W fun e w' => ∃ v', e = .returned (.tuple #[v', zI (doE S ((a, b), 3, p, c, s))]) /\ (MksAt w' v' (Wd.withL S.marks (p, (a, b))) /\ (v' = P \/ Lies w.heap.size v')) /\ zB W w') := fun W hb => by
  rw [V]
  exact (We.aAE P S.marks p a b W (d.marks.below hb) (aY.1 I.marks).2.2 (aY.1 I.marks).1).mono fun e w' ⟨v', h1, h2, h3⟩ => ⟨v', h1, ⟨h2.1, h2.2.imp id fun h9 => h9.mono hb.size⟩, h3⟩
 have CS : Hid (∀ W, zB w W -> Calls prog 94 #[.pointer (some (zA E)), .string p, .agg #[zI a, zI b]] W fun e w' => e = .returned (.bool false) /\ zB W w') := fun W hb => by
  rw [<- hsw]
  exact Hb.gZ E vo S.ops p a b W (aB (d.below hb).blk rfl) (d.below hb).ops.at (by have := I.few; omega) (fun x hx => qO (bB.1 (aO.1 (I.right x hx)).2.2.2).2.2.2.1 (by decide))
 rw [hdo] at CC
 rw [ho] at z
 obtain ⟨d1, d2, d3, d4⟩ := bH.1 (aO.1 ho).1
 simp only at d1 d2 d3 d4
 obtain⟨q,hq⟩:=zx (kn S a)
 have X : a.toNat - 1 < 8 := by omega
 have A : (a - 1).toNat = a.toNat - 1 := by omega
 have bl := z9 A
 have au : Hid (∀ W, zB w W -> W.cell? ⟨gk, a.toNat - 1, none⟩ = some (zI q)) := fun W hb => by
  obtain ⟨bm, k1, k2⟩ := (d.below hb).kn
  refine aB k1 ?_
  have Y : a.toNat - 1 < S.known.length := by rw [I.klen]; exact X
  rw [<- kJ, k2, qT, qB Y, hq]
  unfold kn
  rw [A, qA, qB Y]; rfl
 obtain ⟨po, t, co, Z⟩ : ∃ p n c, vo = .slice p n c := by obtain ⟨L, _, e, _⟩ := d.ops; obtain ⟨p, n, c, v, _⟩ := aG e; exact ⟨p, n, c, v⟩
 obtain ⟨pb, nb, cb, av⟩ : ∃ p n c, vb = .slice p n c := by obtain ⟨p, c, e, _⟩ := d.book; exact ⟨_, _, _, e⟩
 obtain ⟨R, T, U, aw⟩ : ∃ p n c, P = .slice p n c := by obtain ⟨p, c, e, _⟩ := d.marks; exact ⟨_, _, _, e⟩
 have ab : Hid (t = S.ops.length) := by
  obtain ⟨L, _, e, _⟩ := d.ops
  obtain ⟨p, n, c, v, e3⟩ := aG e
  rw [Z] at v
  injection v with _ v _
  exact v.trans e3.out
 have bn := z9 d
 subst Z av aw
 have f : Hid (∀ W, zB w W -> W.heap[E]? = some (.cells #[.slice pb nb cb, .slice R T U, .slice (some (zA gk)) 8 8, .slice po t co] 52)) := fun W hb => (d.below hb).blk
 have bo : 0 <= a - 1 := by omega
 have bp : a - 1 < 8 := by omega
 rw [<- hq] at hkn
 have bf : ¬ b <= q := by omega
 have bg : ¬ q < b - 1 := by omega
 have bq : ¬ (400 : Int) <= t := by have := ab.out; omega
 have br : t < 400 := by have := ab.out; omega
 clear hd hi hp ho d I hq X A hf hpc ap V aq hdo hsw
 go_in
 obtain ⟨C, D, G, H, J, K⟩ := Q.out
 go_wp2_with fail
 refine (z.out _ y.out).mono ?_
 rintro e w2 ⟨rfl, r⟩
 have M := z9 (bel y.out r)
 obtain ⟨C, D, G, H, J, K⟩ := Q.out.below r
 have ac := z9 (Q.out.below r)
 have x2 := aB (f.out w2 M.out) (i := 2) (u := .slice (some (zA gk)) 8 8) rfl
 have xk := au.out w2 M.out
 clear r z Q y
 go_wp2_with fail
 have bs : IntKind.i64.wrap (a - 1) = a - 1 := bG (by omega) (by omega)
 go_quiet (fail)
 generalize N : World.drewN _ _ = wq
 have m : Hid (zB w wq) := by rw [<- N]; exact aC M.out _
 have ad : Hid (Six wq w.heap.size a b 3 p c vs) := by rw [<- N]; exact ac.out
 clear N C D G H J K x2 xk ac
 obtain ⟨C, D, G, H, J, K⟩ := ad.out
 have x3 := aB (f.out wq m.out) (i := 3) (u := .slice po t co) rfl
 have x0 := aB (f.out wq m.out) (i := 0) (u := .slice pb nb cb) rfl
 have x1 := aB (f.out wq m.out) (i := 1) (u := .slice R T U) rfl
 go_wp2_with fail
 refine (CS.out wq m.out).mono ?_
 rintro e w6 ⟨rfl, O⟩
 have o := z9 (bel m.out O)
 have a0 := z9 (ad.out.below O)
 clear C D G H J K x0 x1 x3 O
 obtain ⟨C, D, G, H, J, K⟩ := a0.out
 have x0 := aB (f.out w6 o.out) (i := 0) (u := .slice pb nb cb) rfl
 have x1 := aB (f.out w6 o.out) (i := 1) (u := .slice R T U) rfl
 have x3 := aB (f.out w6 o.out) (i := 3) (u := .slice po t co) rfl
 go_wp2_with fail
 go_region_held3 (fun W => W.cell? ⟨E, 1, none⟩ = some (.slice R T U) /\ W.cell? ⟨w.heap.size, 3, none⟩ = some (.string p) /\ W.cell? (zW w) = some (zI a) /\ W.cell? ⟨w.heap.size, 1, none⟩ = some (zI b)) (first | (go_keep; done) | (refine ⟨aA j ?_, aA j ?_, aA j ?_, aA j ?_⟩ <;> (go_split_ands; assumption))) (first
  | (go_at_call 95; refine (CC.out _ o.out.drew).mono ?_; rintro e w7 ⟨v7, rfl, a1, j⟩; have a2 := z9 (bel o.out.drew j); clear a1))
 all_goals
  clear j
  go_wp2_with fail
  go_ret2
  exact RPost.no am.out HN.out HE.out a2.out
theorem aEi(h : RefAt B w E S F)(hd : DtsAt w vs s)(hi : In B vs)(hp : p.size <= maxLen)(ho : opE ((a, b), 3, p, c, s) = 0)(hpc : Pm.chk p.toList = 0)(hkn : kn S a + 1 = b)(hf : S.ops.length < 400)(hsw : saw S.ops p (a, b) = false)(hdo : doE S ((a, b), 3, p, c, s) = 0):
  Calls prog 71 #[.pointer (some ⟨E, 0, none⟩), .agg #[.int .i64 a, .int .i64 b, .int .i64 3, .string p, .int .i64 c, vs]] w (RPost B w E S F ((a, b), 3, p, c, s)) := by
 have dn := z9 h
 obtain ⟨I, gk, vb, vm, vo, J⟩ := h
 have aj : Hid (zB w (w.alloc (.cells #[zI a, zI b, zI 3, .string p, zI c, vs] 97))) := (qD _ w).alloc (qC _) _
 have H6 := z9 (aT w a b 3 p c vs 97)
 have ak : Hid (∀ W, zB w W -> Calls prog 91 #[.agg #[zI a, zI b, zI 3, .string p, zI c, vs]] W fun e w' => e = .returned (zI (opE ((a, b), 3, p, c, s))) /\ zB W w') := fun W hb => Ob.dR a b 3 p c vs s W hp (hd.below hb)
 have a6 : doB S ((a, b), 3, p, c, s) = S.book := by unfold doB; rw [if_neg (by decide : ¬ (3 : Int) = 1), if_neg (by decide : ¬ (3 : Int) = 2)]
 have al : doE S ((a, b), 3, p, c, s) = withM S.marks (p, (a, b)) := by unfold doE; rw [if_neg (by decide : ¬ (3 : Int) = 1), if_neg (by decide : ¬ (3 : Int) = 2), if_pos rfl]; simp only [hsw]; rfl
 have a7 : doM S ((a, b), 3, p, c, s) = ins mlt S.marks (p, (a, b)) := by unfold doM; rw [if_pos rfl]; simp only [hsw]; rfl
 have CC : Hid (∀ W, zB w W -> Calls prog 95 #[vm, .agg #[.string p, zI a, zI b]] W fun e w' => ∃ v', e = .returned (.tuple #[v', zI (doE S ((a, b), 3, p, c, s))]) /\ (MksAt w' v' (Wd.withL S.marks (p, (a, b))) /\ (v' = vm \/ Lies w.heap.size v')) /\ zB W w') := fun W hb => by
  rw [al]
  exact (We.aAE vm S.marks p a b W (J.marks.below hb) (aY.1 I.marks).2.2 (aY.1 I.marks).1).mono fun e w' ⟨v', h1, h2, h3⟩ => ⟨v', h1, ⟨h2.1, h2.2.imp id fun C => C.mono hb.size⟩, h3⟩
 have CS : Hid (∀ W, zB w W -> Calls prog 94 #[.pointer (some (zA E)), .string p, .agg #[zI a, zI b]] W fun e w' => e = .returned (.bool false) /\ zB W w') := fun W hb => by
  rw [<- hsw]
  exact Hb.gZ E vo S.ops p a b W (aB (J.below hb).blk rfl) (J.below hb).ops.at (by have := I.few; omega) (fun x hx => qO (bB.1 (aO.1 (I.right x hx)).2.2.2).2.2.2.1 (by decide))
 have b5 : Hid (Wd.withL S.marks (p, (a, b)) = doM S ((a, b), 3, p, c, s)) := by unfold Hid Wd.withL; rw [a7, if_pos (al.symm.trans hdo)]
 have b6 := z9 a6
 rw [hdo] at CC
 have bw := z9 (aZ.2 ⟨ho, hkn, hf, hdo⟩)
 have HI := z9 I
 have b8 : Hid (∀ W, zB w W -> DtsAt W vs s) := fun W hb => hd.below hb
 have a8 := z9 hi
 obtain ⟨ps, ns, cs, b9⟩ : ∃ p n c, vs = .slice p n c := by obtain ⟨p, c, e, _⟩ := hd; exact ⟨_, _, _, e⟩
 subst b9
 obtain ⟨i0, dp, dq, dr, ds⟩ := info_parts aAL
 rw [ho] at ak
 obtain ⟨d1, d2, d3, d4⟩ := bH.1 (aO.1 ho).1
 simp only at d1 d2 d3 d4
 obtain⟨q,hq⟩:=zx (kn S a)
 have a9 : a.toNat - 1 < 8 := by omega
 have ap : (a - 1).toNat = a.toNat - 1 := by omega
 have ca := z9 ap
 have cc : Hid (∀ W, zB w W -> W.cell? ⟨gk, a.toNat - 1, none⟩ = some (zI q)) := fun W hb => by
  obtain ⟨K, k1, k2⟩ := (J.below hb).kn
  refine aB k1 ?_
  have ba : a.toNat - 1 < S.known.length := by rw [I.klen]; exact a9
  rw [<- kJ, k2, qT, qB ba, hq]
  unfold kn
  rw [ap, qA, qB ba]; rfl
 obtain ⟨j, f, k, bb⟩ : ∃ p n c, vo = .slice p n c := by obtain ⟨L, _, e, _⟩ := J.ops; obtain ⟨p, n, c, e2, _⟩ := aG e; exact ⟨p, n, c, e2⟩
 obtain ⟨m, r, t, cd⟩ : ∃ p n c, vb = .slice p n c := by obtain ⟨p, c, e, _⟩ := J.book; exact ⟨_, _, _, e⟩
 obtain ⟨pm, nm, cm, ce⟩ : ∃ p n c, vm = .slice p n c := by obtain ⟨p, c, e, _⟩ := J.marks; exact ⟨_, _, _, e⟩
 have ac : Hid (f = S.ops.length) := by
  obtain ⟨L, _, e, _⟩ := J.ops
  obtain ⟨p, n, c, e2, e3⟩ := aG e
  rw [bb] at e2
  injection e2 with _ e2 _
  exact e2.trans e3.out
 have l := z9 J
 subst bb cd ce
 have M : Hid (∀ W, zB w W -> W.heap[E]? = some (.cells #[.slice m r t, .slice pm nm cm, .slice (some (zA gk)) 8 8, .slice j f k] 52)) := fun W hb => (J.below hb).blk
 have dt : 0 <= a - 1 := by omega
 have du : a - 1 < 8 := by omega
 rw [<- hq] at hkn
 have c2 : ¬ b <= q := by omega
 have c3 : ¬ q < b - 1 := by omega
 have dv : ¬ (400 : Int) <= f := by have := ac.out; omega
 have dw : f < 400 := by have := ac.out; omega
 clear hd hi hp ho J I hq a9 ap hf hpc a6 al a7 hdo hsw
 go_in
 obtain ⟨U, V, X, Y, Z, o5⟩ := H6.out
 go_wp2_with fail
 refine (ak.out _ aj.out).mono ?_
 rintro e w2 ⟨rfl, ad⟩
 have av := z9 (bel aj.out ad)
 obtain ⟨U, V, X, Y, Z, o5⟩ := H6.out.below ad
 have bc := z9 (H6.out.below ad)
 have x2 := aB (M.out w2 av.out) (i := 2) (u := .slice (some (zA gk)) 8 8) rfl
 have xk := cc.out w2 av.out
 clear ad ak H6 aj
 go_wp2_with fail
 have dx : IntKind.i64.wrap (a - 1) = a - 1 := bG (by omega) (by omega)
 go_quiet (fail)
 generalize aw : World.drewN _ _ = wq
 have P : Hid (zB w wq) := by rw [<- aw]; exact aC av.out _
 have bd : Hid (Six wq w.heap.size a b 3 p c (.slice ps ns cs)) := by rw [<- aw]; exact bc.out
 clear aw U V X Y Z o5 x2 xk bc
 obtain ⟨U, V, X, Y, Z, o5⟩ := bd.out
 have x3 := aB (M.out wq P.out) (i := 3) (u := .slice j f k) rfl
 have x0 := aB (M.out wq P.out) (i := 0) (u := .slice m r t) rfl
 have x1 := aB (M.out wq P.out) (i := 1) (u := .slice pm nm cm) rfl
 go_wp2_with fail
 refine (CS.out wq P.out).mono ?_
 rintro e w6 ⟨rfl, ax⟩
 have Q := z9 (bel P.out ax)
 have be := z9 (bd.out.below ax)
 clear U V X Y Z o5 x0 x1 x3 ax
 obtain ⟨U, V, X, Y, Z, o5⟩ := be.out
 have x0 := aB (M.out w6 Q.out) (i := 0) (u := .slice m r t) rfl
 have x1 := aB (M.out w6 Q.out) (i := 1) (u := .slice pm nm cm) rfl
 have x3 := aB (M.out w6 Q.out) (i := 3) (u := .slice j f k) rfl
 go_wp2_with fail
 go_region_held3 (fun W => W.cell? ⟨E, 1, none⟩ = some (.slice pm nm cm) /\ W.cell? ⟨w.heap.size, 3, none⟩ = some (.string p) /\ W.cell? (zW w) = some (zI a) /\ W.cell? ⟨w.heap.size, 1, none⟩ = some (zI b)) (first | (go_keep; done) | (refine ⟨aA N ?_, aA N ?_, aA N ?_, aA N ?_⟩ <;> (go_split_ands; assumption))) (first
  | (go_at_call 95; refine (CC.out _ Q.out.drew).mono ?_; rintro e w7 ⟨v7, rfl, ae, N⟩; obtain ⟨D, G, H, rfl⟩ : ∃ p n c, v7 = .slice p n c := (by obtain ⟨⟨p, c, e, _⟩, _⟩ := ae; exact ⟨_, _, _, e⟩); have ay := z9 (bel Q.out.drew N); have bf : Hid (BookAt w7 (.slice m r t) (doB S ((a, b), 3, p, c, s)) /\ In (Gn (News' F w w7) E gk (.slice j f k)) (.slice m r t)) := ⟨(by rw [b6.out]; exact l.out.book.below ay.out), l.out.bookG.mono fun g hg => ⟨qH hg.1, hg.2⟩⟩; have bg : Hid (MksAt w7 (.slice D G H) (doM S ((a, b), 3, p, c, s)) /\ In (Gn (News' F w w7) E gk (.slice j f k)) (.slice D G H)) := ⟨(by rw [<- b5.out]; exact ae.1), aC0 l.out ae⟩; have cf := z9 (be.out.below (zJ N)); clear ae))
 all_goals
  obtain ⟨bh, bi⟩ := nD (i := a.toNat - 1) (n := b) l.out ay.out bf.out.1 bf.out.2 bg.out.1 bg.out.2
  have z := l.out.below ay.out
  obtain ⟨K, az, bj⟩ := z.kn
  have a0 : E ≠ gk := blk_ne z.blk az (by decide)
  have b2 : a.toNat - 1 < K.size := by have C := congrArg List.length bj; rw [jM, HI.out.klen] at C; have h8 : K.toList.length = K.size := (by simp); omega
  have af : Hid (E < w.heap.size /\ gk < w.heap.size) := ⟨(l.out.lt _ (l.out.wr _ (qH rfl))).2, (l.out.lt _ (l.out.wr _ (qF (qH rfl)))).2⟩
  have y0 := aB z.blk (i := 0) (u := .slice m r t) rfl
  have g0 := aF z.blk (i := 0)
  have ag := set_heap (i := 0) (v := .slice m r t) z.blk
  have y1 := aB ag (i := 1) (u := .slice pm nm cm) rfl
  have g1 := aF ag (i := 1)
  have bk := set_heap (i := 1) (v := .slice D G H) ag
  have y2 := aB bk (i := 2) (u := .slice (some (zA gk)) 8 8) rfl
  have a1 : ((w7.setCell (zA E) (.slice m r t)).setCell ⟨E, 1, none⟩ (.slice D G H)).heap[gk]? = some (.cells K 3 (0, 0)) := by rw [set_block _ _ _ _ a0.symm, set_block _ _ _ _ a0.symm]; exact az
  have y4 := aB a1 (i := a.toNat - 1) (u := K[a.toNat - 1]) (yT b2)
  have g4 := aF a1 (i := a.toNat - 1)
  have a2 : Hid (Six ((w7.setCell (zA E) (.slice m r t)).setCell ⟨E, 1, none⟩ (.slice D G H)) w.heap.size a b 3 p c (.slice ps ns cs)) := cB cf.out (by rw [set_block _ _ _ _ (by have := af.out.1; simp; omega), set_block _ _ _ _ (by have := af.out.1; simp; omega)])
  have bl : Hid (Six (st3 w7 E gk (a.toNat - 1) (.slice m r t) (.slice D G H) b) w.heap.size a b 3 p c (.slice ps ns cs)) := cB a2.out (by unfold st3; rw [set_block _ _ _ _ (by have := af.out.2; simp; omega)])
  obtain ⟨r0, r1, _, _, _, _⟩ := a2.out
  have a3 := z9 bh
  have A := z9 bi
  have ci : ((w7.setCell (zA E) (.slice m r t)).setCell ⟨E, 1, none⟩ (.slice D G H)).drew.cell? ⟨gk, a.toNat - 1, none⟩ = some K[a.toNat - 1] := y4
  have cj : ((w7.setCell (zA E) (.slice m r t)).setCell ⟨E, 1, none⟩ (.slice D G H)).drew.frozen? ⟨gk, a.toNat - 1, none⟩ = false := g4
  have bm : w.heap.size ≠ gk := by have := af.out.2; omega
  clear bh bi z az bj ag bk a1 a2 U V X Y Z o5 x0 x1 x3 N y4 g4
  go_wp2_with fail
  go_region_held3 (fun W => W.cell? ⟨E, 2, none⟩ = some (.slice (some (zA gk)) 8 8) /\ W.cell? (zW w) = some (zI a) /\ W.cell? ⟨w.heap.size, 1, none⟩ = some (zI b)) (first | (refine ⟨(bJ a0).trans ?_, (bJ bm).trans ?_, (bJ bm).trans ?_⟩ <;> (go_split_ands; assumption)) | (go_keep; done)) (fail)
  generalize R : World.setCell _ ⟨gk, a.toNat - 1, none⟩ _ = w8
  have hh : w8.heap = (st3 w7 E gk (a.toNat - 1) (.slice m r t) (.slice D G H) b).heap := by rw [<- R]; rfl
  have T : Hid (RefMem B w8 E gk (.slice m r t) (.slice D G H) (.slice j f k) ⟨doB S ((a, b), 3, p, c, s), doM S ((a, b), 3, p, c, s), S.known.set (a.toNat - 1) b, S.ops⟩ (News' F w w7)) := a3.out.stay (fun g _ => by rw [hh]) (by rw [hh]; exact qC _)
  have bn : Hid (Chg F w w8) := ⟨by rw [<- R]; exact A.out.os, by rw [<- R]; exact A.out.tape, by rw [<- R]; exact A.out.output, by rw [hh]; exact A.out.size, fun g hg hf => by rw [hh]; exact A.out.block g hg hf⟩
  have ck := z9 (cB bl.out (by rw [hh]))
  clear R hh a3 A bl y0 g0 y1 g1 y2 ci cj r0 r1
  obtain ⟨L, hL, bo, bp⟩ := T.out.ops
  have cn := z9 hL
  have cp := z9 bp
  have bq : Hid (w8.ownsRow 0 97 6 (.slice j f k) f (flatO L)) := by have C : w8.ownsRow 0 97 6 (.slice j f k) S.ops.length (flatO L) := bo; rw [<- ac.out] at C; exact C
  have a4 : Hid (∀ O, zB w8 (w8.alloc O).drew.drew) := fun O => ((qD _ w8).alloc (qC _) O).drew.drew
  have cq : Hid (∀ O, (w8.alloc O).drew.drew.ownsRow 0 97 6 (.slice j f k) f (flatO L)) := fun O => own_below bq.out (a4.out O)
  have br : Hid (∀ O, (w8.alloc O).drew.drew.heap[E]? = some (.cells #[.slice m r t, .slice D G H, .slice (some (zA gk)) 8 8, .slice j f k] 52)) := fun O => (T.out.below (a4.out O)).blk
  have q8 := fun O => aB (br.out O) (i := 3) (u := .slice j f k) rfl
  have q7 : ∀ O, (w8.alloc O).cell? ⟨E, 3, none⟩ = some (.slice j f k) := q8
  have cr : Hid (DtsAt w8 (.slice ps ns cs) s) := bI (b8.out w (qD _ _)) a8.out (bn.out.stay fun g hg => ⟨l.out.old g hg, fun e => (l.out.lt g e).1 hg⟩)
  have b3 : Hid (∀ g, (Value.slice j f k).ownBlock = some g -> g = E -> False) := fun g hg e => by
   obtain ⟨_, dh, hc⟩ := aL bq.out g hg
   exact blk_ne hc T.out.blk (by decide) e
  have z3 := aB T.out.blk (i := 3) (u := .slice j f k) rfl
  obtain ⟨U, V, X, Y, Z, o5⟩ := ck.out
  clear hL bo bp
  go_wp2_with fail
  go_region_law (
   (refine eQ (by rfl) (.tmp 140) (.tmp 142) (by rfl) (.slice j f k) f L ((a, b), 3, p, c, s) ps ns cs (by rfl) w8.heap.size (by rfl) (by omega) (cq.out _) (heap_alloc_new w8 _) ?_; intro v9 w9 hr9 hg9 hl9; obtain ⟨p9, n9, c9, rfl, _⟩ := aG hr9; have ab := (eZ (br.out _) hg9 (fun e => b3.out E e rfl)); have q9 := aB ab (i := 3) (u := .slice j f k) rfl; have dy := aF ab (i := 3); have bs := Hid.mk' hr9; have bt := Hid.mk' hg9; have bu := Hid.mk' hl9; clear hr9 hg9 hl9 ab))
  all_goals
   have HP : Hid (RPost B w E S F ((a, b), 3, p, c, s) (.returned (.tuple #[.bool true, zI 0])) (w9.setCell ⟨E, 3, none⟩ (.slice p9 n9 c9))) := (oG (o := ((a, b), 3, p, c, s)) (F1 := News' F w w7) (vb := .slice m r t) (vm := .slice D G H) (vo := .slice j f k) (gk := gk) (L := L) HI.out bw.out bn.out (fun g hg => hg.imp id And.left) (by have C := T.out; rw [<- ca.out] at C; exact C) cn.out cp.out (a4.out _) cr.out a8.out bt.out (by have C := bs.out; rw [ac.out] at C; exact C) bu.out)
   clear bs bt bu
   go_wp2_with fail
   go_ret2
   exact HP.out
theorem aHz(B:Nat->Prop)(E:Nat)(S:Dq)(F:Nat->Prop)(a b:Int)(p:ByteArray)(c:Int)(vs:Value)(s:List Dt)(w:World)(h:RefAt B w E S F)(hd:DtsAt w vs s)(hi:In B vs)(hp:p.size<=maxLen)(ho:opE ((a,b),4,p,c,s)=0)(hpc:Pm.chk p.toList=0)(hkn:kn S a+1=b)(hf:S.ops.length<400)  :
  Calls prog 71 #[.pointer (some ⟨E,0,none⟩),.agg #[.int .i64 a,.int .i64 b,.int .i64 4,.string p,.int .i64 c,vs]] w (RPost B w E S F ((a,b),4,p,c,s)):=by
 have dj:=z9 h
 obtain⟨I,gk,vb,vm,vo,M⟩:=h
 have af:Hid (zB w (w.alloc (.cells #[zI a,zI b,zI 4,.string p,zI c,vs] 97))):=(qD _ w).alloc (qC _) _
 have H6:=z9 (aT w a b 4 p c vs 97)
 have ag:Hid (∀W,zB w W->Calls prog 91 #[.agg #[zI a,zI b,zI 4,.string p,zI c,vs]] W fun e w'=>e=.returned (zI (opE ((a,b),4,p,c,s)))/\zB W w'):=fun W hb=>Ob.dR a b 4 p c vs s W hp (hd.below hb)
 have a3:doB S ((a,b),4,p,c,s)=S.book:=by unfold doB;rw[if_neg (by decide:¬(4:Int)=1),if_neg (by decide:¬(4:Int)=2)]
 have a4:doE S ((a,b),4,p,c,s)=0:=by unfold doE;rw[if_neg (by decide:¬(4:Int)=1),if_neg (by decide:¬(4:Int)=2),if_neg (by decide:¬(4:Int)=3)]
 have a5:doM S ((a,b),4,p,c,s)=without S.marks p s:=by unfold doM;rw[if_neg (by decide:¬(4:Int)=3),if_pos rfl]
 have bs:s.length<=40:=(bB.1 (aO.1 ho).2.2.2).2.2.2.1
 have CC:Hid (∀W,zB w W->Calls prog 96 #[vm,.string p,vs] W fun e w'=>∃v',e=.returned v'/\MksNew w.heap.size w' v' (doM S ((a,b),4,p,c,s))/\zB W w'):=fun W hb=>by
  rw[a5]
  exact(We.aBx vm S.marks p vs s W (M.marks.below hb) (aY.1 I.marks).1 (hd.below hb) (by omega)).mono fun e w' ⟨v',h1,h2,h3⟩=>⟨v',h1,h2.mono hb.size,h3⟩
 have bx:=z9 a3
 have bt:=z9 (aZ.2 ⟨ho,hkn,hf,a4⟩)
 have HI:=z9 I
 have b0:Hid (∀W,zB w W->DtsAt W vs s):=fun W hb=>hd.below hb
 have a6:=z9 hi
 obtain⟨ps,ns,cs,b1⟩:∃p n c,vs=.slice p n c:=by obtain⟨p,c,e,_⟩:=hd;exact⟨_,_,_,e⟩
 subst b1
 obtain⟨i0,dk,dl,dm,dn⟩:=info_parts aAL
 rw[ho] at ag
 obtain⟨d1,d2,d3,d4⟩:=bH.1 (aO.1 ho).1
 simp only at d1 d2 d3 d4
 obtain⟨q,hq⟩:=zx (kn S a)
 have a7:a.toNat-1<8:=by omega
 have ah:(a-1).toNat=a.toNat-1:=by omega
 have b2:=z9 ah
 have b3:Hid (∀W,zB w W->W.cell? ⟨gk,a.toNat-1,none⟩=some (zI q)):=fun W hb=>by
  obtain⟨H,k1,k2⟩:=(M.below hb).kn
  refine aB k1 ?_
  have a8:a.toNat-1<S.known.length:=by rw[I.klen];exact a7
  rw[<-kJ,k2,qT,qB a8,hq]
  unfold kn
  rw[ah,qA,qB a8];rfl
 obtain⟨k,f,l,a9⟩:∃p n c,vo=.slice p n c:=by obtain⟨L,_,e,_⟩:=M.ops;obtain⟨p,n,c,e2,_⟩:=aG e;exact⟨p,n,c,e2⟩
 obtain⟨m,r,t,b4⟩:∃p n c,vb=.slice p n c:=by obtain⟨p,c,e,_⟩:=M.book;exact⟨_,_,_,e⟩
 obtain⟨pm,nm,cm,b5⟩:∃p n c,vm=.slice p n c:=by obtain⟨p,c,e,_⟩:=M.marks;exact⟨_,_,_,e⟩
 have U:Hid (f=S.ops.length):=by
  obtain⟨L,_,e,_⟩:=M.ops
  obtain⟨p,n,c,e2,e3⟩:=aG e
  rw[a9] at e2
  injection e2 with _ e2 _
  exact e2.trans e3.out
 have j:=z9 M
 subst a9 b4 b5
 have V:Hid (∀W,zB w W->W.heap[E]? =some (.cells #[.slice m r t,.slice pm nm cm,.slice (some (zA gk)) 8 8,.slice k f l] 52)):=fun W hb=>(M.below hb).blk
 have dp:0<=a-1:=by omega
 have dq:a-1<8:=by omega
 rw[<-hq] at hkn
 have cv:¬b<=q:=by omega
 have cw:¬q<b-1:=by omega
 have dr:¬(400:Int)<=f:=by have:=U.out;omega
 have ds:f<400:=by have:=U.out;omega
 clear hd hi hp ho M I hq a7 ah hf hpc a3 a5 a4 bs
 go_in
 obtain⟨o0,o1,o2,o3,o4,o5⟩:=H6.out
 go_wp2_with fail
 refine(ag.out _ af.out).mono ?_
 rintro e w2 ⟨rfl,X⟩
 have ao:=z9 (bel af.out X)
 obtain⟨o0,o1,o2,o3,o4,o5⟩:=H6.out.below X
 have ba:=z9 (H6.out.below X)
 have x2:=aB (V.out w2 ao.out) (i:=2) (u:=.slice (some (zA gk)) 8 8) rfl
 have xk:=b3.out w2 ao.out
 clear X ag H6 af
 go_wp2_with fail
 have dt:IntKind.i64.wrap (a-1)=a-1:=bG (by omega) (by omega)
 go_quiet (fail)
 generalize ap:World.drewN _ _=wq
 have N:Hid (zB w wq):=by rw[<-ap];exact aC ao.out _
 have bb:Hid (Six wq w.heap.size a b 4 p c (.slice ps ns cs)):=by rw[<-ap];exact ba.out
 clear ap o0 o1 o2 o3 o4 o5 x2 xk ba
 obtain⟨o0,o1,o2,o3,o4,o5⟩:=bb.out
 have x3:=aB (V.out wq N.out) (i:=3) (u:=.slice k f l) rfl
 have x0:=aB (V.out wq N.out) (i:=0) (u:=.slice m r t) rfl
 have x1:=aB (V.out wq N.out) (i:=1) (u:=.slice pm nm cm) rfl
 go_wp2_with fail
 go_region_held3 (fun W=>W.cell? ⟨E,1,none⟩=some (.slice pm nm cm)/\W.cell? ⟨w.heap.size,3,none⟩=some (.string p)/\W.cell? ⟨w.heap.size,5,none⟩=some (.slice ps ns cs)) (first | (go_keep;done) | (refine⟨aA K ?_,aA K ?_,aA K ?_⟩<;>(go_split_ands;assumption))) (first
  | (go_at_call 96;refine(CC.out _ N.out.drew).mono ?_;rintro e w7 ⟨v7,rfl,P,K⟩;obtain⟨A,C,D,rfl⟩:∃p n c,v7=.slice p n c:=(by obtain⟨⟨p,c,e,_⟩,_⟩:=P;exact⟨_,_,_,e⟩);have aq:=z9 (bel N.out.drew K);have bc:Hid (BookAt w7 (.slice m r t) (doB S ((a,b),4,p,c,s))/\In (Gn (News' F w w7) E gk (.slice k f l)) (.slice m r t)):=⟨(by rw[bx.out];exact j.out.book.below aq.out),j.out.bookG.mono fun g hg=>⟨qH hg.1,hg.2⟩⟩;have bd:Hid (MksAt w7 (.slice A C D) (doM S ((a,b),4,p,c,s))/\In (Gn (News' F w w7) E gk (.slice k f l)) (.slice A C D)):=⟨P.1,aC0 j.out ⟨P.1,qF P.2⟩⟩;have b6:=z9 (bb.out.below (zJ K));clear P))
 all_goals
  obtain⟨be,bf⟩:=nD (i:=a.toNat-1) (n:=b) j.out aq.out bc.out.1 bc.out.2 bd.out.1 bd.out.2
  have y:=j.out.below aq.out
  obtain⟨H,ar,bg⟩:=y.kn
  have au:E≠gk:=blk_ne y.blk ar (by decide)
  have bv:a.toNat-1<H.size:=by have J:=congrArg List.length bg;rw[jM,HI.out.klen] at J;have h8:H.toList.length=H.size:=(by simp);omega
  have Y:Hid (E<w.heap.size/\gk<w.heap.size):=⟨(j.out.lt _ (j.out.wr _ (qH rfl))).2,(j.out.lt _ (j.out.wr _ (qF (qH rfl)))).2⟩
  have y0:=aB y.blk (i:=0) (u:=.slice m r t) rfl
  have g0:=aF y.blk (i:=0)
  have Z:=set_heap (i:=0) (v:=.slice m r t) y.blk
  have y1:=aB Z (i:=1) (u:=.slice pm nm cm) rfl
  have g1:=aF Z (i:=1)
  have bh:=set_heap (i:=1) (v:=.slice A C D) Z
  have y2:=aB bh (i:=2) (u:=.slice (some (zA gk)) 8 8) rfl
  have av:((w7.setCell (zA E) (.slice m r t)).setCell ⟨E,1,none⟩ (.slice A C D)).heap[gk]? =some (.cells H 3 (0,0)):=by rw[set_block _ _ _ _ au.symm,set_block _ _ _ _ au.symm];exact ar
  have y4:=aB av (i:=a.toNat-1) (u:=H[a.toNat-1]) (yT bv)
  have g4:=aF av (i:=a.toNat-1)
  have aw:Hid (Six ((w7.setCell (zA E) (.slice m r t)).setCell ⟨E,1,none⟩ (.slice A C D)) w.heap.size a b 4 p c (.slice ps ns cs)):=cB b6.out (by rw[set_block _ _ _ _ (by have:=Y.out.1;simp;omega),set_block _ _ _ _ (by have:=Y.out.1;simp;omega)])
  have bi:Hid (Six (st3 w7 E gk (a.toNat-1) (.slice m r t) (.slice A C D) b) w.heap.size a b 4 p c (.slice ps ns cs)):=cB aw.out (by unfold st3;rw[set_block _ _ _ _ (by have:=Y.out.2;simp;omega)])
  obtain⟨r0,r1,_,_,_,_⟩:=aw.out
  have ax:=z9 be
  have z:=z9 bf
  have b9:((w7.setCell (zA E) (.slice m r t)).setCell ⟨E,1,none⟩ (.slice A C D)).drew.cell? ⟨gk,a.toNat-1,none⟩=some H[a.toNat-1]:=y4
  have ca:((w7.setCell (zA E) (.slice m r t)).setCell ⟨E,1,none⟩ (.slice A C D)).drew.frozen? ⟨gk,a.toNat-1,none⟩=false:=g4
  have bj:w.heap.size≠gk:=by have:=Y.out.2;omega
  clear be bf y ar bg Z bh av aw o0 o1 o2 o3 o4 o5 x0 x1 x3 K y4 g4
  go_wp2_with fail
  go_region_held3 (fun W=>W.cell? ⟨E,2,none⟩=some (.slice (some (zA gk)) 8 8)/\W.cell? (zW w)=some (zI a)/\W.cell? ⟨w.heap.size,1,none⟩=some (zI b)) (first | (refine⟨(bJ au).trans ?_,(bJ bj).trans ?_,(bJ bj).trans ?_⟩<;>(go_split_ands;assumption)) | (go_keep;done)) (fail)
  generalize Q:World.setCell _ ⟨gk,a.toNat-1,none⟩ _=w8
  have hh:w8.heap=(st3 w7 E gk (a.toNat-1) (.slice m r t) (.slice A C D) b).heap:=by rw[<-Q];rfl
  have R:Hid (RefMem B w8 E gk (.slice m r t) (.slice A C D) (.slice k f l) ⟨doB S ((a,b),4,p,c,s),doM S ((a,b),4,p,c,s),S.known.set (a.toNat-1) b,S.ops⟩ (News' F w w7)):=ax.out.stay (fun g _=>by rw[hh]) (by rw[hh];exact qC _)
  have bk:Hid (Chg F w w8):=⟨by rw[<-Q];exact z.out.os,by rw[<-Q];exact z.out.tape,by rw[<-Q];exact z.out.output,by rw[hh];exact z.out.size,fun g hg hf=>by rw[hh];exact z.out.block g hg hf⟩
  have cc:=z9 (cB bi.out (by rw[hh]))
  clear Q hh ax z bi y0 g0 y1 g1 y2 b9 ca r0 r1
  obtain⟨L,hL,bl,bm⟩:=R.out.ops
  have ce:=z9 hL
  have cf:=z9 bm
  have bn:Hid (w8.ownsRow 0 97 6 (.slice k f l) f (flatO L)):=by have J:w8.ownsRow 0 97 6 (.slice k f l) S.ops.length (flatO L):=bl;rw[<-U.out] at J;exact J
  have ay:Hid (∀O,zB w8 (w8.alloc O).drew.drew):=fun O=>((qD _ w8).alloc (qC _) O).drew.drew
  have cg:Hid (∀O,(w8.alloc O).drew.drew.ownsRow 0 97 6 (.slice k f l) f (flatO L)):=fun O=>own_below bn.out (ay.out O)
  have bo:Hid (∀O,(w8.alloc O).drew.drew.heap[E]? =some (.cells #[.slice m r t,.slice A C D,.slice (some (zA gk)) 8 8,.slice k f l] 52)):=fun O=>(R.out.below (ay.out O)).blk
  have q8:=fun O=>aB (bo.out O) (i:=3) (u:=.slice k f l) rfl
  have q7:∀O,(w8.alloc O).cell? ⟨E,3,none⟩=some (.slice k f l):=q8
  have ch:Hid (DtsAt w8 (.slice ps ns cs) s):=bI (b0.out w (qD _ _)) a6.out (bk.out.stay fun g hg=>⟨j.out.old g hg,fun e=>(j.out.lt g e).1 hg⟩)
  have bw:Hid (∀g,(Value.slice k f l).ownBlock=some g->g=E->False):=fun g hg e=>by
   obtain⟨_,dd,hc⟩:=aL bn.out g hg
   exact blk_ne hc R.out.blk (by decide) e
  have z3:=aB R.out.blk (i:=3) (u:=.slice k f l) rfl
  obtain⟨o0,o1,o2,o3,o4,o5⟩:=cc.out
  clear hL bl bm
  go_wp2_with fail
  go_region_law (
   (refine eQ (by rfl) (.tmp 140) (.tmp 142) (by rfl) (.slice k f l) f L ((a,b),4,p,c,s) ps ns cs (by rfl) w8.heap.size (by rfl) (by omega) (cg.out _) (heap_alloc_new w8 _) ?_;intro v9 w9 hr9 hg9 hl9;obtain⟨p9,n9,c9,rfl,_⟩:=aG hr9;have T:=(eZ (bo.out _) hg9 (fun e=>bw.out E e rfl));have q9:=aB T (i:=3) (u:=.slice k f l) rfl;have du:=aF T (i:=3);have bp:=Hid.mk' hr9;have bq:=Hid.mk' hg9;have br:=Hid.mk' hl9;clear hr9 hg9 hl9 T))
  all_goals
   have HP:Hid (RPost B w E S F ((a,b),4,p,c,s) (.returned (.tuple #[.bool true,zI 0])) (w9.setCell ⟨E,3,none⟩ (.slice p9 n9 c9))):=(oG (o:=((a,b),4,p,c,s)) (F1:=News' F w w7) (vb:=.slice m r t) (vm:=.slice A C D) (vo:=.slice k f l) (gk:=gk) (L:=L) HI.out bt.out bk.out (fun g hg=>hg.imp id And.left) (by have J:=R.out;rw[<-b2.out] at J;exact J) ce.out cf.out (ay.out _) ch.out a6.out bq.out (by have J:=bp.out;rw[U.out] at J;exact J) br.out)
   clear bp bq br
   go_wp2_with fail
   go_ret2
   exact HP.out
theorem vH(B:Nat->Prop)(E:Nat)(S:Dq)(F:Nat->Prop)(a b t:Int)(p:ByteArray)(c:Int)(vs:Value)(s:List Dt)(w:World)(h:RefAt B w E S F)(hd:DtsAt w vs s)(hi:In B vs)(hp:p.size<=maxLen):
  Calls prog 71 #[.pointer (some ⟨E,0,none⟩),.agg #[.int .i64 a,.int .i64 b,.int .i64 t,.string p,.int .i64 c,vs]] w (RPost B w E S F ((a,b),t,p,c,s)):=by
 by_cases e:opE ((a,b),t,p,c,s)=0
 ·obtain⟨j,k,i,l⟩:=aO.1 e;simp only at j k i l;by_cases m:b<=kn S a
  ·exact aBf B E S F a b t p c vs s w h hd hi hp e m
  ·by_cases n:kn S a<b-1
   ·exact aGd B E S F a b t p c vs s w h hd hi hp e n
   ·by_cases o:400<=S.ops.length
    ·exact aH4 B E S F a b t p c vs s w h hd hi hp e (by omega) o
    ·have f:kn S a+1=b:=by omega
     have g:S.ops.length<400:=by omega
     have q:t=1\/t=2\/t=3\/t=4:=by omega
     rcases q with rfl | rfl | rfl | rfl
     ·by_cases d:doE S ((a,b),1,p,c,s)=0
      ·exact aAW B E S F a b p c vs s w h hd hi hp e i f g d
      ·exact aBs B E S F a b p c vs s w h hd hi hp e i f g _ rfl d
     ·by_cases d:doE S ((a,b),2,p,c,s)=0
      ·exact yL B E S F a b p c vs s w h hd hi hp e i f g d
      ·exact aAo B E S F a b p c vs s w h hd hi hp e i f g _ rfl d
     ·by_cases d:doE S ((a,b),3,p,c,s)=0
      ·cases hsw:saw S.ops p (a,b)
       ·exact aEi B E S F a b p c vs s w h hd hi hp e i f g hsw d
       ·exact aBu B E S F a b p c vs s w h hd hi hp e i f g d hsw
      ·cases hsw:saw S.ops p (a,b)
       ·exact aFe B E S F a b p c vs s w h hd hi hp e i f g hsw _ rfl d
       ·exfalso;apply d;unfold doE;rw[if_neg (by decide:¬(3:Int)=1),if_neg (by decide:¬(3:Int)=2),if_pos rfl];simp only[hsw,if_true]
     ·exact aHz B E S F a b p c vs s w h hd hi hp e i f g
 ·exact aF4 B E S F a b t p c vs s w h hd hi hp _ rfl e
end Xs
end Go.Proofs.YtjcemlmlfoilmaaGreatDoor
