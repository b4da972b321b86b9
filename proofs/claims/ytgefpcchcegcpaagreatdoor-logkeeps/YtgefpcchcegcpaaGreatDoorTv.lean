/- Package log: Crash; all that the laws ask of package log. -/
import Derived.Test.YtgefpcchcegcpaaGreatDoorTt
import Derived.Test.YtgefpcchcegcpaaGreatDoorTu
import Derived.Test.YtgefpcchcegcpaaGreatDoorTo
namespace Go.Proofs.YtgefpcchcegcpaaGreatDoor
namespace Tv
set_option linter.unusedVariables false
set_option linter.unusedSimpArgs false
open Go.ChangeShapes Go.WideShapes Go.ChangeAt Go.RowKit Cm Ka Kb Na Om Oa Oz Oc Og Oi Hm Ia Ic Ie Ih Ij Ik Tg Th Tp Tr Ts Tt
open La (bel bel_drew errV_zero errV_ne own_ge own_grow own_below Lies)
open Tu (Byt ops_any)
open Toj (OpsJ OJt New)

/- the bytes that are left -/
theorem byt_left {w : World} {p0 : Option Addr} {n0 q0 hi : Nat} {bs : List UInt8} (h : Row w 0 (.slice p0 n0 q0) bs) (hh : hi ≤ n0) : Byt w (.slice p0 hi q0) (bs.take hi) ∧ hi ≤ q0 := by
  have hn := h.slice
  have h2 := h.2
  obtain ⟨p, c, hv, h3, h4⟩ := hn
  injection hv with e1 e2 e3
  subst e1 e3
  have hl : (bs.take hi).length = hi := by rw [List.length_take]; omega
  rcases h2 with ⟨e, e0⟩ | ⟨g, cap, cur, e, _, _, hnc, _⟩
  · injection e with f1 f2 f3
    have hz : hi = 0 := by omega
    subst hz
    exact ⟨⟨p0, q0, rfl, Nat.zero_le _, fun hne => absurd rfl hne⟩, Nat.zero_le _⟩
  · injection e with f1 f2 f3
    subst f1 f3
    refine ⟨⟨some ⟨g, 0, none⟩, q0, by rw [hl], by omega, fun _ => ⟨g, 0, rfl, fun j hj => ?_⟩⟩, by omega⟩
    rw [hl] at hj
    rw [Nat.zero_add, h4 g rfl j (by omega), List.getD_eq_getElem?_getD, List.getD_eq_getElem?_getD, List.getElem?_take_of_lt hj]
/- the log that was made anew takes the place of the one ahead -/
theorem left_new {w w6 : World} {X X2 D' : Nat} {vb vb' : Value} {tg' : Int} {s' : Lg} {Fd Fd' F : Nat → Prop} {bs' : List UInt8} (hF : ∀ g, F g ↔ Fs X vb Fd g) (hX : X < w.heap.size) (hX6 : ∃ cs, w6.heap[X]? = some (.cells cs 62) ∧ cs.size = 5) (m : LAt w6 X2 D' vb' tg' s' Fd' bs') (hlow : ∀ g, Fs X2 vb' Fd' g → w.heap.size ≤ g) (hb : Below w.heap.size w w6) :
    Left' w X F s' (((((w6.setCell ⟨X, 0, none⟩ (.pointer (some ⟨D', 0, none⟩))).setCell ⟨X, 1, none⟩ vb').setCell ⟨X, 2, none⟩ (.int .i64 s'.safe)).setCell ⟨X, 3, none⟩ (.int .i64 tg')).setCell ⟨X, 4, none⟩ (.bool s'.stopped)) := by
  obtain ⟨cs, hbk, hc5⟩ := hX6
  obtain ⟨w7, hw7⟩ : ∃ w7, w7 = (((((w6.setCell ⟨X, 0, none⟩ (.pointer (some ⟨D', 0, none⟩))).setCell ⟨X, 1, none⟩ vb').setCell ⟨X, 2, none⟩ (.int .i64 s'.safe)).setCell ⟨X, 3, none⟩ (.int .i64 tg')).setCell ⟨X, 4, none⟩ (.bool s'.stopped)) := ⟨_, rfl⟩
  rw [← hw7]
  have hblk : LgB w7 X D' vb' s'.safe tg' s'.stopped := by
    rw [hw7]
    unfold LgB
    rw [set_heap (set_heap (set_heap (set_heap (set_heap hbk))))]
    obtain ⟨⟨l⟩⟩ : Nonempty (PLift True) := ⟨⟨trivial⟩⟩
    match cs, hc5 with
    | ⟨[a0, a1, a2, a3, a4]⟩, _ => rfl
  have hoth : ∀ g, g ≠ X → w7.heap[g]? = w6.heap[g]? := fun g hg => by
    rw [hw7, set_block _ _ _ _ hg, set_block _ _ _ _ hg, set_block _ _ _ _ hg, set_block _ _ _ _ hg, set_block _ _ _ _ hg]
  have hz7 : w7.heap.size = w6.heap.size := by rw [hw7, set_size, set_size, set_size, set_size, set_size]
  have hne : ∀ g, Fs X2 vb' Fd' g → g ≠ X := fun g hg e => by have := hlow g hg; omega
  have hz := hb.size
  refine left_mk hF (D' := D') (vb' := vb') (tg' := tg') (Fd' := Fd') (bs' := bs') ⟨hblk, m.ok, m.byt, m.fail, m.top, m.doc.stay (fun g e => hoth g (hne g (Or.inr (Or.inl e)))) (by omega), own_stay m.row fun g e => hoth g (hne g (Or.inr (Or.inr e))), fun e => hne X (Or.inr (Or.inl e)) rfl, fun g e => ⟨hne g (Or.inr (Or.inr e)), (m.ofr g e).2⟩⟩ ?_ ?_
  · have h1 : Chg F w w6 := Chg.ofBelow hb F
    have hXF : F X := (hF X).2 (Or.inl rfl)
    rw [hw7]
    exact ((((h1.setCell (p := ⟨X, 0, none⟩) hXF _).setCell (p := ⟨X, 1, none⟩) hXF _).setCell (p := ⟨X, 2, none⟩) hXF _).setCell (p := ⟨X, 3, none⟩) hXF _).setCell (p := ⟨X, 4, none⟩) hXF _
  · rintro g (e | e | e)
    · exact Or.inl ((hF g).2 (Or.inl e))
    · exact Or.inr (hlow g (Or.inr (Or.inl e)))
    · exact Or.inr (hlow g (Or.inr (Or.inr e)))
theorem ran_fit {l : List Ox} (hr : ∀ o ∈ l, opE o = 0) (hl : l.length ≤ 400) (i : Nat) : Fit (ran (l.take i)) := by
  have h1 : (l.take i).length ≤ 400 := by rw [List.length_take]; omega
  refine ⟨?_, h1⟩
  show (eachB (l.take i)).length ≤ _
  have := each_le (l := l.take i) (fun o ho => hr o (List.mem_of_mem_take ho))
  omega

set_option maxRecDepth 100000 in
set_option maxHeartbeats 4000000 in
theorem crash_any (X : Nat) (s : Lg) (F : Nat → Prop) (keep : Int) (w : World) (h : At w X s F) (hf : Fit s) :
    Calls Tryz.prog 10 #[ptr X, .int .i64 keep] w fun e w' => e = .returned (.tuple #[]) ∧ Left' w X F (crashS s keep) w' := by
  obtain ⟨D, vb, tg, Fd, bs, m, hF⟩ := h
  have HM := Hid.mk' m
  have HF := Hid.mk' hF
  obtain ⟨p0, n0, q0, hvb, hn0⟩ := m.row.shape
  subst hvb
  have hnb : n0 = s.bytes := hn0.out.trans m.byt.len
  have hsf := m.ok.safe
  have hhi := high_le m.ok keep
  obtain ⟨sf, hse⟩ : ∃ sf, sf = s.safe := ⟨_, rfl⟩
  have c1 := blk_cell m.blk (i := 1) (u := .slice p0 n0 q0) rfl
  have c2 := blk_cell m.blk (i := 2) (u := .int .i64 s.safe) rfl
  rw [← hse] at c2 hsf
  rw [← hnb] at hsf hhi
  have hn8 : n0 ≤ 100000000 := by rw [hnb]; exact hf.1
  obtain ⟨hi, hhe⟩ : ∃ hi, hi = high s keep := ⟨_, rfl⟩
  obtain ⟨kp, hkp⟩ : ∃ kp : Nat, hi = sf + kp ∧ ((keep ≤ 0 ∧ kp = 0) ∨ (0 < keep ∧ keep ≤ (n0 : Int) - sf ∧ (kp : Int) = keep) ∨ (0 < keep ∧ (n0 : Int) - sf < keep ∧ kp = n0 - sf)) := by
    refine ⟨hi - sf, ?_⟩
    unfold high at hhe
    split at hhe <;> omega
  have hw1 : IntKind.i64.wrap ((n0 : Int) - sf) = (n0 : Int) - sf := by rw [IntKind.wrap_i64]; omega
  have hw2 : IntKind.i64.wrap ((sf : Int) + kp) = (hi : Int) := by rw [IntKind.wrap_i64]; omega
  have HSN := Hid.mk' hsf
  obtain ⟨hby, hiq⟩ := byt_left (hi := hi) m.row (by rw [hhe]; exact hhi)
  obtain ⟨o9, k9, ho9, hk9, hl9⟩ := m.byt.left m.ok keep
  rw [← hhe] at hl9
  rw [hl9] at hby
  obtain ⟨l, hle⟩ : ∃ l, l = s.ops.take (leftN s keep) := ⟨_, rfl⟩
  rw [← hle] at hby
  have hnews : News d0 l := by rw [hle]; exact news_take _ m.ok.news
  have hright := news_right hnews
  have hl4 : l.length ≤ 400 := by rw [hle, List.length_take]; have := hf.2; omega
  have HNEWS := Hid.mk' hnews
  have HRIGHT := Hid.mk' hright
  have HL4 := Hid.mk' hl4
  have HEND : Hid (syncS (ran l) = crashS s keep) := by rw [Hid, hle]; exact ran_end m.byt keep
  have HBK : Hid (∀ W, Below w.heap.size w W → LgB W X D (.slice p0 n0 q0) sf tg s.stopped) := fun W hb => by rw [hse]; exact keep_heap hb m.blk
  have HXL := Hid.mk' m.ltX
  obtain ⟨nl, hnl⟩ : ∃ nl, nl = l.length := ⟨_, rfl⟩
  have CO : Hid (∀ W, Below w.heap.size w W → Calls Tryz.prog 30 #[.slice p0 hi q0] W fun e w' => ∃ p c, e = .returned (.slice p nl c) ∧ (∀ V : World, (∀ k, W.heap.size ≤ k → k < w'.heap.size → V.heap[k]? = w'.heap[k]?) → OpsAt V (.slice p nl c) l) ∧ Below W.heap.size W w') := fun W hb => by
    rw [hnl]
    exact ops_any (.slice p0 hi q0) l o9 k9 W hright hl4 ho9 hk9 (hby.below hb)
  have HNL := Hid.mk' hnl
  have hnl4 : nl ≤ 400 := by rw [hnl]; exact hl4
  have HHE := Hid.mk' hhe
  have HKP := Hid.mk' hkp.2
  have hiz : (hi : Int) ≤ q0 := by omega
  clear m hF hf hn0 hnb hsf hhi hse hhe hkp hby ho9 hk9 hl9 hle hnews hright hl4 hnl
  go_enter Tryz.func10, Tryz.ntmps10
  go_wp2_with fail
  go_quiet (fail)
  have hkx : (if (n0 : Int) - sf < (if keep < 0 then 0 else keep) then (n0 : Int) - sf else if keep < 0 then 0 else keep) = (kp : Int) := by
    have := HSN.out
    rcases HKP.out with e | e | e <;> (split <;> split <;> omega)
  rw [hkx]
  clear hkx
  generalize (if keep < 0 then (0 : Int) else keep) = mx
  generalize hwq : World.drewN _ _ = wq
  have HBq : Hid (Below w.heap.size w wq) := by rw [Hid, ← hwq]; exact bel_drew (Below.refl _ _) _
  clear hwq c1 c2
  go_wp2_with fail
  refine (new_any wq).mono ?_
  rintro e w2 ⟨X2, F2, rfl, hx2, hf2, hb2⟩
  have HX2 := Hid.mk' hx2
  have HF2 : Hid (∀ g, F2 g → w.heap.size ≤ g) := fun g e => Nat.le_trans HBq.out.size (hf2 g e)
  have HB2 : Hid (Below w.heap.size w w2) := bel HBq.out hb2
  have c1 := blk_cell (HBK.out w2 HB2.out) (i := 1) (u := .slice p0 n0 q0) rfl
  have c2 := blk_cell (HBK.out w2 HB2.out) (i := 2) (u := .int .i64 sf) rfl
  clear hx2 hf2 hb2
  go_wp2_with fail
  go_region_held3 (fun W => W.cell? ⟨X, 1, none⟩ = some (.slice p0 n0 q0) ∧ W.cell? ⟨X, 2, none⟩ = some (.int .i64 sf)) (first | (go_keep; done) | (refine ⟨keep_cell hb7 ?_, keep_cell hb7 ?_⟩ <;> (go_split_ands; assumption))) (first
    | (go_at_call 30; refine (CO.out _ HB2.out.drew).mono ?_; rintro e w3 ⟨p3, q3, rfl, hop3, hb7⟩; have HB3 : Hid (Below w2.heap.size w2 w3) := un_drew hb7; have HO3 : Hid (OpsJ (New w2.heap.size w3) (New w2.heap.size w3) w3 (.slice p3 nl q3) l) := OpsJ.kept hop3))
  all_goals
    clear hb7 hop3 c1 c2
    have HX3 : Hid (At w3 X2 (ran (l.take 0)) F2) := by rw [Hid, List.take_zero, ran_new]; exact HX2.out.below HB3.out
    have HG3 : Hid (∀ g, F2 g → ¬ (w2.heap.size ≤ g ∧ g < w3.heap.size)) := fun g e h => by have := HX2.out.lt g e; omega
    have HB33 : Hid (Below w.heap.size w w3) := bel HB2.out HB3.out
    go_wp2_with fail
    go_loopw [35] (fun v wr => ∃ (i : Nat) (F' : Nat → Prop), i ≤ nl ∧ v = .int .i64 i ∧ Hid (At wr X2 (ran (l.take i)) F') ∧ Hid (∀ g, F' g → w.heap.size ≤ g) ∧ Hid (∀ g, F' g → ¬ (w2.heap.size ≤ g ∧ g < w3.heap.size)) ∧ Hid (Below w.heap.size w wr) ∧ Hid (OpsJ (New w2.heap.size w3) (New w2.heap.size w3) wr (.slice p3 nl q3) l) ∧ Hid (w3.heap.size ≤ wr.heap.size)) (fun v _ => nl - (intOf v).toNat)
    case atStart => exact ⟨0, F2, Nat.zero_le _, rfl, HX3, HF2, HG3, HB33, HO3, Nat.le_refl _⟩
    case round =>
      clear HX3 HG3 HB33 HO3 HX2 HF2
      obtain ⟨i, F', hin, rfl, HX, HLOW, HG, HB, HO, HZ⟩ := hrel
      by_cases hlt : i < nl
      · have hltz : (i : Int) < nl := by omega
        have hil : i < l.length := by rw [← HNL.out]; exact hlt
        have HIL := Hid.mk' hil
        obtain ⟨pp, cc, hv, hok, hc1, hc2, _⟩ := HO.out
        injection hv with e1 e2 e3
        obtain ⟨b, o, hp, hRb, hce⟩ := hok.some (by intro e; rw [e] at hil; simp at hil)
        rw [← e1] at hp
        subst hp
        obtain ⟨vs, ⟨k0, k1, k2, k3, k4, k5⟩, hd, hin2⟩ := hce i hil
        have hge : l.getD i oz = l[i] := by rw [List.getD_eq_getElem?_getD, List.getElem?_eq_getElem hil]; rfl
        rw [hge] at k0 k1 k2 k3 k4 hd
        have HST : Hid (putS (ran (l.take i)) l[i] (recB l[i]).length = ran (l.take (i + 1))) := ran_step HNEWS.out hil
        have hx := HRIGHT.out l[i] (List.getElem_mem hil)
        obtain ⟨x, hxe⟩ : ∃ x, x = l[i] := ⟨_, rfl⟩
        rw [← hxe] at k0 k1 k2 k3 k4 hd HST hx
        obtain ⟨⟨xa, xb⟩, xt, xp, xc, xs⟩ := x
        simp only at k0 k1 k2 k3 k4 hd
        obtain ⟨ps, ns, cs, rfl⟩ : ∃ p n c, vs = .slice p n c := by obtain ⟨p, c, e, _⟩ := hd; exact ⟨_, _, _, e⟩
        have hbox : Below wr.heap.size wr (wr.alloc (.cells #[.int .i64 xa, .int .i64 xb, .int .i64 xt, .string xp, .int .i64 xc, .slice ps ns cs] 34)) := (Below.refl _ _).alloc (Nat.le_refl _) _
        have HBOX := Hid.mk' hbox
        have C := put_any X2 (ran (l.take i)) F' xa xb xt xp xc (.slice ps ns cs) xs _ (HX.out.below hbox) (ran_fit HRIGHT.out HL4.out i) (hd.below hbox) (hin2.mono fun g hg e => HG.out g e hg) (small_place (opE_zero.1 hx).2.2.1)
        rw [HST.out] at C
        generalize putN (ran (l.take i)) ((xa, xb), xt, xp, xc, xs) = bn at C
        generalize errV (putE (ran (l.take i)) ((xa, xb), xt, xp, xc, xs)) = en at C
        obtain ⟨j6, hj6⟩ : ∃ j6, j6 = o + i * 6 := ⟨_, rfl⟩
        clear e1 e2 e3 hce hge hxe hx hbox hd hin2 hok hc1 hc2 hRb
        go_wp2_with fail
        refine C.mono ?_
        rintro e w5 ⟨rfl, F5, hx5, hc5, hf5⟩
        have HX5 := Hid.mk' hx5
        have hlow5 : ∀ g, F5 g → w.heap.size ≤ g := fun g e => by
          rcases hf5 g e with e9 | e9
          · exact HLOW.out g e9
          · have := HBOX.out.size; have := HB.out.size; omega
        have HLOW5 := Hid.mk' hlow5
        have HG5 : Hid (∀ g, F5 g → ¬ (w2.heap.size ≤ g ∧ g < w3.heap.size)) := fun g e h => by
          rcases hf5 g e with e9 | e9
          · exact HG.out g e9 h
          · have := HBOX.out.size; have := HZ.out; omega
        have HB5 : Hid (Below w.heap.size w w5) := hc5.below HLOW.out (bel HB.out HBOX.out) (bel HB.out HBOX.out).size
        have hst5 : Stay (New w2.heap.size w3) (wr.alloc (.cells #[.int .i64 xa, .int .i64 xb, .int .i64 xt, .string xp, .int .i64 xc, .slice ps ns cs] 34)) w5 := hc5.stay fun g hg => ⟨by have := hg.2; have := HZ.out; have := HBOX.out.size; omega, fun e => HG.out g e hg⟩
        have HO5 : Hid (OpsJ (New w2.heap.size w3) (New w2.heap.size w3) w5 (.slice (some ⟨b, o, none⟩) nl q3) l) := (HO.out.below HBOX.out).stay hst5 hst5
        have HZ5 : Hid (w3.heap.size ≤ w5.heap.size) := Nat.le_trans HZ.out (Nat.le_trans HBOX.out.size hc5.size)
        clear C hx5 hc5 hf5 hlow5 hst5 k0 k1 k2 k3 k4 k5 hj6
        go_wp2_with fail
        go_roundw
        case rel => exact ⟨i + 1, F5, hlt, by go_num, HX5, HLOW5, HG5, HB5, HO5, HZ5⟩
        case measure => simp [intOf]; omega
      · have hltz : ¬ (i : Int) < nl := by omega
        have hie : i = l.length := by rw [← HNL.out]; omega
        have C := sync_any X2 (ran (l.take i)) F' wr HX.out
        rw [hie, List.take_length, HEND.out] at C
        generalize errV (syncE (ran l)) = en at C
        clear hie
        go_wp2_with fail
        refine C.mono ?_
        rintro e w6 ⟨rfl, F6, hx6, hc6, hf6⟩
        have hlow6 : ∀ g, F6 g → w.heap.size ≤ g := fun g e => by
          rcases hf6 g e with e9 | e9
          · exact HLOW.out g e9
          · have := HB.out.size; omega
        have HB6 : Hid (Below w.heap.size w w6) := hc6.below HLOW.out HB.out HB.out.size
        obtain ⟨D6, vb6, tg6, Fd6, bs6, m6, hF6⟩ := hx6
        obtain ⟨p6, n6, q6, hv6, _⟩ := m6.row.shape
        subst hv6
        have HL6 : Hid (Left' w X F (crashS s keep) (((((w6.setCell ⟨X, 0, none⟩ (.pointer (some ⟨D6, 0, none⟩))).setCell ⟨X, 1, none⟩ (.slice p6 n6 q6)).setCell ⟨X, 2, none⟩ (.int .i64 (crashS s keep).safe)).setCell ⟨X, 3, none⟩ (.int .i64 tg6)).setCell ⟨X, 4, none⟩ (.bool (crashS s keep).stopped))) := left_new HF.out HXL.out ⟨_, HBK.out w6 HB6.out, rfl⟩ m6 (fun g e => hlow6 g ((hF6 g).2 e)) HB6.out
        have hbk6 := m6.blk
        obtain ⟨sf6, hsf6⟩ : ∃ x : Int, x = (crashS s keep).safe := ⟨_, rfl⟩
        obtain ⟨st6, hst6⟩ : ∃ x, x = (crashS s keep).stopped := ⟨_, rfl⟩
        rw [← hsf6, ← hst6] at hbk6 HL6
        have e0 := blk_cell hbk6 (i := 0) (u := .pointer (some ⟨D6, 0, none⟩)) rfl
        have e1 := blk_cell hbk6 (i := 1) (u := .slice p6 n6 q6) rfl
        have e2 := blk_cell hbk6 (i := 2) (u := .int .i64 sf6) rfl
        have e3 := blk_cell hbk6 (i := 3) (u := .int .i64 tg6) rfl
        have e4 := blk_cell hbk6 (i := 4) (u := .bool st6) rfl
        have hbX := HBK.out w6 HB6.out
        have x0 := blk_cell hbX (i := 0) (u := .pointer (some ⟨D, 0, none⟩)) rfl
        have x1 := blk_cell hbX (i := 1) (u := .slice p0 n0 q0) rfl
        have x2 := blk_cell hbX (i := 2) (u := .int .i64 sf) rfl
        have x3 := blk_cell hbX (i := 3) (u := .int .i64 tg) rfl
        have x4 := blk_cell hbX (i := 4) (u := .bool s.stopped) rfl
        have f0 := blk_free hbX (i := 0)
        have f1 := blk_free hbX (i := 1)
        have f2 := blk_free hbX (i := 2)
        have f3 := blk_free hbX (i := 3)
        have f4 := blk_free hbX (i := 4)
        clear C hc6 hf6 hlow6 m6 hF6 hbk6 hsf6 hst6 hbX
        go_wp2_with fail
        go_end0
        exact ⟨rfl, HL6.out⟩

/- all that the laws ask of package log -/
theorem put_r (X : Nat) (s : Lg) (F : Nat → Prop) (o : Ox) (w w' : World) (h : Left' w X F (putS s o (recB o).length) w') : ∃ r F', 2 ≤ r ∧ r ≤ 100000 ∧ At w' X (putS s o r) F' ∧ Chg F w w' ∧ ∀ g, F' g → F g ∨ w.heap.size ≤ g := by
  obtain ⟨F', h1, h2, h3⟩ := h
  by_cases ho : opE o = 0
  · have := rec_le ho
    exact ⟨(recB o).length, F', by omega, by omega, h1, h2, h3⟩
  · have hn : isNew (Tg.doc s) o = false := by
      cases h9 : isNew (Tg.doc s) o
      · rfl
      · exact absurd (isNew_iff.1 h9).1 ho
    have e : putS s o 2 = putS s o (recB o).length := by
      unfold putS
      rw [hn]
      rfl
    exact ⟨2, F', Nat.le_refl _, by omega, by rw [e]; exact h1, h2, h3⟩
def says : LogSays where
  At := At
  ok := At.ok
  lt := At.lt
  stay := At.stay
  new := new_any
  put := fun X s F a b t p c vs sd w h hf hd hoff hp => (put_any X s F a b t p c vs sd w h hf hd hoff hp).mono fun e w' ⟨he, hl⟩ => ⟨he, put_r X s F _ w w' hl⟩
  sync := fun X s F w h _ => (sync_any X s F w h).mono fun e w' ⟨he, hl⟩ => ⟨he, hl⟩
  crash := fun X s F n w h hf => (crash_any X s F n w h hf).mono fun e w' ⟨he, hl⟩ => ⟨he, hl⟩
  doc := doc_any
theorem fails : LogFails says := ⟨fun X s F n w h hn => (fail_any X s F n w h hn).mono fun e w' ⟨he, hl⟩ => ⟨he, hl⟩⟩
theorem tells : LogTells says := ⟨fun X s F w h hf => bytes_any X s F w h hf, fun X s F w h hf => safe_any X s F w h hf⟩

end Tv
end Go.Proofs.YtgefpcchcegcpaaGreatDoor
