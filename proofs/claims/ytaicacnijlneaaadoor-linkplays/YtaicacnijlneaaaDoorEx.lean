/- The walk of LinkPlays. -/
import Derived.Test.YtaicacnijlneaaaDoorEw
import Derived.Test.YtaicacnijlneaaaDoorKl
import Derived.Test.YtaicacnijlneaaaDoorEk
import Derived.Deep.DeepCutAuto
import Derived.Deep.CutBlock
import Derived.Deep.RegionHeld3
namespace Go.Proofs.YtaicacnijlneaaaDoor
namespace Ex
set_option linter.unusedVariables false
set_option linter.unusedSimpArgs false
open Go.ChangeShapes Go.WideShapes Go.ChangeAt Go.RowKit Ka Kb Ec Ef Eg Eo Et Ew Ej Ek Kt Kl
open Em (Hid.mk' wrap_in at_new text_new)

theorem new_ok (a b : Int) (w : World) (h : newE a b = 0) : Calls Tryd.prog 4 #[.int .i64 a, .int .i64 b] w fun e w' => ∃ X F, e = .returned (.tuple #[ptr X, .nilIface]) ∧ Em.At w' X (Ec.new a.toNat b.toNat) F ∧ (∀ g, F g → w.heap.size ≤ g) ∧ Below w.heap.size w w' := by
  refine (Em.end_new a b w).mono ?_
  rintro e w' ⟨h1 | ⟨_, X, F, h2, h3, h4⟩, hb⟩
  · exact absurd h h1.1
  · exact ⟨X, F, h2, h3, h4, hb⟩
theorem start {w w1 : World} {X : Nat} {F : Nat → Prop} {a b : Int} (he : newE a b = 0) (hb : Below w.heap.size w w1) (hx : Em.At w1 X (Ec.new a.toNat b.toNat) F) (hf : ∀ g, F g → w.heap.size ≤ g) :
    ∃ G, Pl w (w1.alloc (.cells #[.int .i64 a, .int .i64 b, .slice none 0 0, .int .i64 0, .int .i64 0, .int .i64 0, .slice none 0 0, .bool false] 33)) X w1.heap.size (Ec.new a.toNat b.toNat) (Ec.new a.toNat b.toNat) F G := by
  have h9 : ¬ (a < 1 ∨ 16 < a ∨ b < 1 ∨ 20 < b) := fun e => by unfold newE at he; rw [if_pos e] at he; cases he
  have ea : ((a.toNat : Nat) : Int) = a := by omega
  have eb : ((b.toNat : Nat) : Int) = b := by omega
  have hal := below_al w1 (.cells #[.int .i64 a, .int .i64 b, .slice none 0 0, .int .i64 0, .int .i64 0, .int .i64 0, .slice none 0 0, .bool false] 33)
  refine ⟨Fs w1.heap.size (.slice none 0 0) (.slice none 0 0), hx.stay (fun g hg => hal.block g (hx.lt g hg)) hal.size, ⟨.slice none 0 0, .slice none 0 0, ⟨?_, ⟨rfl, Or.inl ⟨rfl, rfl⟩⟩, ⟨rfl, Or.inl ⟨rfl, rfl⟩⟩, fun k hk => by cases hk⟩, fun k => Iff.rfl⟩, ?_, hf, ?_, Ef.bel hb hal⟩
  · have h8 := heap_alloc_new w1 (.cells #[.int .i64 a, .int .i64 b, .slice none 0 0, .int .i64 0, .int .i64 0, .int .i64 0, .slice none 0 0, .bool false] 33)
    rw [h8, show (Ec.new a.toNat b.toNat).win = a.toNat from rfl, show (Ec.new a.toNat b.toNat).wait = b.toNat from rfl, ea, eb]
    rfl
  · rintro g h1 (e | e | e)
    · have := hx.lt g h1; omega
    · cases e
    · cases e
  · rintro g (e | e | e)
    · have := hb.size; omega
    · cases e
    · cases e

theorem out_len {s : Ln} (I : Ec.Inv s) : (outF s).length ≤ 1048576 := by
  have h1 : (saysN s).length ≤ last s - s.acked := by
    unfold saysN
    have := List.length_filter_le (fun n => decide (s.said < n) || late s) (List.range' (s.acked + 1) (last s - s.acked))
    rw [List.length_range'] at this
    exact this
  have h2 := I.w2
  have h3 : last s ≤ s.acked + s.win := by unfold last; omega
  unfold outF
  rw [List.length_append, List.length_map]
  split
  · show 1 + _ ≤ _; omega
  · show 0 + _ ≤ _; omega
theorem three_set {w : World} {B : Nat} {a : Bool} {q : Int} {d : ByteArray} {a' : Bool} {q' : Int} {d' : ByteArray} (h : w.heap[B]? = some (frO a q d)) : (((w.setCell ⟨B, 0, none⟩ (.bool a')).setCell ⟨B, 1, none⟩ (.int .i64 q')).setCell ⟨B, 2, none⟩ (.string d')).heap[B]? = some (frO a' q' d') := by
  rw [set_heap (set_heap (set_heap h))]; rfl

set_option maxRecDepth 100000 in
set_option maxHeartbeats 8000000 in
theorem walk_bad (a b : Int) (v1 v2 v3 : Value) (w : World) (h : a < 1 ∨ 16 < a ∨ b < 1 ∨ 20 < b) (hE : ET w) :
    Calls Tryd.prog 3 #[.int .i64 a, .int .i64 b, v1, v2, v3] w fun e w' => e = .returned (.bool true) ∧ Below w.heap.size w w' := by
  have C1 := Em.new_bad a b w h
  have C2 := same_err 1 1 w hE
  have h9 : a < 1 ∨ (¬ a < 1 ∧ 16 < a) ∨ (¬ a < 1 ∧ ¬ 16 < a ∧ b < 1) ∨ (¬ a < 1 ∧ ¬ 16 < a ∧ ¬ b < 1 ∧ 20 < b) := by omega
  rcases h9 with h1 | ⟨h1, h2⟩ | ⟨h1, h2, h3⟩ | ⟨h1, h2, h3, h4⟩
  all_goals
    clear h hE
    go_enter Tryd.func3, Tryd.ntmps3
    go_wp2_with fail
    refine C1.mono ?_
    rintro e w1 ⟨rfl, hw⟩
    have hw2 := hw.symm; subst hw2; clear hw
    go_wp2_with fail
    refine C2.mono ?_
    rintro e w2 ⟨rfl, hb2⟩
    have HB2 := Hid.mk' hb2
    clear hb2 C1 C2
    go_wp2_with fail
    go_ret
    exact ⟨rfl, HB2.out⟩
set_option maxRecDepth 100000 in
set_option maxHeartbeats 8000000 in
theorem walk (a b : Int) (vs : Value) (S : List Int) (vd : Value) (D : List ByteArray) (vf : Value) (Ft : List Fr) (w : World) (hs : Nums w vs S) (hd : Txts w vd D) (hf : Frms w vf Ft) (hE : ET w) :
    Calls Tryd.prog 3 #[.int .i64 a, .int .i64 b, vs, vd, vf] w fun e w' => e = .returned (.bool true) ∧ Below w.heap.size w w' := by
  obtain ⟨ps, cs, rfl, hsk, hsm⟩ := hs
  obtain ⟨⟨pd, cd, rfl, hdk, hdl, hdm, _⟩, hdz⟩ := hd
  obtain ⟨⟨pf, cf, rfl, hfk, hfl, hfm, _⟩, hfz⟩ := hf
  obtain ⟨ns, hns⟩ : ∃ ns, ns = S.length := ⟨_, rfl⟩
  obtain ⟨nd, hnd⟩ : ∃ nd, nd = D.length := ⟨_, rfl⟩
  obtain ⟨nf, hnf⟩ : ∃ nf, nf = Ft.length := ⟨_, rfl⟩
  have hnsm : (ns : Int) ≤ 9223372036854775807 := by unfold maxLen at hsm; omega
  have hndm : (nd : Int) ≤ 9223372036854775807 := by unfold maxLen at hdm; omega
  have hnfm : (nf : Int) ≤ 9223372036854775807 := by unfold maxLen at hfm; omega
  rw [← hns, ← hnd, ← hnf]
  by_cases h : a < 1 ∨ 16 < a ∨ b < 1 ∨ 20 < b
  · exact walk_bad a b (.slice ps ns cs) (.slice pd nd cd) (.slice pf nf cf) w h hE
  · have he : newE a b = 0 := by unfold newE; rw [if_neg h]
    have C1 := new_ok a b w he
    have HE := Hid.mk' hE
    have HNE := Hid.mk' he
    have HNS := Hid.mk' hns
    have HND := Hid.mk' hnd
    have HNF := Hid.mk' hnf
    have HS : Hid (S = [] ∨ ∃ b o, ps = some ⟨b, o, none⟩ ∧ ∀ j, j < S.length → w.cell? ⟨b, o + j, none⟩ = some (.int .i64 (S.getD j 0))) := hsk
    have HD := Hid.mk' hdk
    have HF := Hid.mk' hfk
    have HDZ := Hid.mk' hdz
    have HFZ := Hid.mk' hfz
    have h1 : ¬ a < 1 := by omega
    have h2 : ¬ 16 < a := by omega
    have h3 : ¬ b < 1 := by omega
    have h4 : ¬ 20 < b := by omega
    clear h he hsk hsm hdk hdl hdm hdz hfk hfl hfm hfz hE hns hnd hnf
    go_enter Tryd.func3, Tryd.ntmps3
    go_wp2_with fail
    refine C1.mono ?_
    rintro e w1 ⟨X, F0, rfl, hx, hf0, hb1⟩
    have HX := Hid.mk' hx
    have HF0 := Hid.mk' hf0
    have HB1 := Hid.mk' hb1
    clear hx hf0 hb1 C1
    go_wp2_with fail
    refine (same_nil 0 _).mono ?_
    rintro e w2 ⟨rfl, hw⟩
    have hw2 := hw.symm; subst hw2; clear hw
    go_wp2_with fail
    generalize hw3 : World.alloc w1 _ = w3
    obtain ⟨M, hM⟩ : ∃ M, M = w1.heap.size := ⟨_, rfl⟩
    rw [← hM]
    obtain ⟨G0, hP⟩ := start HNE.out HB1.out HX.out HF0.out
    rw [hw3, ← hM] at hP
    have HP0 := Hid.mk' hP
    have HI0 : Hid (Ec.Inv (Ec.new a.toNat b.toNat)) := HX.out.1
    clear hw3 hM hP HX HF0 HB1 h1 h2 h3 h4
    go_loopw [16] (fun v16 wr => ∃ (i : Nat) (s : Ln) (F G : Nat → Prop), i ≤ ns ∧ i ≤ 80 ∧ v16 = .int .i64 i ∧ Hid (Pl w wr X M s s F G) ∧ Hid (Ec.Inv s) ∧ Hid (Bd s i)) (fun v16 _ => 100 - (intOf v16).toNat)
    case atStart => exact ⟨0, _, _, _, Nat.zero_le _, Nat.zero_le _, rfl, HP0.out, HI0.out, ⟨Nat.zero_le _, Nat.zero_le _, Nat.zero_le _⟩⟩
    case round =>
      obtain ⟨i, s, F, G, hin, hi80, rfl, HP, HI, HB⟩ := hrel
      by_cases hlt : i < ns
      · by_cases hlt80 : i < 80
        · have hltz : (i : Int) < ns := by omega
          have hl8z : (i : Int) < 80 := by omega
          obtain ⟨bs, os, rfl, hsc⟩ : ∃ b o, ps = some ⟨b, o, none⟩ ∧ Hid (∀ j, j < S.length → w.cell? ⟨b, o + j, none⟩ = some (.int .i64 (S.getD j 0))) := by
            rcases HS.out with e | e
            · have h1 := HNS.out; rw [e] at h1; simp at h1; omega
            · exact e
          obtain ⟨st, hst⟩ : ∃ st, st = S.getD i 0 := ⟨_, rfl⟩
          have cst : wr.cell? ⟨bs, os + i, none⟩ = some (.int .i64 st) := by rw [hst]; exact keep_cell HP.out.bel (hsc.out i (by rw [← HNS.out]; exact hlt))
          clear hst
          go_upto_block 2 with fail
          go_cut [14] from 56 to 203 (fun s14 wx => s14 = .bool true ∧ ∃ (s' : Ln) (F' G' : Nat → Prop), Hid (Pl w wx X M s' s' F' G') ∧ Hid (Ec.Inv s') ∧ Hid (Bd s' (i + 1)))
          case first =>
            have hsend : (st = 0 ∨ st = 1) ∨ ¬ (st = 0 ∨ st = 1) := Classical.em _
            rcases hsend with hsend | hsend
            · obtain ⟨u, g, m, hG⟩ := HP.out.m
              obtain ⟨pu, nu, cu, rfl, hnu⟩ := own_shape m.ru
              obtain ⟨ak, hak⟩ : ∃ ak, ak = s.acked := ⟨_, rfl⟩
              obtain ⟨lf, hlf⟩ : ∃ lf, lf = Ec.left s := ⟨_, rfl⟩
              have c2 := blk_cell m.blk (i := 2) (u := .slice pu nu cu) rfl
              have c3 : wr.cell? ⟨M, 3, none⟩ = some (.int .i64 ak) := by rw [hak]; exact blk_cell m.blk (i := 3) rfl
              have hwl : IntKind.i64.wrap ((nu : Int) - ak) = lf := by
                have h1 := HI.out.ak
                have h2 := HI.out.sd
                have h3 := HB.out.1
                have h4 := hnu.out
                rw [hlf]
                unfold left
                rw [wrap_in (by omega) (by omega), hak]
                omega
              have HLF := Hid.mk' hlf
              have HM := Hid.mk' m
              have HG := Hid.mk' hG
              have HNU : Hid (nu = s.all.length) := hnu
              have HNU9 : Hid (nu ≤ 1000) := by rw [Hid, HNU.out]; have := HB.out.1; omega
              clear m hG hnu hak hlf
              rcases hsend with hst1 | hst1
              all_goals
                subst hst1
                go_upto_if 117 with fail
                go_cut [17] from 56 to 203 (fun s17 wx => ∃ d : ByteArray, s17 = .string d ∧ Hid (d.size ≤ maxLen) ∧ wr = wx)
                case first =>
                  by_cases hnd0 : nd = 0
                  · have hz : ¬ (0 : Int) < nd := by omega
                    have HZ0 : Hid ((ByteArray.mk #[]).size ≤ maxLen) := Nat.zero_le _
                    clear hnd0
                    go_wp2_with fail
                    go_meet
                    case rel => exact ⟨_, rfl, HZ0.out, rfl⟩
                  · have hz : (0 : Int) < nd := by omega
                    obtain ⟨j, hj⟩ : ∃ j : Nat, j = i % nd := ⟨_, rfl⟩
                    have hjn : j < nd := by rw [hj]; exact Nat.mod_lt _ (by omega)
                    have hjz : (j : Int) < nd := by omega
                    have hmod : (i : Int) % (nd : Int) = (j : Int) := by rw [hj]; omega
                    obtain ⟨bd, od, rfl, _, hdc⟩ := HD.out.some (by intro e; have h1 := HND.out; rw [e] at h1; simp at h1; omega)
                    obtain ⟨d, hd⟩ : ∃ d, d = D.getD j e0 := ⟨_, rfl⟩
                    have cd := keep_cell HP.out.bel (hdc j (by rw [← HND.out]; exact hjn))
                    rw [← hd] at cd
                    have HDS : Hid (d.size ≤ maxLen) := by rw [Hid, hd, List.getD_eq_getElem?_getD, List.getElem?_eq_getElem (by rw [← HND.out]; exact hjn)]; exact HDZ.out _ (List.getElem_mem _)
                    clear hj hnd0 hd hdc
                    go_wp2_with fail
                    go_meet
                    case rel => exact ⟨_, rfl, HDS.out, rfl⟩
                case rest =>
                  obtain ⟨d, rfl, HDS, hwx⟩ := hcut
                  subst hwx
                  rcases (show 200 < d.size ∨ (¬ 200 < d.size ∧ 100 ≤ lf) ∨ (¬ 200 < d.size ∧ ¬ 100 ≤ lf) by omega) with hw1 | ⟨hw1, hw2⟩ | ⟨hw1, hw2⟩
                  · as_aux_lemma =>
                      have HEE : Hid (sendE s d = 4) := by rw [Hid]; unfold sendE; rw [if_pos (by rw [← HLF.out]; omega)]
                      have HSS : Hid (sendS s d = s) := by rw [Hid]; unfold sendS; rw [HEE.out, if_pos (by decide)]
                      have hb1' : decide ((200 : Int) < d.size) = true := decide_eq_true (by omega)
                      have hdz9 : (d.size : Int) ≤ 9223372036854775807 := by have := HDS.out; unfold maxLen at this; omega
                      clear hw1

                      go_wp2_with fail
                      go_quiet (fail)
                      generalize hwq : World.drewN wr _ = wq
                      have HBQ : Hid (Below wr.heap.size wr wq) := by rw [Hid, ← hwq]; exact bel_drew (Below.refl _ wr) _
                      have HPQ0 := Hid.mk' (HP.out.below HBQ.out)
                      clear hwq c2 c3 hwl

                      have HPQ : Hid (Pl w wq X M s (sendS s d) F G) := by rw [Hid, HSS.out]; exact HPQ0.out
                      clear HPQ0

                      have CS := Em.end_send X s F d wq (HPQ.out).x (HB.out.fit (by omega)) HDS.out
                      rw [HEE.out] at CS
                      go_wp2_with fail
                      refine CS.mono ?_
                      rintro e w6 ⟨rfl, hl6⟩
                      obtain ⟨F6, hP6⟩ := (HPQ.out).set_x hl6
                      have HP6 := Hid.mk' hP6
                      have CE := same_any 4 4 w6 (ET.below HE.out hP6.bel)
                      clear hl6 hP6 CS
                      go_wp2_with fail
                      refine CE.mono ?_
                      rintro e w7 ⟨rfl, hb7⟩
                      have HB7 := Hid.mk' hb7
                      clear hb7 CE
                      go_wp2_with fail
                      go_meet
                      case rel => exact ⟨rfl, sendS s d, F6, G, HP6.out.below HB7.out, inv_send HI.out, HB.out.send d⟩
                  · as_aux_lemma =>
                      have HEE : Hid (sendE s d = 4) := by rw [Hid]; unfold sendE; rw [if_pos (by rw [← HLF.out]; omega)]
                      have HSS : Hid (sendS s d = s) := by rw [Hid]; unfold sendS; rw [HEE.out, if_pos (by decide)]
                      have hb1' : decide ((200 : Int) < d.size) = false := decide_eq_false (by omega)
                      have hb2' : decide ((100 : Int) ≤ lf) = true := decide_eq_true (by omega)
                      clear hw1 hw2

                      go_wp2_with fail
                      go_quiet (fail)
                      generalize hwq : World.drewN wr _ = wq
                      have HBQ : Hid (Below wr.heap.size wr wq) := by rw [Hid, ← hwq]; exact bel_drew (Below.refl _ wr) _
                      have HPQ0 := Hid.mk' (HP.out.below HBQ.out)
                      clear hwq c2 c3 hwl

                      have HPQ : Hid (Pl w wq X M s (sendS s d) F G) := by rw [Hid, HSS.out]; exact HPQ0.out
                      clear HPQ0

                      have CS := Em.end_send X s F d wq (HPQ.out).x (HB.out.fit (by omega)) HDS.out
                      rw [HEE.out] at CS
                      go_wp2_with fail
                      refine CS.mono ?_
                      rintro e w6 ⟨rfl, hl6⟩
                      obtain ⟨F6, hP6⟩ := (HPQ.out).set_x hl6
                      have HP6 := Hid.mk' hP6
                      have CE := same_any 4 4 w6 (ET.below HE.out hP6.bel)
                      clear hl6 hP6 CS
                      go_wp2_with fail
                      refine CE.mono ?_
                      rintro e w7 ⟨rfl, hb7⟩
                      have HB7 := Hid.mk' hb7
                      clear hb7 CE
                      go_wp2_with fail
                      go_meet
                      case rel => exact ⟨rfl, sendS s d, F6, G, HP6.out.below HB7.out, inv_send HI.out, HB.out.send d⟩
                  · as_aux_lemma =>
                      have HEE : Hid (sendE s d = 0) := by rw [Hid]; unfold sendE; rw [if_neg (by rw [← HLF.out]; omega)]
                      have HSS : Hid (sendS s d = { s with all := s.all ++ [d] }) := by rw [Hid]; unfold sendS; rw [HEE.out, if_neg (by decide)]
                      have hb1' : decide ((200 : Int) < d.size) = false := decide_eq_false (by omega)
                      have hb2' : decide ((100 : Int) ≤ lf) = false := decide_eq_false (by omega)

                      go_wp2_with fail
                      go_quiet (fail)
                      generalize hwq : World.drewN wr _ = wq
                      have HBQ : Hid (Below wr.heap.size wr wq) := by rw [Hid, ← hwq]; exact bel_drew (Below.refl _ wr) _
                      have HPQ0 := Hid.mk' (HP.out.below HBQ.out)
                      clear hwq c2 c3 hwl

                      have HMQ : Hid (Et.Raw wq M s.win s.wait (.slice pu nu cu) s.acked s.said s.ticks g s.owes s.all s.got) := HM.out.below HBQ.out
                      obtain ⟨i0, hi0, hz0, hz1, hz2⟩ := info_parts infoS
                      have c2 := blk_cell HMQ.out.blk (i := 2) (u := .slice pu nu cu) rfl
                      have HBA : Hid (Below wq.heap.size wq (wq.alloc (.cells #[.string d] 9))) := below_al _ _
                      have HOA : Hid ((wq.alloc (.cells #[.string d] 9)).ownsRow 0 9 1 (.slice pu nu cu) nu (s.all.map Value.string)) := by
                        have h9 := own_below HMQ.out.ru HBA.out
                        rw [← HNU.out] at h9
                        exact h9
                      have HTN := Hid.mk' (text_new wq d)
                      have hnu9 := HNU9.out
                      clear hb1' hb2' hw1 hw2
                      go_wp2_with (at_builtin; refine wpList_append_own_at _ rfl (.tmp 145) (.tmp 147) 23 rfl 0 9 i0 (.string ByteArray.empty) 1 16 Tryd.underlying23 hi0 hz0 hz1 hz2 rfl (by decide) (.slice pu nu cu) nu (s.all.map Value.string) rfl HOA.out ⟨wq.heap.size, 0, none⟩ 1 1 [.string d] rfl rfl HTN.out (by intro u hu; rw [List.mem_singleton.1 hu]; rfl) (by unfold maxLen; omega) (by omega) (Nat.zero_le _) ?_; intro v' w1' hown' hgrow _ hat; obtain ⟨p9, n9, c9, rfl, _⟩ := own_shape hown'; have HR : Hid (RowT 0 w1' (.slice p9 n9 c9) (s.all ++ [d])) := own_appT (b := [d]) HNU.out.symm rfl hown'; have HC : Hid (Chg (fun k => (Value.slice pu nu cu).ownBlock = some k) wq w1') := (Chg.ofBelow HBA.out _).trans (Chg.grown hgrow (fun g e => e)); have hb9 := (HC.out.block M (HMQ.out.lt M (Or.inl rfl)) (fun e => Et.no_end HMQ.out.ru HMQ.out.blk M e rfl)).trans HMQ.out.blk; have q9 := blk_cell hb9 (i := 2) (u := .slice pu nu cu) rfl; have fq9 := blk_free hb9 (i := 2); have HL : Hid (∀ k, (Value.slice p9 n9 c9).ownBlock = some k → (Value.slice pu nu cu).ownBlock = some k ∨ wq.heap.size ≤ k) := at_new hat HBA.out.size; clear hown' hgrow hat hb9)
                      generalize hw8 : World.setCell w1' _ _ = w8
                      obtain ⟨r1, r2, r3⟩ := HMQ.out.set_u HC.out HR.out HL.out
                      rw [hw8] at r1 r2
                      obtain ⟨G8, hP8⟩ := HPQ0.out.set_m (sm' := sendS s d) (rleft_mk HG.out (u' := .slice p9 n9 c9) (g' := g) (by rw [HSS.out]; exact r1) r2 r3)
                      have HPQ := Hid.mk' hP8
                      clear hw8 r1 r2 r3 hP8 c2 q9 fq9 HC HR HL

                      have CS := Em.end_send X s F d w8 (HPQ.out).x (HB.out.fit (by omega)) HDS.out
                      rw [HEE.out] at CS
                      go_wp2_with fail
                      refine CS.mono ?_
                      rintro e w6 ⟨rfl, hl6⟩
                      obtain ⟨F6, hP6⟩ := (HPQ.out).set_x hl6
                      have HP6 := Hid.mk' hP6
                      have CE := same_any 0 0 w6 (ET.below HE.out hP6.bel)
                      clear hl6 hP6 CS
                      go_wp2_with fail
                      refine CE.mono ?_
                      rintro e w7 ⟨rfl, hb7⟩
                      have HB7 := Hid.mk' hb7
                      clear hb7 CE
                      go_wp2_with fail
                      go_meet
                      case rel => exact ⟨rfl, sendS s d, F6, G8, HP6.out.below HB7.out, inv_send HI.out, HB.out.send d⟩
            · have hs0 : (st == 0) = false := by simp; omega
              have hs1 : (st == 1) = false := by simp; omega
              clear hsend
              by_cases h2 : st = 2
              · subst h2
                as_aux_lemma =>
                  have C := rout_any M s G wr HP.out.m HI.out (HB.out.fit (by omega))
                  go_wp2_with fail
                  refine C.mono ?_
                  rintro e w5 ⟨p5, n5, c5, rfl, hf5, hl5⟩
                  obtain ⟨G5, hP5⟩ := HP.out.set_m hl5
                  have HP5 := Hid.mk' hP5
                  have HF5 := Hid.mk' hf5
                  have C2 := Es.end_out X s F w5 hP5.x (HB.out.fit (by omega))
                  clear hf5 hl5 hP5 C
                  go_wp2_with fail
                  refine C2.mono ?_
                  rintro e w6 ⟨p6, n6, c6, F6, rfl, hf6, hx6, hc6, hg6⟩
                  obtain ⟨F7, hP6⟩ := HP5.out.set_x ⟨F6, hx6, hc6, hg6⟩
                  have HP6 := Hid.mk' hP6
                  have HF5' : Hid (FrsJ (New wr.heap.size w5) w6 (.slice p5 n5 c5) (outF s)) := HF5.out.stay (hc6.stay fun g hg => ⟨hg.2, fun e => by have h1 := HP.out.x.lt g e; have h2 := hg.1; omega⟩)
                  have C3 := Ev.frames_same (.slice p6 n6 c6) (.slice p5 n5 c5) (outF s) w6 _ _ hf6 HF5'.out (out_len HI.out)
                  clear hf6 hx6 hc6 hg6 hP6 C2 HF5
                  go_wp2_with fail
                  refine C3.mono ?_
                  rintro e w7 ⟨rfl, hb7⟩
                  have HB7 := Hid.mk' hb7
                  clear hb7 C3
                  go_wp2_with fail
                  go_meet
                  case rel => exact ⟨rfl, outS s, F7, G5, HP6.out.below HB7.out, inv_out HI.out, HB.out.out⟩
              · have hs2 : (st == 2) = false := by simpa using h2
                clear h2
                by_cases h3 : st = 3
                · subst h3
                  as_aux_lemma =>
                    obtain ⟨u, g, m, hG⟩ := HP.out.m
                    obtain ⟨t, ht⟩ : ∃ t, t = s.ticks := ⟨_, rfl⟩
                    have c5 : wr.cell? ⟨M, 5, none⟩ = some (.int .i64 t) := by rw [ht]; exact blk_cell m.blk (i := 5) rfl
                    have f5 := blk_free m.blk (i := 5)
                    have ht9 : t ≤ 1000 := by have := HB.out.2.2; omega
                    have HM := Hid.mk' m
                    have HG := Hid.mk' hG
                    have HT := Hid.mk' ht
                    clear m hG ht
                    go_wp2_with fail
                    generalize hw5 : World.setCell wr _ _ = w5
                    have r1 : REnd w5 M u g (Ec.tick s) := by
                      rw [← hw5]
                      show Et.Raw _ M s.win s.wait u s.acked s.said ((s.ticks + 1 : Nat) : Int) g s.owes s.all s.got
                      rw [← HT.out]
                      exact HM.out.num rfl
                    obtain ⟨G5, hP5⟩ := HP.out.set_m (sm' := Ec.tick s) (rleft_mk HG.out r1 (by rw [← hw5]; exact Chg.setCell (F := Fs M u g) (Chg.refl _ _) (p := ⟨M, 5, none⟩) (Or.inl rfl) _) (fun k e => Or.inl e))
                    have HP5 := Hid.mk' hP5
                    have C := Em.end_tick X s F w5 hP5.x (HB.out.fit (by omega))
                    clear hw5 r1 hP5 c5 f5
                    go_wp2_with fail
                    refine C.mono ?_
                    rintro e w6 ⟨⟨v6, rfl⟩, hl6⟩
                    obtain ⟨F6, hP6⟩ := HP5.out.set_x hl6
                    have HP6 := Hid.mk' hP6
                    clear hl6 hP6 C
                    go_wp2_with fail
                    go_meet
                    case rel => exact ⟨rfl, Ec.tick s, F6, G5, HP6.out, inv_tick HI.out, HB.out.tick⟩
                · have hs3 : (st == 3) = false := by simpa using h3
                  clear h3
                  as_aux_lemma =>
                    have HX0 : Hid ((wr.alloc (frO false 0 ⟨#[]⟩)).heap[wr.heap.size]? = some (frO false 0 ⟨#[]⟩)) := heap_alloc_new _ _
                    have HBX0 := Hid.mk' (below_al wr (frO false 0 ⟨#[]⟩))
                    go_upto_if 72 with fail
                    go_cut [] from 56 to 203 (fun wx => ∃ (f1 : Bool) (q : Int) (d : ByteArray), Hid (wx.heap[wr.heap.size]? = some (frO f1 q d)) ∧ Hid (d.size ≤ maxLen) ∧ Hid (Below wr.heap.size wr wx))
                    case first =>
                      by_cases hnf0 : nf = 0
                      · have hz : ¬ (0 : Int) < nf := by omega
                        clear hnf0
                        go_wp2_with fail
                        go_meet
                        case rel => exact ⟨false, 0, ⟨#[]⟩, HX0.out, Nat.zero_le _, HBX0.out⟩
                      · have hz : (0 : Int) < nf := by omega
                        obtain ⟨j, hj⟩ : ∃ j : Nat, j = i % nf := ⟨_, rfl⟩
                        have hjn : j < nf := by rw [hj]; exact Nat.mod_lt _ (by omega)
                        have hjz : (j : Int) < nf := by omega
                        have hmod : (i : Int) % (nf : Int) = (j : Int) := by rw [hj]; omega
                        obtain ⟨bf, off, rfl, _, hfc⟩ := HF.out.some (by intro e; have h1 := HNF.out; rw [e] at h1; simp at h1; omega)
                        obtain ⟨x, hx⟩ : ∃ x, x = Ft.getD j fz := ⟨_, rfl⟩
                        obtain ⟨y1, y2, y3⟩ := hfc j (by rw [← HNF.out]; exact hjn)
                        have y1 := keep_cell (Ef.bel HP.out.bel HBX0.out) y1
                        have y2 := keep_cell (Ef.bel HP.out.bel HBX0.out) y2
                        have y3 := keep_cell (Ef.bel HP.out.bel HBX0.out) y3
                        rw [← hx] at y1 y2 y3
                        have HDS : Hid (x.2.2.size ≤ maxLen) := by rw [Hid, hx, List.getD_eq_getElem?_getD, List.getElem?_eq_getElem (by rw [← HNF.out]; exact hjn)]; exact HFZ.out _ (List.getElem_mem _)
                        obtain ⟨x1, x2, x3⟩ := x
                        simp only at y1 y2 y3
                        have z0 := blk_cell HX0.out (i := 0) (u := .bool false) rfl
                        have z1 := blk_cell HX0.out (i := 1) (u := .int .i64 0) rfl
                        have z2 := blk_cell HX0.out (i := 2) (u := .string ⟨#[]⟩) rfl
                        have g0 := blk_free HX0.out (i := 0)
                        have g1 := blk_free HX0.out (i := 1)
                        have g2 := blk_free HX0.out (i := 2)
                        clear hj hnf0 hx hfc
                        go_wp2_with fail
                        go_meet
                        case rel => exact ⟨x1, x2, x3, heap_alloc_new _ _, HDS.out, below_al _ _⟩
                    case rest =>
                      obtain ⟨f1, q, d, HX, HDS, HBX⟩ := hcut
                      have cs1 := keep_cell HBX.out cst
                      clear HX0 HBX0
                      go_upto_if 84 with fail
                      go_cut [] from 56 to 203 (fun wx => ∃ (f1 : Bool) (q : Int) (d : ByteArray), Hid (wx.heap[wr.heap.size]? = some (frO f1 q d)) ∧ Hid (d.size ≤ maxLen) ∧ Hid (Below wr.heap.size wr wx))
                      case first =>
                        by_cases h4 : st = 4
                        · obtain ⟨u, g, m, hG⟩ := HP.out.m
                          obtain ⟨sd, hsd⟩ : ∃ sd : Int, sd = (s.said : Int) := ⟨_, rfl⟩
                          have c4 : wc.cell? ⟨M, 4, none⟩ = some (.int .i64 sd) := by rw [hsd]; exact blk_cell (m.below HBX.out).blk (i := 4) rfl
                          have z0 := blk_cell HX.out (i := 0) (u := .bool f1) rfl
                          have z1 := blk_cell HX.out (i := 1) (u := .int .i64 q) rfl
                          have z2 := blk_cell HX.out (i := 2) (u := .string d) rfl
                          have g0 := blk_free HX.out (i := 0)
                          have g1 := blk_free HX.out (i := 1)
                          have g2 := blk_free HX.out (i := 2)
                          have hs4 : (st == 4) = true := by simpa using h4
                          clear h4 m hG hsd
                          go_wp2_with fail
                          go_meet
                          case rel => exact ⟨true, sd, e0, three_set HX.out, Nat.zero_le _, ((HBX.out.setCell (p := ⟨wr.heap.size, 0, none⟩) (Nat.le_refl _) _).setCell (p := ⟨wr.heap.size, 1, none⟩) (Nat.le_refl _) _).setCell (p := ⟨wr.heap.size, 2, none⟩) (Nat.le_refl _) _⟩
                        · have hs4 : (st == 4) = false := by simpa using h4
                          clear h4
                          go_wp2_with fail
                          go_meet
                          case rel => exact ⟨f1, q, d, HX.out, HDS.out, HBX.out⟩
                      case rest =>
                        clear HX HDS HBX cs1
                        obtain ⟨f1, q, d, HX, HDS, HBX⟩ := hcut
                        have cs1 := keep_cell HBX.out cst
                        go_upto_if 94 with fail
                        go_cut [] from 56 to 203 (fun wx => ∃ (f1 : Bool) (q : Int) (d : ByteArray), Hid (wx.heap[wr.heap.size]? = some (frO f1 q d)) ∧ Hid (d.size ≤ maxLen) ∧ Hid (Below wr.heap.size wr wx))
                        case first =>
                          by_cases h5 : st = 5
                          · obtain ⟨u, g, m, hG⟩ := HP.out.m
                            obtain ⟨pg, ng, cg, rfl, hng⟩ := own_shape m.rg
                            have c6 := blk_cell (m.below HBX.out).blk (i := 6) (u := .slice pg ng cg) rfl
                            have hng9 : ng ≤ 1000 := by rw [hng.out]; have := HB.out.2.1; omega
                            have hwr : IntKind.i64.wrap ((ng : Int) + 1) = (ng : Int) + 1 := wrap_in (by omega) (by omega)
                            have z0 := blk_cell HX.out (i := 0) (u := .bool f1) rfl
                            have z1 := blk_cell HX.out (i := 1) (u := .int .i64 q) rfl
                            have z2 := blk_cell HX.out (i := 2) (u := .string d) rfl
                            have g0 := blk_free HX.out (i := 0)
                            have g1 := blk_free HX.out (i := 1)
                            have g2 := blk_free HX.out (i := 2)
                            have hs5 : (st == 5) = true := by simpa using h5
                            clear h5 m hG hng
                            go_wp2_with fail
                            go_region_law (fail)
                            all_goals
                              go_wp2_with fail
                              go_meet
                              case rel => exact ⟨false, (ng : Int) + 1, d, three_set HX.out, HDS.out, (((HBX.out.setCell (p := ⟨wr.heap.size, 0, none⟩) (Nat.le_refl _) _).setCell (p := ⟨wr.heap.size, 1, none⟩) (Nat.le_refl _) _).setCell (p := ⟨wr.heap.size, 2, none⟩) (Nat.le_refl _) _).drew⟩
                          · have hs5 : (st == 5) = false := by simpa using h5
                            clear h5
                            go_wp2_with fail
                            go_meet
                            case rel => exact ⟨f1, q, d, HX.out, HDS.out, HBX.out⟩
                        case rest =>
                          clear HX HDS HBX cs1
                          obtain ⟨f1, q, d, HX, HDS, HBX⟩ := hcut
                          have HP1 := Hid.mk' (HP.out.below HBX.out)
                          have z0 := blk_cell HX.out (i := 0) (u := .bool f1) rfl
                          have z1 := blk_cell HX.out (i := 1) (u := .int .i64 q) rfl
                          have z2 := blk_cell HX.out (i := 2) (u := .string d) rfl
                          have C := rhear_any M s G f1 q d wc HP1.out.m HI.out (HB.out.fit (by omega)) HDS.out
                          have HFL : Hid (wr.heap.size < wc.heap.size) := (Array.getElem?_eq_some_iff.1 HX.out).1
                          obtain ⟨er, her⟩ : ∃ er, er = hearE s (f1, q, d) := ⟨_, rfl⟩
                          rw [← her] at C
                          have HER := Hid.mk' her
                          clear her
                          go_wp2_with fail
                          refine C.mono ?_
                          rintro e w5 ⟨rfl, hl5⟩
                          obtain ⟨G5, hP5⟩ := HP1.out.set_m hl5
                          have HP5 := Hid.mk' hP5
                          obtain ⟨_, _, hc5, _⟩ := hl5
                          have HX5 : Hid (w5.heap[wr.heap.size]? = some (frO f1 q d)) := (hc5.block _ HFL.out (fun e => by have h1 := HP.out.m.lt _ e; omega)).trans HX.out
                          have y0 := blk_cell HX5.out (i := 0) (u := .bool f1) rfl
                          have y1 := blk_cell HX5.out (i := 1) (u := .int .i64 q) rfl
                          have y2 := blk_cell HX5.out (i := 2) (u := .string d) rfl
                          have C2 := Ep.end_hear X s F f1 q d w5 hP5.x (HB.out.fit (by omega)) HDS.out
                          rw [← HER.out] at C2
                          clear hc5 hP5 C z0 z1 z2
                          go_wp2_with fail
                          refine C2.mono ?_
                          rintro e w6 ⟨rfl, hl6⟩
                          obtain ⟨F6, hP6⟩ := HP5.out.set_x hl6
                          have HP6 := Hid.mk' hP6
                          have CE := same_any er er w6 (ET.below HE.out hP6.bel)
                          have hee : (er == er) = true := by simp
                          rw [hee] at CE
                          clear hl6 hP6 C2 y0 y1 y2 hee
                          go_wp2_with fail
                          refine CE.mono ?_
                          rintro e w7 ⟨rfl, hb7⟩
                          have HB7 := Hid.mk' hb7
                          clear hb7 CE
                          go_wp2_with fail
                          go_meet
                          case rel => exact ⟨rfl, hearS s (f1, q, d), F6, G5, HP6.out.below HB7.out, inv_hear HI.out, HB.out.hear (f1, q, d)⟩
          case rest =>
            as_aux_lemma =>
              obtain ⟨rfl, s', F', G', HP', HI', HB'⟩ := hcut
              obtain ⟨u', g', m', hF'⟩ := HP'.out.m
              obtain ⟨pu, nu, cu, rfl, hnu⟩ := own_shape m'.ru
              obtain ⟨pg, ng, cg, rfl, hng⟩ := own_shape m'.rg
              obtain ⟨ak, hak⟩ : ∃ ak, ak = s'.acked := ⟨_, rfl⟩
              have c6 := blk_cell m'.blk (i := 6) (u := .slice pg ng cg) rfl
              have HC : Hid (∀ W, Below wc.heap.size wc W → W.cell? ⟨M, 2, none⟩ = some (.slice pu nu cu) ∧ W.cell? ⟨M, 3, none⟩ = some (.int .i64 ak)) := fun W hb => ⟨blk_cell (m'.below hb).blk (i := 2) rfl, by rw [hak]; exact blk_cell (m'.below hb).blk (i := 3) rfl⟩
              have CG : Hid (∀ W, Below wc.heap.size wc W → Calls Tryd.prog 14 #[ptr X] W fun e w' => ∃ p n c, e = .returned (.slice p n c) ∧ (∃ R, TxJ R w' (.slice p n c) s'.got) ∧ Below W.heap.size W w') := fun W hb => (Em.end_got X s' F' W (HP'.out.below hb).x (HB'.out.fit (by omega))).mono (by rintro e w' ⟨p, n, c, h1, h2, h3⟩; exact ⟨p, n, c, h1, ⟨_, h2⟩, h3⟩)
              have ST : Hid (∀ W p n c, Below wc.heap.size wc W → (∃ R, TxJ R W (.slice p n c) s'.got) → Calls Tryd.prog 13 #[.slice p n c, .slice pg ng cg] W fun e w' => e = .returned (.bool true) ∧ Below W.heap.size W w') := fun W p n c hb ⟨R, hR⟩ => by
                refine (texts_any (.slice p n c) (.slice pg ng cg) s'.got s'.got W R _ hR (TxJ.own (m'.below hb).rg) (by have := HB'.out.2.1; omega)).mono ?_
                rintro e w' ⟨rfl, hb2⟩
                exact ⟨by rw [decide_eq_true rfl], hb2⟩
              obtain ⟨lf, hlf⟩ : ∃ lf, lf = Ec.left s' := ⟨_, rfl⟩
              have CL : Hid (∀ W, Below wc.heap.size wc W → Calls Tryd.prog 15 #[ptr X] W fun e w' => e = .returned (.int .i64 lf) ∧ Below W.heap.size W w') := fun W hb => by rw [hlf]; exact Em.end_left X s' F' W (HP'.out.below hb).x (HB'.out.fit (by omega))
              have hwl : IntKind.i64.wrap ((nu : Int) - ak) = lf := by
                have h1 := HI'.out.ak
                have h2 := HI'.out.sd
                have h3 := HB'.out.1
                have h4 := hnu.out
                rw [hlf]
                unfold left
                rw [wrap_in (by omega) (by omega), hak]
                omega
              have HBC : Hid (Below wc.heap.size wc wc) := Below.refl _ _
              clear m' hF' hnu hng hak hlf
              go_wp2_with fail
              go_region_held3 (fun W => W.cell? ⟨M, 6, none⟩ = some (.slice pg ng cg)) (first | (go_keep; done) | (refine keep_cell hb8 ?_; (first | assumption | (go_split_ands; assumption))) | (refine keep_cell hb7 ?_; (first | assumption | (go_split_ands; assumption)))) (first
                | (go_at_call 14; refine (CG.out _ HBC.out.drew).mono ?_; rintro e w6 ⟨p6, n6, c6', rfl, hk7, hb7⟩; have HB6 : Hid (Below wc.heap.size wc w6) := Ef.bel HBC.out.drew hb7; have HK6 := Hid.mk' hk7; clear hk7)
                | (go_at_call 13; refine (ST.out _ _ _ _ HB6.out HK6.out).mono ?_; rintro e w7 ⟨rfl, hb8⟩; have HB7 : Hid (Below wc.heap.size wc w7) := Ef.bel HB6.out hb8))
              clear hb7 hb8 HK6 HB6 c6 CG ST
              obtain ⟨x2, x3⟩ := HC.out w7 HB7.out
              go_wp2_with fail
              go_region_held3 (fun W => W.cell? ⟨M, 2, none⟩ = some (.slice pu nu cu) ∧ W.cell? ⟨M, 3, none⟩ = some (.int .i64 ak)) (first | (go_keep; done) | (refine ⟨keep_cell hb9 ?_, keep_cell hb9 ?_⟩ <;> (first | assumption | (go_split_ands; assumption)))) (
                (go_at_call 15; refine (CL.out _ HB7.out.drew).mono ?_; rintro e w8 ⟨rfl, hb9⟩; have HB8 : Hid (Below wc.heap.size wc w8) := Ef.bel HB7.out.drew hb9))
              clear x2 x3 CL hwl
              go_wp2_with fail
              go_roundw
              case rel => exact ⟨i + 1, s', F', G', by omega, by omega, by go_num, HP'.out.below HB8.out, HI'.out, HB'.out⟩
              case measure => simp [intOf]; omega
        · have hl8z : ¬ (i : Int) < 80 := by omega
          have hltz : (i : Int) < ns := by omega
          go_wp2_with fail
          go_ret
          exact ⟨rfl, HP.out.bel⟩
      · have hltz : ¬ (i : Int) < ns := by omega
        go_wp2_with fail
        go_ret
        exact ⟨rfl, HP.out.bel⟩

end Ex
end Go.Proofs.YtaicacnijlneaaaDoor
