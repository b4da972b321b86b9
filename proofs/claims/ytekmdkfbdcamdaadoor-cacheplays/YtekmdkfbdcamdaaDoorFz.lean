/- The walk of CachePlays. -/
import Derived.Test.YtekmdkfbdcamdaaDoorFu
import Derived.Test.YtekmdkfbdcamdaaDoorFv
import Derived.Test.YtekmdkfbdcamdaaDoorFy
import Derived.Test.YtekmdkfbdcamdaaDoorKl
import Derived.Test.YtekmdkfbdcamdaaDoorFk
import Derived.Deep.DeepCutAuto
import Derived.Deep.CutBlock
namespace Go.Proofs.YtekmdkfbdcamdaaDoor
namespace Fz
set_option linter.unusedVariables false
set_option linter.unusedSimpArgs false
open Go.ChangeShapes Go.WideShapes Go.ChangeAt Go.RowKit Ka Kb Ef Fc Fw Fx Fy Kt Kl
open Fm (wrap_in at_new text_new)
open Fb (Kp names get? off used trim Inv loadE loadS loadC getE getS newE dropS)
open Fl (findI erase_eq find_get)
open Fu (At Lft is_toList ne_toList)
open Ec (e0)

/- the program's cache and the reference's row side by side -/
structure Pk (w wr : World) (X b : Nat) (mx mm : List Kp) (v : Value) (F U : Nat → Prop) : Prop where
  x : At wr X b mx F
  m : Und w.heap.size wr v mm U
  off : ∀ g, F g → ¬ U g
  lx : ∀ g, F g → w.heap.size ≤ g
  bel : Below w.heap.size w wr
section
variable {w wr w' : World} {X b : Nat} {mx mm : List Kp} {v : Value} {F U : Nat → Prop}
theorem Pk.below (h : Pk w wr X b mx mm v F U) (hb : Below wr.heap.size wr w') : Pk w w' X b mx mm v F U := ⟨h.x.below hb, h.m.below hb, h.off, h.lx, Ef.bel h.bel hb⟩
theorem Pk.set_x (h : Pk w wr X b mx mm v F U) {mx' : List Kp} (hl : Lft wr X b F mx' w') : ∃ F', Pk w w' X b mx' mm v F' U := by
  obtain ⟨F', h1, h2, h3⟩ := hl
  refine ⟨F', h1, h.m.chg h2 (fun g e1 e2 => h.off g e2 e1), fun g e1 e2 => ?_, fun g e => ?_, h2.below h.lx h.bel h.bel.size⟩
  · rcases h3 g e1 with e | e
    · exact h.off g e e2
    · have := (h.m.lt g e2).2; omega
  · rcases h3 g e with e | e
    · exact h.lx g e
    · have := h.bel.size; omega
theorem und_base {B B' : Nat} {l : List Kp} (h : Und B wr v l U) (hB : B' ≤ B) : Und B' wr v l U := by
  obtain ⟨ao, b1, o, c, h1, h2, h3⟩ := h
  exact ⟨ao, b1, o, c, h1, ⟨h2.came, fun e => Nat.le_trans hB (h2.low e), h2.max⟩, h3⟩
theorem Pk.set_m (h : Pk w wr X b mx mm v F U) {v' : Value} {mm' : List Kp} (hl : Mk2 wr v' mm' w') : ∃ U', Pk w w' X b mx mm' v' F U' := by
  obtain ⟨U', h1, h2⟩ := hl
  refine ⟨U', h.x.below h2, und_base h1 h.bel.size, fun g e1 e2 => ?_, h.lx, Ef.bel h.bel h2⟩
  have h3 := h.x.lt g e1
  have h4 := (h1.lt g e2).1
  omega
end
theorem new_ok (b : Int) (w : World) (h : newE b = 0) : Calls Tryd.prog 5 #[.int .i64 b] w fun e w' => ∃ X F, e = .returned (.tuple #[ptr X, .nilIface]) ∧ At w' X b.toNat [] F ∧ (∀ g, F g → w.heap.size ≤ g) ∧ Below w.heap.size w w' := by
  refine (Fu.cache_new b w).mono ?_
  rintro e w' ⟨h1 | ⟨_, X, F, h2, h3, h4⟩, hb⟩
  · exact absurd h h1.1
  · exact ⟨X, F, h2, h3, h4, hb⟩
theorem find_at {p t : ByteArray} : ∀ {l : List Kp} {i : Nat}, findI p l = some (i, t) → l.getD i kz = (p, t)
  | [], i, h => by cases h
  | x :: l, i, h => by
    unfold findI at h
    by_cases e : x.1 = p
    · rw [if_pos e] at h
      injection h with h
      injection h with h1 h2
      rw [← h1, ← h2, ← e]; rfl
    · rw [if_neg e] at h
      cases hq : findI p l with
      | none => rw [hq] at h; cases h
      | some r =>
        rw [hq] at h
        obtain ⟨j, u⟩ := r
        simp only [Option.map_some, Option.some.injEq, Prod.mk.injEq] at h
        rw [← h.1, ← h.2]
        show l.getD j kz = _
        exact find_at hq
theorem get_of {p t : ByteArray} {l : List Kp} {i : Nat} (h : findI p l = some (i, t)) : get? p l = some t := by
  have h9 := find_get p l
  rw [h] at h9; exact h9.symm
theorem get_no {p : ByteArray} {l : List Kp} (h : findI p l = none) : get? p l = none := by
  have h9 := find_get p l
  rw [h] at h9; exact h9.symm
theorem getS_len (p : ByteArray) (m : List Kp) : (getS p m).length ≤ m.length + 1 := by
  unfold getS
  cases get? p m with
  | none => exact Nat.le_succ _
  | some t =>
    show (off p m ++ [(p, t)]).length ≤ _
    have := Fe.off_len p m
    rw [List.length_append]
    show (off p m).length + 1 ≤ _
    omega
theorem eq_self (d : ByteArray) : (d.toList == d.toList) = true := by simp
theorem take_names {m : List Kp} {k : Nat} (hk : k < m.length) : (names m).take (k + 1) = (names m).take k ++ [(m.getD k kz).1] := by
  unfold names
  rw [List.take_add_one, List.getElem?_map, List.getD_eq_getElem?_getD, List.getElem?_eq_getElem hk]; rfl
theorem take_all (m : List Kp) {n : Nat} (h : n = m.length) : (names m).take n = names m := List.take_of_length_le (by unfold names; rw [List.length_map, h]; exact Nat.le_refl _)
theorem names_len (m : List Kp) : (names m).length = m.length := by unfold names; rw [List.length_map]

set_option maxRecDepth 100000 in
set_option maxHeartbeats 4000000 in
theorem walk_bad (a : Int) (v1 v2 v3 : Value) (w : World) (h : a < 1 ∨ 10000 < a) (hE : ET w) :
    Calls Tryd.prog 4 #[.int .i64 a, v1, v2, v3] w fun e w' => e = .returned (.bool true) ∧ Below w.heap.size w w' := by
  have C1 := Fu.new_bad a w h
  have C2 := same_err 1 1 w hE
  rcases (show a < 1 ∨ (¬ a < 1 ∧ 10000 < a) by omega) with h1 | ⟨h1, h2⟩
  all_goals
    clear h hE
    go_enter Tryd.func4, Tryd.ntmps4
    go_wp2_with fail
    refine C1.mono ?_
    rintro e w1 ⟨rfl, hw⟩
    have hw2 := hw.symm; subst hw2; clear hw
    go_wp2_with fail
    refine C2.mono ?_
    rintro e w2 ⟨rfl, hb2⟩
    have HB2 := Hid.mk' hb2
    clear hb2 C1 C2
    go_wp2_with fail
    go_ret
    exact ⟨rfl, HB2.out⟩
set_option maxRecDepth 100000 in
set_option maxHeartbeats 8000000 in
theorem walk (a : Int) (vs : Value) (S : List Int) (vp : Value) (P : List ByteArray) (vt : Value) (T : List ByteArray) (w : World) (hs : Fk.Nums w vs S) (hp : Fk.Txts w vp P) (ht : Fk.Txts w vt T) (hE : ET w) :
    Calls Tryd.prog 4 #[.int .i64 a, vs, vp, vt] w fun e w' => e = .returned (.bool true) ∧ Below w.heap.size w w' := by
  obtain ⟨ps, cs, rfl, hsk, hsm⟩ := hs
  obtain ⟨⟨pp, cp, rfl, hpk, hpl, hpm, _⟩, hpz⟩ := hp
  obtain ⟨⟨pt, ct, rfl, htk, htl, htm, _⟩, htz⟩ := ht
  obtain ⟨ns, hns⟩ : ∃ ns, ns = S.length := ⟨_, rfl⟩
  obtain ⟨np, hnp⟩ : ∃ np, np = P.length := ⟨_, rfl⟩
  obtain ⟨nt, hnt⟩ : ∃ nt, nt = T.length := ⟨_, rfl⟩
  have hnsm : (ns : Int) ≤ 9223372036854775807 := by unfold maxLen at hsm; omega
  have hnpm : (np : Int) ≤ 9223372036854775807 := by unfold maxLen at hpm; omega
  have hntm : (nt : Int) ≤ 9223372036854775807 := by unfold maxLen at htm; omega
  rw [← hns, ← hnp, ← hnt]
  by_cases h : a < 1 ∨ 10000 < a
  · exact walk_bad a (.slice ps ns cs) (.slice pp np cp) (.slice pt nt ct) w h hE
  · obtain ⟨b, rfl⟩ : ∃ b : Nat, a = b := ⟨a.toNat, by omega⟩
    have he : newE b = 0 := by unfold newE; rw [if_neg h]
    have C1 := new_ok b w he
    rw [Int.toNat_natCast] at C1
    have HE := Hid.mk' hE
    have HNS := Hid.mk' hns
    have HNP := Hid.mk' hnp
    have HNT := Hid.mk' hnt
    have HS : Hid (S = [] ∨ ∃ b o, ps = some ⟨b, o, none⟩ ∧ ∀ j, j < S.length → w.cell? ⟨b, o + j, none⟩ = some (.int .i64 (S.getD j 0))) := hsk
    have HPK := Hid.mk' hpk
    have HTK := Hid.mk' htk
    have HPZ := Hid.mk' hpz
    have HTZ := Hid.mk' htz
    have h1 : ¬ (b : Int) < 1 := by omega
    have h2 : ¬ (10000 : Int) < b := by omega
    have hb9 : b ≤ 10000 := by omega
    clear h he hsk hsm hpk hpl hpm hpz htk htl htm htz hE hns hnp hnt
    go_enter Tryd.func4, Tryd.ntmps4
    go_wp2_with fail
    refine C1.mono ?_
    rintro e w1 ⟨X, F0, rfl, hx, hf0, hb1⟩
    have HP0 : Hid (Pk w w1 X b [] [] (.slice none 0 0) F0 (fun _ => False)) := ⟨hx, Und.nil _ _, fun g _ e => e, hf0, hb1⟩
    clear hx hf0 hb1 C1
    go_wp2_with fail
    refine (same_nil 0 _).mono ?_
    rintro e w2 ⟨rfl, hw⟩
    have hw2 := hw.symm; subst hw2; clear hw
    go_wp2_with fail
    clear h1 h2
    go_loopw [13, 14] (fun v13 v14 wr => ∃ (i : Nat) (m : List Kp) (va : Option Addr) (n c : Nat) (F U : Nat → Prop), i ≤ ns ∧ i ≤ 80 ∧ v14 = .int .i64 i ∧ v13 = .slice va n c ∧ Hid (Pk w wr X b m m (.slice va n c) F U) ∧ Hid (m.length ≤ i)) (fun _ v14 _ => 100 - (intOf v14).toNat)
    case atStart => exact ⟨0, [], none, 0, 0, F0, _, Nat.zero_le _, Nat.zero_le _, rfl, rfl, HP0, Nat.zero_le _⟩
    case round =>
      clear HP0
      obtain ⟨i, m, va, n, c, F, U, hin, hi80, rfl, rfl, HP, HM⟩ := hrel
      by_cases hlt : i < ns
      · by_cases hlt80 : i < 80
        · have hltz : (i : Int) < ns := by omega
          have hl8z : (i : Int) < 80 := by omega
          obtain ⟨bs, os, rfl, hsc⟩ : ∃ b o, ps = some ⟨b, o, none⟩ ∧ Hid (∀ j, j < S.length → w.cell? ⟨b, o + j, none⟩ = some (.int .i64 (S.getD j 0))) := by
            rcases HS.out with e | e
            · have h1 := HNS.out; rw [e] at h1; simp at h1; omega
            · exact e
          obtain ⟨st, hst⟩ : ∃ st, st = S.getD i 0 := ⟨_, rfl⟩
          have cst : wr.cell? ⟨bs, os + i, none⟩ = some (.int .i64 st) := by rw [hst]; exact keep_cell HP.out.bel (hsc.out i (by rw [← HNS.out]; exact hlt))
          have HFT : Hid (Fit b m) := ⟨hb9, by have := HM.out; omega⟩
          clear hst
          go_upto_if 57 with fail
          go_cut [15] from 45 to 176 (fun s15 wx => ∃ p : ByteArray, s15 = .string p ∧ Hid (p.size ≤ maxLen) ∧ wr = wx)
          case first =>
            by_cases hnd0 : np = 0
            · have hz : ¬ (0 : Int) < np := by omega
              have HZ0 : Hid ((ByteArray.mk #[]).size ≤ maxLen) := Nat.zero_le _
              clear hnd0
              go_wp2_with fail
              go_meet
              case rel => exact ⟨_, rfl, HZ0.out, rfl⟩
            · have hz : (0 : Int) < np := by omega
              obtain ⟨j, hj⟩ : ∃ j : Nat, j = i % np := ⟨_, rfl⟩
              have hjn : j < np := by rw [hj]; exact Nat.mod_lt _ (by omega)
              have hjz : (j : Int) < np := by omega
              have hmod : (i : Int) % (np : Int) = (j : Int) := by rw [hj]; omega
              obtain ⟨bd, od, rfl, _, hdc⟩ := HPK.out.some (by intro e; have h1 := HNP.out; rw [e] at h1; simp at h1; omega)
              obtain ⟨d, hd⟩ : ∃ d, d = P.getD j e0 := ⟨_, rfl⟩
              have cd := keep_cell HP.out.bel (hdc j (by rw [← HNP.out]; exact hjn))
              rw [← hd] at cd
              have HDS : Hid (d.size ≤ maxLen) := by rw [Hid, hd, List.getD_eq_getElem?_getD, List.getElem?_eq_getElem (by rw [← HNP.out]; exact hjn)]; exact HPZ.out _ (List.getElem_mem _)
              clear hj hnd0 hd hdc
              go_wp2_with fail
              go_meet
              case rel => exact ⟨_, rfl, HDS.out, rfl⟩
          case rest =>
            obtain ⟨p, rfl, HPS, hwx⟩ := hcut
            subst hwx
            go_upto_if 67 with fail
            go_cut [16] from 45 to 176 (fun s16 wx => ∃ s : ByteArray, s16 = .string s ∧ Hid (s.size ≤ maxLen) ∧ wr = wx)
            case first =>
              by_cases hnd0 : nt = 0
              · have hz : ¬ (0 : Int) < nt := by omega
                have HZ0 : Hid ((ByteArray.mk #[]).size ≤ maxLen) := Nat.zero_le _
                clear hnd0
                go_wp2_with fail
                go_meet
                case rel => exact ⟨_, rfl, HZ0.out, rfl⟩
              · have hz : (0 : Int) < nt := by omega
                obtain ⟨j, hj⟩ : ∃ j : Nat, j = i % nt := ⟨_, rfl⟩
                have hjn : j < nt := by rw [hj]; exact Nat.mod_lt _ (by omega)
                have hjz : (j : Int) < nt := by omega
                have hmod : (i : Int) % (nt : Int) = (j : Int) := by rw [hj]; omega
                obtain ⟨bd, od, rfl, _, hdc⟩ := HTK.out.some (by intro e; have h1 := HNT.out; rw [e] at h1; simp at h1; omega)
                obtain ⟨d, hd⟩ : ∃ d, d = T.getD j e0 := ⟨_, rfl⟩
                have cd := keep_cell HP.out.bel (hdc j (by rw [← HNT.out]; exact hjn))
                rw [← hd] at cd
                have HDS : Hid (d.size ≤ maxLen) := by rw [Hid, hd, List.getD_eq_getElem?_getD, List.getElem?_eq_getElem (by rw [← HNT.out]; exact hjn)]; exact HTZ.out _ (List.getElem_mem _)
                clear hj hnd0 hd hdc
                go_wp2_with fail
                go_meet
                case rel => exact ⟨_, rfl, HDS.out, rfl⟩
            case rest =>
              obtain ⟨s, rfl, HSS, hwx⟩ := hcut
              subst hwx
              have CF := find_any w.heap.size (.slice va n c) m U p wr HP.out.m (by have := HM.out; omega)
              obtain ⟨z, hzf⟩ : ∃ z, z = findZ p m := ⟨_, rfl⟩
              rw [← hzf] at CF
              have HZF := Hid.mk' hzf
              clear hzf
              go_wp2_with fail
              refine CF.mono ?_
              rintro e w5 ⟨rfl, hw⟩
              have hw2 := hw.symm; subst hw2; clear hw CF
              go_upto_block 2 with fail
              go_cut [9, 12, 13, 18, 19, 20] from 45 to 176 (fun s9 s12 s13 s18 s19 s20 wx => s12 = .bool true ∧ ∃ (m' : List Kp) (va' : Option Addr) (n' c' : Nat) (F' U' : Nat → Prop), s13 = .slice va' n' c' ∧ Hid (Pk w wx X b m' m' (.slice va' n' c') F' U') ∧ Hid (m'.length ≤ i + 1))
              case first =>
                by_cases hl : st = 0 ∨ st = 1
                · rcases hl with hst1 | hst1
                  all_goals
                    subst hst1
                    by_cases h1 : p.size = 0
                    · by_cases h3 : b < s.size
                      · as_aux_lemma =>
                          obtain ⟨q1, q2⟩ := is_toList h1

                          have hsz : (b : Int) < (s.size : Int) := by omega
                          have hsm : (s.size : Int) ≤ 9223372036854775807 := by have := HSS.out; unfold maxLen at this; omega

                          have HEE : Hid (loadE b p s = 4) := by rw [Hid]; unfold loadE; rw [if_neg (fun e => e.1 h1), if_pos h3]
                          have HSN : Hid (loadS b p s m = m) := by rw [Hid]; unfold loadS; rw [HEE.out, if_pos (by decide)]
                          have HPQ : Hid (Pk w wr X b m (loadS b p s m) (.slice va n c) F U) := by rw [Hid, HSN.out]; exact HP.out
                          clear h1 h3
                          go_wp2_with fail

                          have CS := Fu.cache_load X b m F p s wr HPQ.out.x HFT.out HPS.out HSS.out
                          rw [HEE.out] at CS
                          go_wp2_with fail
                          refine CS.mono ?_
                          rintro e w6 ⟨rfl, hl6⟩
                          obtain ⟨F6, hP6⟩ := HPQ.out.set_x hl6
                          have HP6 := Hid.mk' hP6
                          have CE := same_any 4 4 w6 (ET.below HE.out hP6.bel)
                          clear hl6 hP6 CS
                          go_wp2_with fail
                          refine CE.mono ?_
                          rintro e w7 ⟨rfl, hb7⟩
                          have HB7 := Hid.mk' hb7
                          clear hb7 CE
                          go_wp2_with fail
                          go_meet
                          case rel => exact ⟨rfl, loadS b p s m, _, _, _, F6, _, rfl, HP6.out.below HB7.out, by have h1 := Fe.loadS_len b p s m; have h2 := HM.out; show (loadS b p s m).length ≤ i + 1; omega⟩
                      · as_aux_lemma =>
                          obtain ⟨q1, q2⟩ := is_toList h1

                          have hsz : ¬ (b : Int) < (s.size : Int) := by omega
                          have hsm : (s.size : Int) ≤ 9223372036854775807 := by omega
                          have HEE : Hid (loadE b p s = 0) := by rw [Hid]; unfold loadE; rw [if_neg (fun e => e.1 h1), if_neg h3]
                          have HSN : Hid (loadS b p s m = loadC b p s m) := by rw [Hid]; unfold loadS; rw [HEE.out, if_neg (by decide)]
                          have hi := HP.out.x.1
                          have CL := load_any w.heap.size (.slice va n c) m U p s b wr HP.out.m hi.nd (by omega) hb9 (by have := hi.le; omega) (by have := HM.out; omega)
                          clear hi
                          clear h1 h3
                          go_wp2_with fail

                          refine CL.mono ?_
                          rintro e w5 ⟨a5, n5, c5, rfl, hm5⟩
                          obtain ⟨U5, hP5⟩ := HP.out.set_m hm5
                          have HPQ : Hid (Pk w w5 X b m (loadS b p s m) (.slice a5 n5 c5) F U5) := by rw [Hid, HSN.out]; exact hP5
                          clear hm5 hP5 CL

                          have CS := Fu.cache_load X b m F p s w5 HPQ.out.x HFT.out HPS.out HSS.out
                          rw [HEE.out] at CS
                          go_wp2_with fail
                          refine CS.mono ?_
                          rintro e w6 ⟨rfl, hl6⟩
                          obtain ⟨F6, hP6⟩ := HPQ.out.set_x hl6
                          have HP6 := Hid.mk' hP6
                          have CE := same_any 0 0 w6 (ET.below HE.out hP6.bel)
                          clear hl6 hP6 CS
                          go_wp2_with fail
                          refine CE.mono ?_
                          rintro e w7 ⟨rfl, hb7⟩
                          have HB7 := Hid.mk' hb7
                          clear hb7 CE
                          go_wp2_with fail
                          go_meet
                          case rel => exact ⟨rfl, loadS b p s m, _, _, _, F6, _, rfl, HP6.out.below HB7.out, by have h1 := Fe.loadS_len b p s m; have h2 := HM.out; show (loadS b p s m).length ≤ i + 1; omega⟩

                    · by_cases h2 : Pm.chk p.toList = 0
                      · by_cases h3 : b < s.size
                        · as_aux_lemma =>
                            obtain ⟨q1, q2⟩ := ne_toList h1
                            have CPL := Fv.place_ref p wr HPS.out
                            obtain ⟨ck, hck⟩ : ∃ ck, ck = Pm.chk p.toList := ⟨_, rfl⟩
                            rw [← hck] at CPL
                            have hk1 : ck = 0 := by rw [hck]; exact h2

                            have hsz : (b : Int) < (s.size : Int) := by omega
                            have hsm : (s.size : Int) ≤ 9223372036854775807 := by have := HSS.out; unfold maxLen at this; omega

                            have HEE : Hid (loadE b p s = 4) := by rw [Hid]; unfold loadE; rw [if_neg (fun e => e.2 h2), if_pos h3]
                            have HSN : Hid (loadS b p s m = m) := by rw [Hid]; unfold loadS; rw [HEE.out, if_pos (by decide)]
                            have HPQ : Hid (Pk w wr X b m (loadS b p s m) (.slice va n c) F U) := by rw [Hid, HSN.out]; exact HP.out
                            clear h1 h2 h3 hck
                            subst hk1
                            go_wp2_with (go_at_call 12; refine CPL.mono ?_; rintro e w5 ⟨rfl, hw5⟩; have hw6 := hw5.symm; subst hw6; clear hw5)

                            have CS := Fu.cache_load X b m F p s wr HPQ.out.x HFT.out HPS.out HSS.out
                            rw [HEE.out] at CS
                            go_wp2_with fail
                            refine CS.mono ?_
                            rintro e w6 ⟨rfl, hl6⟩
                            obtain ⟨F6, hP6⟩ := HPQ.out.set_x hl6
                            have HP6 := Hid.mk' hP6
                            have CE := same_any 4 4 w6 (ET.below HE.out hP6.bel)
                            clear hl6 hP6 CS
                            go_wp2_with fail
                            refine CE.mono ?_
                            rintro e w7 ⟨rfl, hb7⟩
                            have HB7 := Hid.mk' hb7
                            clear hb7 CE
                            go_wp2_with fail
                            go_meet
                            case rel => exact ⟨rfl, loadS b p s m, _, _, _, F6, _, rfl, HP6.out.below HB7.out, by have h1 := Fe.loadS_len b p s m; have h2 := HM.out; show (loadS b p s m).length ≤ i + 1; omega⟩
                        · as_aux_lemma =>
                            obtain ⟨q1, q2⟩ := ne_toList h1
                            have CPL := Fv.place_ref p wr HPS.out
                            obtain ⟨ck, hck⟩ : ∃ ck, ck = Pm.chk p.toList := ⟨_, rfl⟩
                            rw [← hck] at CPL
                            have hk1 : ck = 0 := by rw [hck]; exact h2

                            have hsz : ¬ (b : Int) < (s.size : Int) := by omega
                            have hsm : (s.size : Int) ≤ 9223372036854775807 := by omega
                            have HEE : Hid (loadE b p s = 0) := by rw [Hid]; unfold loadE; rw [if_neg (fun e => e.2 h2), if_neg h3]
                            have HSN : Hid (loadS b p s m = loadC b p s m) := by rw [Hid]; unfold loadS; rw [HEE.out, if_neg (by decide)]
                            have hi := HP.out.x.1
                            have CL := load_any w.heap.size (.slice va n c) m U p s b wr HP.out.m hi.nd (by omega) hb9 (by have := hi.le; omega) (by have := HM.out; omega)
                            clear hi
                            clear h1 h2 h3 hck
                            subst hk1
                            go_wp2_with (go_at_call 12; refine CPL.mono ?_; rintro e w5 ⟨rfl, hw5⟩; have hw6 := hw5.symm; subst hw6; clear hw5)

                            refine CL.mono ?_
                            rintro e w5 ⟨a5, n5, c5, rfl, hm5⟩
                            obtain ⟨U5, hP5⟩ := HP.out.set_m hm5
                            have HPQ : Hid (Pk w w5 X b m (loadS b p s m) (.slice a5 n5 c5) F U5) := by rw [Hid, HSN.out]; exact hP5
                            clear hm5 hP5 CL

                            have CS := Fu.cache_load X b m F p s w5 HPQ.out.x HFT.out HPS.out HSS.out
                            rw [HEE.out] at CS
                            go_wp2_with fail
                            refine CS.mono ?_
                            rintro e w6 ⟨rfl, hl6⟩
                            obtain ⟨F6, hP6⟩ := HPQ.out.set_x hl6
                            have HP6 := Hid.mk' hP6
                            have CE := same_any 0 0 w6 (ET.below HE.out hP6.bel)
                            clear hl6 hP6 CS
                            go_wp2_with fail
                            refine CE.mono ?_
                            rintro e w7 ⟨rfl, hb7⟩
                            have HB7 := Hid.mk' hb7
                            clear hb7 CE
                            go_wp2_with fail
                            go_meet
                            case rel => exact ⟨rfl, loadS b p s m, _, _, _, F6, _, rfl, HP6.out.below HB7.out, by have h1 := Fe.loadS_len b p s m; have h2 := HM.out; show (loadS b p s m).length ≤ i + 1; omega⟩
                      · as_aux_lemma =>
                          obtain ⟨q1, q2⟩ := ne_toList h1
                          have CPL := Fv.place_ref p wr HPS.out
                          obtain ⟨ck, hck⟩ : ∃ ck, ck = Pm.chk p.toList := ⟨_, rfl⟩
                          rw [← hck] at CPL

                          have hk1 : ¬ ck = 0 := by rw [hck]; exact h2
                          have hk2 : (ck == 0) = false := by simpa using hk1

                          have HEE : Hid (loadE b p s = 2) := by rw [Hid]; unfold loadE; rw [if_pos ⟨h1, h2⟩]
                          have HSN : Hid (loadS b p s m = m) := by rw [Hid]; unfold loadS; rw [HEE.out, if_pos (by decide)]
                          have HPQ : Hid (Pk w wr X b m (loadS b p s m) (.slice va n c) F U) := by rw [Hid, HSN.out]; exact HP.out

                          clear h1 h2 hck
                          go_wp2_with (go_at_call 12; refine CPL.mono ?_; rintro e w5 ⟨rfl, hw5⟩; have hw6 := hw5.symm; subst hw6; clear hw5)

                          have CS := Fu.cache_load X b m F p s wr HPQ.out.x HFT.out HPS.out HSS.out
                          rw [HEE.out] at CS
                          go_wp2_with fail
                          refine CS.mono ?_
                          rintro e w6 ⟨rfl, hl6⟩
                          obtain ⟨F6, hP6⟩ := HPQ.out.set_x hl6
                          have HP6 := Hid.mk' hP6
                          have CE := same_any 2 2 w6 (ET.below HE.out hP6.bel)
                          clear hl6 hP6 CS
                          go_wp2_with fail
                          refine CE.mono ?_
                          rintro e w7 ⟨rfl, hb7⟩
                          have HB7 := Hid.mk' hb7
                          clear hb7 CE
                          go_wp2_with fail
                          go_meet
                          case rel => exact ⟨rfl, loadS b p s m, _, _, _, F6, _, rfl, HP6.out.below HB7.out, by have h1 := Fe.loadS_len b p s m; have h2 := HM.out; show (loadS b p s m).length ≤ i + 1; omega⟩

                · have hs0 : (st == 0) = false := by simp; omega
                  have hs1 : (st == 1) = false := by simp; omega
                  clear hl
                  by_cases h2 : st = 2
                  · subst h2
                    cases hq : findI p m with
                    | none =>
                      as_aux_lemma =>
                        have hz : z = -1 := HZF.out.trans (findZ_none hq)
                        have hd : ¬ (0 : Int) ≤ z := by omega
                        have hg := get_no hq
                        have HG1 : Hid ((get? p m).getD Fb.e0 = ByteArray.mk #[]) := by rw [Hid, hg]; rfl
                        have HG2 : Hid (getE p m = 5) := by rw [Hid]; unfold getE; rw [if_pos hg]
                        have HGS : Hid (getS p m = m) := by rw [Hid]; unfold getS; rw [hg]
                        have HPQ : Hid (Pk w wr X b m (getS p m) (.slice va n c) F U) := by rw [Hid, HGS.out]; exact HP.out
                        clear hz hq hg
                        go_wp2_with fail

                        have CG := Fu.cache_get X b m F p wr HPQ.out.x HFT.out
                        rw [HG1.out, HG2.out] at CG
                        go_wp2_with fail
                        refine CG.mono ?_
                        rintro e w6 ⟨rfl, hl6⟩
                        obtain ⟨F6, hP6⟩ := HPQ.out.set_x hl6
                        have HP6 := Hid.mk' hP6
                        have CE := same_any 5 5 w6 (ET.below HE.out hP6.bel)
                        clear hl6 hP6 CG
                        go_wp2_with fail
                        refine CE.mono ?_
                        rintro e w7 ⟨rfl, hb7⟩
                        have HB7 := Hid.mk' hb7
                        clear hb7 CE
                        have hss := eq_self (ByteArray.mk #[])
                        go_wp2_with fail
                        go_meet
                        case rel => exact ⟨rfl, getS p m, _, _, _, F6, _, rfl, HP6.out.below HB7.out, by have h1 := getS_len p m; have h2 := HM.out; show (getS p m).length ≤ i + 1; omega⟩
                    | some r =>
                      as_aux_lemma =>
                        obtain ⟨j, t⟩ := r
                        have hz : z = (j : Int) := HZF.out.trans (findZ_some hq)
                        have hjl := find_lt hq
                        have hg := get_of hq
                        have HG1 : Hid ((get? p m).getD Fb.e0 = t) := by rw [Hid, hg]; rfl
                        have HG2 : Hid (getE p m = 0) := by rw [Hid]; unfold getE; rw [if_neg (by rw [hg]; exact fun e => by cases e)]
                        have hi := HP.out.x.1
                        have hto := Fb.used_off hi.nd hg
                        have HGS : Hid (loadC b p t m = getS p m) := Fb.get_load hi hg
                        have CL := load_any w.heap.size (.slice va n c) m U p t b wr HP.out.m hi.nd (by have := hi.le; omega) hb9 (by have := hi.le; omega) (by have := HM.out; omega)
                        rw [HGS.out] at CL
                        obtain ⟨b0, o0, c0, e9, HC, _⟩ := und_some HP.out.m (by intro e; rw [e] at hjl; simp at hjl)
                        injection e9 with e1 e2 e3
                        have hjn : (j : Int) < n := by rw [e2]; omega
                        clear e2 e3
                        subst e1
                        have hct := (HC.out j hjl).2
                        rw [find_at hq] at hct
                        simp only at hct
                        have hd : (0 : Int) ≤ z := by omega
                        subst hz
                        clear hq hjl hg hi hto HC
                        go_wp2_with fail
                        refine CL.mono ?_
                        rintro e w5 ⟨a5, n5, c5, rfl, hm5⟩
                        obtain ⟨U5, hP5⟩ := HP.out.set_m hm5
                        have HPQ := Hid.mk' hP5
                        clear hm5 hP5 CL hct

                        have CG := Fu.cache_get X b m F p w5 HPQ.out.x HFT.out
                        rw [HG1.out, HG2.out] at CG
                        go_wp2_with fail
                        refine CG.mono ?_
                        rintro e w6 ⟨rfl, hl6⟩
                        obtain ⟨F6, hP6⟩ := HPQ.out.set_x hl6
                        have HP6 := Hid.mk' hP6
                        have CE := same_any 0 0 w6 (ET.below HE.out hP6.bel)
                        clear hl6 hP6 CG
                        go_wp2_with fail
                        refine CE.mono ?_
                        rintro e w7 ⟨rfl, hb7⟩
                        have HB7 := Hid.mk' hb7
                        clear hb7 CE
                        have hss := eq_self t
                        go_wp2_with fail
                        go_meet
                        case rel => exact ⟨rfl, getS p m, _, _, _, F6, _, rfl, HP6.out.below HB7.out, by have h1 := getS_len p m; have h2 := HM.out; show (getS p m).length ≤ i + 1; omega⟩

                  · have hs2 : (st == 2) = false := by simpa using h2
                    clear h2
                    cases hq : findI p m with
                    | none =>
                      as_aux_lemma =>
                        have hz : z = -1 := HZF.out.trans (findZ_none hq)
                        have hd : ¬ (0 : Int) ≤ z := by omega
                        have hg := get_no hq
                        have HG2 : Hid (getE p m = 5) := by rw [Hid]; unfold getE; rw [if_pos hg]
                        have HGS : Hid (dropS p m = m) := by rw [Hid]; unfold dropS; exact Fb.off_none (Fb.get_none.1 hg)
                        have HPQ : Hid (Pk w wr X b m (dropS p m) (.slice va n c) F U) := by rw [Hid, HGS.out]; exact HP.out
                        clear hz hq hg
                        go_wp2_with fail

                        have CG := Fu.cache_drop X b m F p wr HPQ.out.x HFT.out
                        rw [HG2.out] at CG
                        go_wp2_with fail
                        refine CG.mono ?_
                        rintro e w6 ⟨rfl, hl6⟩
                        obtain ⟨F6, hP6⟩ := HPQ.out.set_x hl6
                        have HP6 := Hid.mk' hP6
                        have CE := same_any 5 5 w6 (ET.below HE.out hP6.bel)
                        clear hl6 hP6 CG
                        go_wp2_with fail
                        refine CE.mono ?_
                        rintro e w7 ⟨rfl, hb7⟩
                        have HB7 := Hid.mk' hb7
                        clear hb7 CE
                        go_wp2_with fail
                        go_meet
                        case rel => exact ⟨rfl, dropS p m, _, _, _, F6, _, rfl, HP6.out.below HB7.out, by have h1 := Fe.off_len p m; have h2 := HM.out; show (off p m).length ≤ i + 1; omega⟩
                    | some r =>
                      as_aux_lemma =>
                        obtain ⟨j, t⟩ := r
                        have hz : z = (j : Int) := HZF.out.trans (findZ_some hq)
                        have hjl := find_lt hq
                        have hg := get_of hq
                        have HG2 : Hid (getE p m = 0) := by rw [Hid]; unfold getE; rw [if_neg (by rw [hg]; exact fun e => by cases e)]
                        have CL := off_any w.heap.size (.slice va n c) m U j wr HP.out.m hjl (by have := HM.out; omega)
                        rw [erase_eq HP.out.x.1.nd hq] at CL
                        have hd : (0 : Int) ≤ z := by omega
                        subst hz
                        clear hq hjl hg
                        go_wp2_with fail
                        refine CL.mono ?_
                        rintro e w5 ⟨a5, n5, c5, rfl, hm5⟩
                        obtain ⟨U5, hP5⟩ := HP.out.set_m hm5
                        have HPQ : Hid (Pk w w5 X b m (dropS p m) (.slice a5 n5 c5) F U5) := hP5
                        clear hm5 hP5 CL

                        have CG := Fu.cache_drop X b m F p w5 HPQ.out.x HFT.out
                        rw [HG2.out] at CG
                        go_wp2_with fail
                        refine CG.mono ?_
                        rintro e w6 ⟨rfl, hl6⟩
                        obtain ⟨F6, hP6⟩ := HPQ.out.set_x hl6
                        have HP6 := Hid.mk' hP6
                        have CE := same_any 0 0 w6 (ET.below HE.out hP6.bel)
                        clear hl6 hP6 CG
                        go_wp2_with fail
                        refine CE.mono ?_
                        rintro e w7 ⟨rfl, hb7⟩
                        have HB7 := Hid.mk' hb7
                        clear hb7 CE
                        go_wp2_with fail
                        go_meet
                        case rel => exact ⟨rfl, dropS p m, _, _, _, F6, _, rfl, HP6.out.below HB7.out, by have h1 := Fe.off_len p m; have h2 := HM.out; show (off p m).length ≤ i + 1; omega⟩
              case rest =>
                as_aux_lemma =>
                  obtain ⟨rfl, m', va', n', c', F', U', rfl, HP', HM'⟩ := hcut
                  obtain ⟨i0, hi0, hz0, hz1, hz2⟩ := info_parts infoS
                  have HN' : Hid (n' = m'.length) := (und_le HP'.out.m).1
                  have hn9 : n' ≤ 100 := by have := HN'.out; have := HM'.out; omega
                  have HO0 : Hid (RowT wc.heap.size wc (.slice none 0 0) ((names m').take 0)) := ⟨rfl, Or.inl ⟨rfl, rfl⟩⟩
                  have HFT' : Hid (Fit b m') := ⟨hb9, by have := HM'.out; omega⟩
                  go_wp2_with fail
                  go_loopw [21, 22] (fun v21 v22 wx => ∃ (k : Nat) (q : Option Addr) (nq cq : Nat), k ≤ n' ∧ nq = k ∧ v22 = .int .i64 k ∧ v21 = .slice q nq cq ∧ Hid (RowT wc.heap.size wx (.slice q nq cq) ((names m').take k)) ∧ Hid (Below wc.heap.size wc wx)) (fun _ v22 _ => n' - (intOf v22).toNat)
                  case atStart => exact ⟨0, none, 0, 0, Nat.zero_le _, rfl, rfl, rfl, HO0, Below.refl _ _⟩
                  case round =>
                    clear HO0
                    obtain ⟨k, q, nq, cq, hk, hnq, rfl, rfl, HO, HBX⟩ := hrel
                    by_cases hkn : k < n'
                    · have hkz : (k : Int) < n' := by omega
                      have hkl : k < m'.length := by rw [← HN'.out]; exact hkn
                      obtain ⟨b0, o0, c0, e9, HC, _⟩ := und_some (HP'.out.m.below HBX.out) (by intro e; rw [e] at hkl; simp at hkl)
                      injection e9 with e1 e2 e3
                      clear e2 e3
                      subst e1
                      obtain ⟨x, hx⟩ : ∃ x, x = (m'.getD k kz).1 := ⟨_, rfl⟩
                      have cx := (HC.out k hkl).1
                      rw [← hx] at cx
                      have HBA : Hid (Below wr.heap.size wr (wr.alloc (.cells #[.string x] 9))) := (Below.refl _ _).alloc (Nat.le_refl _) _
                      have HOA : Hid ((wr.alloc (.cells #[.string x] 9)).ownsRow wc.heap.size 9 1 (.slice q nq cq) nq (((names m').take k).map Value.string)) := by
                        have h9 := own_below HO.out HBA.out
                        rw [Hid, hnq]
                        rw [hnq, List.length_take, names_len, Nat.min_eq_left (by omega)] at h9
                        exact h9
                      have HTN := Hid.mk' (text_new wr x)
                      have HTK2 : Hid ((names m').take (k + 1) = (names m').take k ++ [x]) := by rw [Hid, hx]; exact take_names hkl
                      have HLK : Hid (((names m').take k).length = nq) := by rw [Hid, List.length_take, names_len, Nat.min_eq_left (by omega), hnq]
                      have HNQ : Hid (nq = k ∧ wc.heap.size ≤ (wr.alloc (.cells #[.string x] 9)).heap.size) := ⟨hnq, Nat.le_trans HBX.out.size HBA.out.size⟩
                      have hnq9 : nq ≤ 100 := by omega
                      clear hx hkl hnq HC
                      go_wp2_with (at_builtin; refine wpList_append_own_at _ rfl (.tmp 152) (.tmp 158) 31 rfl wc.heap.size 9 i0 (.string ByteArray.empty) 1 16 Tryd.underlying31 hi0 hz0 hz1 hz2 rfl (by decide) (.slice q nq cq) nq (((names m').take k).map Value.string) rfl HOA.out ⟨wr.heap.size, 0, none⟩ 1 1 [.string x] rfl rfl HTN.out (by intro u hu; rw [List.mem_singleton.1 hu]; rfl) (by unfold maxLen; omega) (by omega) HNQ.out.2 ?_; intro v9 w9 hown9 hgrow9 _ hat9; obtain ⟨p9, N9, c9, rfl, hN9⟩ := own_shape hown9; have HR9 : Hid (RowT wc.heap.size w9 (.slice p9 N9 c9) ((names m').take (k + 1))) := (by rw [Hid, HTK2.out]; exact own_appT (b := [x]) HLK.out rfl hown9); have HB9 : Hid (Below wc.heap.size wc w9) := own_grow HO.out (Ef.bel HBX.out HBA.out) hgrow9 HNQ.out.2; have HN9 : Hid (N9 = k + 1) := (by have h1 := hN9.out; have h2 := HNQ.out.1; rw [Hid]; omega); clear hown9 hgrow9 hat9 hN9)
                      go_roundw
                      case rel => exact ⟨k + 1, p9, N9, c9, by omega, HN9.out, by go_num, rfl, HR9, HB9⟩
                      case measure => simp [intOf]; omega
                    · obtain rfl : k = n' := by omega
                      have hkz : ¬ (k : Int) < k := by omega
                      have HPX := Hid.mk' (HP'.out.below HBX.out)
                      have HOX : Hid (TxJ (fun g => (Value.slice q nq cq).ownBlock = some g) wr (.slice q nq cq) (names m')) := by
                        have h9 := HO.out
                        rw [take_all m' HN'.out] at h9
                        exact TxJ.own h9
                      have CP := Fu.cache_places X b m' F' wr HPX.out.x HFT'.out
                      obtain ⟨u1, hu1⟩ : ∃ u1 : Nat, u1 = used m' := ⟨_, rfl⟩
                      have HU1 := Hid.mk' hu1
                      clear hnq hkn hu1
                      go_wp2_with fail
                      refine CP.mono ?_
                      rintro e w6 ⟨p6, n6, c6, rfl, ht6, hb6⟩
                      have HP6 := Hid.mk' (HPX.out.below hb6)
                      have CT := texts_any (.slice p6 n6 c6) (.slice q nq cq) (names m') (names m') w6 _ _ ht6 (HOX.out.below hb6) (by rw [names_len]; have := HM'.out; omega)
                      rw [decide_eq_true rfl] at CT
                      clear ht6 hb6 CP
                      go_wp2_with fail
                      refine CT.mono ?_
                      rintro e w7 ⟨rfl, hb7⟩
                      have HP7 := Hid.mk' (HP6.out.below hb7)
                      have CU := Fu.cache_used X b m' F' w7 HP7.out.x
                      rw [← HU1.out] at CU
                      clear hb7 CT
                      go_wp2_with fail
                      refine CU.mono ?_
                      rintro e w8 ⟨rfl, hb8⟩
                      have HP8 := Hid.mk' (HP7.out.below hb8)
                      have CR := used_any w.heap.size (.slice va' k c') m' U' w8 HP8.out.m (by have := HM'.out; omega) (by have h1 := HP8.out.x.1.le; omega)
                      rw [← HU1.out] at CR
                      clear hb8 CU
                      go_wp2_with fail
                      refine CR.mono ?_
                      rintro e w9 ⟨rfl, hw⟩
                      have hw2 := hw.symm; subst hw2; clear hw CR
                      go_wp2_with fail
                      go_roundw
                      case rel => exact ⟨i + 1, m', va', k, c', F', U', by omega, by omega, by go_num, rfl, HP8, HM'⟩
                      case measure => simp [intOf]; omega
        · have hl8z : ¬ (i : Int) < 80 := by omega
          have hltz : (i : Int) < ns := by omega
          go_wp2_with fail
          go_ret
          exact ⟨rfl, HP.out.bel⟩
      · have hltz : ¬ (i : Int) < ns := by omega
        go_wp2_with fail
        go_ret
        exact ⟨rfl, HP.out.bel⟩

end Fz
end Go.Proofs.YtekmdkfbdcamdaaDoor
