import Derived.Test.YtllcmfbkingfdaaDoorJ2
import Derived.Deep.QuietTactic
import Derived.BigQuiet
/- What the reference says of a place, of a letter, of a leaf that is seen. -/
namespace Go.Proofs.YtllcmfbkingfdaaDoor
namespace Lp
set_option linter.unusedVariables false
open Go.RowKit Ka Kb La Bm

/- behind the letters: what is left of the test -/
theorem chk_let {s : ByteArray} (h12 : ¬ 12 < s.size) (hall : s.toList.all Pm.isLet = true) (h2 : 2 ≤ s.size) :
    Pm.chk s.toList = if ((s[s.size - 1]'(by omega)).toNat : Int) < 98 then 2 else if 105 < ((s[s.size - 1]'(by omega)).toNat : Int) then 2 else if (((s[s.size - 2]'(by omega)).toNat : Int) == 97) = true then 2 else 0 := by
  have hl := len_eq s
  have h1 := last_eq s (by omega)
  have hc := last2_eq s h2
  unfold Pm.chk
  rw [hl, if_neg h12, if_neg (by omega), hall, hc]
  have hw : Pm.isWho (Pm.whoOf s.toList) = (decide (98 ≤ ((s[s.size - 1]'(by omega)).toNat : Int)) && decide (((s[s.size - 1]'(by omega)).toNat : Int) ≤ 105)) := by
    unfold Pm.isWho Pm.whoOf
    rw [h1]
    rw [Bool.eq_iff_iff]
    simp
    omega
  rw [hw]
  generalize ((s[s.size - 1]'(by omega)).toNat : Int) = x
  generalize (((s[s.size - 2]'(by omega)).toNat : Int) == 97) = y
  by_cases hx1 : x < 98
  · rw [if_pos hx1, decide_eq_false (by omega)]; cases y <;> simp
  · rw [if_neg hx1, decide_eq_true (by omega)]
    by_cases hx2 : 105 < x
    · rw [if_pos hx2, decide_eq_false (by omega)]; cases y <;> simp
    · rw [if_neg hx2, decide_eq_true (by omega)]; cases y <;> simp

set_option maxHeartbeats 1000000 in
theorem place_ref (s : ByteArray) (w : World) (hs : s.size ≤ maxLen) :
    Calls Tryd.prog 19 #[.string s] w fun e w' => e = .returned (.int .i64 (Pm.chk s.toList)) ∧ w' = w := by
  have hl := len_eq s
  have hm := hs
  unfold maxLen at hm
  by_cases h12 : 12 < s.size
  · have H : Hid (Pm.chk s.toList = 4) := by unfold Hid Pm.chk; rw [hl, if_pos h12]
    clear hl
    go_enter Tryd.func19, Tryd.ntmps19
    go_wp2
    go_ret
    exact ⟨ret_int H.out.symm, rfl⟩
  · have HB : Hid (s.toList.all Pm.isLet = false → Pm.chk s.toList = 2) := by
      intro h3; unfold Pm.chk; rw [hl, if_neg h12, h3]; simp
    have HL : Hid (s.size < 2 → Pm.chk s.toList = 2) := by
      intro h3; unfold Pm.chk; rw [hl, if_neg h12, if_pos h3]
    clear hl
    go_enter Tryd.func19, Tryd.ntmps19
    go_wp2
    go_loop [4] (fun i => ∃ k : Nat, k ≤ s.size ∧ i = .int .i64 k ∧ Hid ((s.toList.take k).all Pm.isLet = true)) (fun i => s.size - (intOf i).toNat)
    case atStart => exact ⟨0, Nat.zero_le _, rfl, by unfold Hid; simp⟩
    case round =>
      obtain ⟨k, hk, rfl, HA⟩ := hrel
      by_cases hlt : k < s.size
      · have hb : s[k].toNat < 256 := UInt8.toNat_lt _
        have HA1 : Hid ((s.toList.take (k+1)).all Pm.isLet = Pm.isLet s[k]) := by
          unfold Hid; rw [take_snoc s k hlt, List.all_append, HA.out]; simp
        have HA2 : Hid (∀ c, s.toList.all c = ((s.toList.take (k+1)).all c && (s.toList.drop (k+1)).all c)) := by
          intro c; rw [← List.all_append, List.take_append_drop]
        have HLt : Hid (Pm.isLet s[k] = (!(decide ((s[k].toNat : Int) < 97) || decide (122 < (s[k].toNat : Int))))) := isLet_iff _
        by_cases h1 : (s[k].toNat : Int) < 97
        · have H : Hid (Pm.chk s.toList = 2) := HB.out (by rw [HA2.out, HA1.out, HLt.out, decide_eq_true h1]; rfl)
          go_wp2
          go_ret
          exact ⟨ret_int H.out.symm, rfl⟩
        · by_cases h2 : 122 < (s[k].toNat : Int)
          · have H : Hid (Pm.chk s.toList = 2) := HB.out (by rw [HA2.out, HA1.out, HLt.out, decide_eq_true h2, Bool.or_true]; rfl)
            go_wp2
            go_ret
            exact ⟨ret_int H.out.symm, rfl⟩
          · go_wp2
            go_round
            case rel => exact ⟨k + 1, by omega, by go_num, by unfold Hid; rw [HA1.out, HLt.out, decide_eq_false h1, decide_eq_false h2]; rfl⟩
            case measure => simp [intOf]; omega
      · have HAll : Hid (s.toList.all Pm.isLet = true) := by
          have := HA.out
          unfold Hid; rwa [List.take_of_length_le (by rw [len_eq]; omega)] at this
        by_cases h2 : s.size < 2
        · have H : Hid (Pm.chk s.toList = 2) := HL.out h2
          go_wp2
          go_ret
          exact ⟨ret_int H.out.symm, rfl⟩
        · have hq1 : s.size - 1 < s.size := by omega
          have hq2 : s.size - 2 < s.size := by omega
          have HC := chk_let h12 HAll.out (by omega : 2 ≤ s.size)
          have HC' : Hid (Pm.chk s.toList = if ((s[s.size - 1]'hq1).toNat : Int) < 98 then 2 else if 105 < ((s[s.size - 1]'hq1).toNat : Int) then 2 else if (((s[s.size - 2]'hq2).toNat : Int) == 97) = true then 2 else 0) := HC
          clear HC
          by_cases h3 : ((s[s.size - 1]'hq1).toNat : Int) < 98
          · have H : Hid (Pm.chk s.toList = 2) := by unfold Hid; rw [HC'.out, if_pos h3]
            go_wp2
            go_ret
            exact ⟨ret_int H.out.symm, rfl⟩
          · by_cases h4 : 105 < ((s[s.size - 1]'hq1).toNat : Int)
            · have H : Hid (Pm.chk s.toList = 2) := by unfold Hid; rw [HC'.out, if_neg h3, if_pos h4]
              go_wp2
              go_ret
              exact ⟨ret_int H.out.symm, rfl⟩
            · cases h5 : (((s[s.size - 2]'hq2).toNat : Int) == 97)
              · have H : Hid (Pm.chk s.toList = 0) := by unfold Hid; rw [HC'.out, if_neg h3, if_neg h4, h5]; rfl
                go_wp2
                go_ret
                exact ⟨ret_int H.out.symm, rfl⟩
              · have H : Hid (Pm.chk s.toList = 2) := by unfold Hid; rw [HC'.out, if_neg h3, if_neg h4, h5]; rfl
                go_wp2
                go_ret
                exact ⟨ret_int H.out.symm, rfl⟩


theorem letter_ref (n : Int) (w : World) :
    Calls Tryd.prog 30 #[.int .i64 n] w fun e w' => e = .returned (.bool (isL n)) ∧ w' = w := by
  go_enter Tryd.func30, Tryd.ntmps30
  go_wp2
  all_goals
    go_ret
    exact ⟨ret_bool (by first | (simp [isL, *]; done) | (simp only [isL]; rw [decide_eq_false (by omega)]; rfl)), rfl⟩

theorem seen_ref (s : ByteArray) (n : Int) (b : Bool) (w : World) :
    Calls Tryd.prog 36 #[.agg #[.string s, .int .i64 n, .bool b]] w fun e w' => e = .returned (.bool (isS (s, n, b))) ∧ Below w.heap.size w w' := by
  have H1 : Hid (n = 0 → isS (s, n, b) = false) := by intro h; unfold isS; rw [h]; rfl
  have H2 : Hid (isS (s, n, b) = (n != 0 && !b)) := rfl
  go_enter Tryd.func36, Tryd.ntmps36
  go_wp2
  all_goals
    go_ret
    refine ⟨ret_bool ?_, (Below.refl _ w).alloc (Nat.le_refl _) _⟩
    first
      | (rw [H1.out (by assumption)]; done)
      | (rw [H2.out]; done)

end Lp
end Go.Proofs.YtllcmfbkingfdaaDoor
/- What the reference says of a book: the fault of one. -/
namespace Go.Proofs.YtllcmfbkingfdaaDoor
namespace Ma
set_option linter.unusedVariables false
open Go.ChangeShapes Go.WideShapes Go.ChangeAt Go.RowKit Bm Ka Kb La Lb Lc Lp Le

/- the place of the leaf ahead; none: nothing -/
def prv (l : List Leaf) (k : Nat) : List UInt8 := if k = 0 then [] else (l.getD (k - 1) none0).1.toList
theorem less_nil {p : List UInt8} (h : Pm.chk p = 0) : Op.bytesLess [] p = true := by
  have := (chk_pos h).1
  cases p with
  | nil => simp at this
  | cons _ _ => rfl

set_option maxRecDepth 100000 in
set_option maxHeartbeats 4000000 in
theorem book_ref (q : Option Addr) (n c : Nat) (l : List Leaf) (w : World) (hl : l.length = n) (h : LeafsIn w q l) (hs : ∀ x ∈ l, x.1.size ≤ maxLen) (hn : n ≤ maxLen) :
    Calls Tryd.prog 10 #[.slice q n c] w fun e w' => e = .returned (.int .i64 (bookE l)) ∧ Below w.heap.size w w' := by
  unfold maxLen at hn
  by_cases h300 : 300 < n
  · have HE : Hid (bookE l = 4) := by unfold Hid bookE; rw [hl, if_pos h300]
    have hz : (300 : Int) < n := by omega
    clear hl h hs
    go_enter Tryd.func10, Tryd.ntmps10
    go_wp2
    go_ret
    exact ⟨by rw [HE.out]; rfl, Below.refl _ _⟩
  · have HE : Hid (bookE l = goes [] l) := by unfold Hid bookE; rw [hl, if_neg h300]
    have hz : ¬ (300 : Int) < n := by omega
    have HL : Hid (l.length = n) := hl
    have HI : Hid (LeafsIn w q l) := h
    have HS : Hid (∀ x ∈ l, x.1.size ≤ maxLen) := hs
    clear hl h hs
    go_enter Tryd.func10, Tryd.ntmps10
    go_wp2
    go_loopw [3, 4, 5] (fun i _ _ wr => ∃ (k : Nat), k ≤ n ∧ i = .int .i64 k ∧ Hid (goes (prv l k) (l.drop k) = goes [] l) ∧ Hid (Below w.heap.size w wr)) (fun i _ _ _ => n - (intOf i).toNat)
    case atStart => exact ⟨0, by omega, rfl, rfl, Below.refl _ _⟩
    case round =>
      obtain ⟨k, hk, rfl, HG, HB⟩ := hrel
      by_cases hlt : k < n
      · have hltz : (k : Int) < n := by omega
        obtain ⟨b, o, rfl, hc⟩ := HI.out.some (by intro e; have := HL.out; rw [e] at this; simp at this; omega)
        have HC : Hid (∀ j, j < l.length → At w b o j (l.getD j none0)) := hc
        have hkl : k < l.length := by rw [HL.out]; exact hlt
        have ha := (hc k hkl).below HB.out (hc k hkl).lt
        have hss := HS.out _ (getD_mem hkl)
        obtain ⟨x, hx⟩ : ∃ x, x = l.getD k none0 := ⟨_, rfl⟩
        rw [← hx] at ha hss
        have HX : Hid (x = l.getD k none0) := hx
        obtain ⟨sx, nx, bx⟩ := x
        obtain ⟨a1, a2, a3⟩ := ha
        clear hc hx
        simp only at a1 a2 a3 hss
        have HD : Hid (goes (prv l k) (l.drop k) = if leafE (sx, nx, bx) ≠ 0 then leafE (sx, nx, bx) else if Op.bytesLess (prv l k) sx.toList = false then 7 else goes sx.toList (l.drop (k + 1))) := by
          unfold Hid; rw [drop_at hkl, ← HX.out]; rfl
        have HP : Hid (prv l (k + 1) = sx.toList) := by unfold Hid prv; rw [if_neg (by omega), Nat.add_sub_cancel, ← HX.out]
        have C := place_ref sx wr hss
        have C2 := fun W => letter_ref nx W
        by_cases hch : Pm.chk sx.toList = 0
        · rw [hch] at C
          by_cases hE : leafE (sx, nx, bx) = 0
          · have HD2 : Hid (goes [] l = if Op.bytesLess (prv l k) sx.toList = false then 7 else goes sx.toList (l.drop (k + 1))) := by
              unfold Hid; rw [← HG.out, HD.out, if_neg (by simpa using hE)]
            obtain ⟨_, hE2, hE3⟩ := leafE_zero.1 hE
            simp only at hE2 hE3
            by_cases hn0 : nx = 0
            · subst hn0
              have hb0 : bx = true := by
                rcases hE3 with e | e
                · exact absurd rfl e
                · exact e
              subst hb0
              have e0 : isL 0 = false := by decide
              rw [e0] at C2
              clear e0 hE2 hE3
              by_cases hk0 : k = 0
              · subst hk0
                simp only [Nat.zero_mul, Nat.add_zero] at a1 a2 a3
                have HG2 : Hid (goes (prv l (0 + 1)) (l.drop (0 + 1)) = goes [] l) := by
                  unfold Hid; rw [HP.out, HD2.out]
                  have e9 : Op.bytesLess (prv l 0) sx.toList = true := less_nil hch
                  rw [e9, if_neg (by decide)]
                clear HD HD2 hE hch hss HG
                go_wp2_with fail
                refine C.mono ?_
                rintro e w2 ⟨rfl, hw⟩
                have hw2 := hw.symm; subst hw2; clear hw C
                go_wp2_with fail
                refine (C2 _).mono ?_
                rintro e w3 ⟨rfl, hw⟩
                have hw2 := hw.symm; subst hw2; clear hw C2
                go_wp2_with fail
                go_quiet (fail)
                go_wp2_with fail
                go_roundw
                case rel => exact ⟨0 + 1, by omega, by go_num, HG2, bel_drew HB.out _⟩
                case measure => simp [intOf]; omega
              · obtain ⟨m, rfl⟩ : ∃ m, k = m + 1 := ⟨k - 1, by omega⟩
                have hml : m < l.length := by omega
                have hb := (HC.out m hml).below HB.out (HC.out m hml).lt
                obtain ⟨y, hy⟩ : ∃ y, y = l.getD m none0 := ⟨_, rfl⟩
                rw [← hy] at hb
                have HPV : Hid (prv l (m + 1) = y.1.toList) := by unfold Hid prv; rw [if_neg (by omega), Nat.add_sub_cancel, hy]
                obtain ⟨sy, ny, by'⟩ := y
                obtain ⟨b1, b2, b3⟩ := hb
                simp only at b1
                have hmz : (0 : Int) < (m : Int) + 1 := by omega
                have hmn : (m : Int) < n := by omega
                clear hy b2 b3
                cases hr : Op.bytesLess sy.toList sx.toList
                · have HR : Hid (bookE l = 7) := by
                    unfold Hid; rw [HE.out, HD2.out, HPV.out, hr, if_pos rfl]
                  have HRR : Hid (Op.bytesLess sx.toList sy.toList = true ∨ sx.toList = sy.toList) := by
                    by_cases e : sy.toList = sx.toList
                    · exact Or.inr e.symm
                    · exact Or.inl (less_total hr e)
                  clear HD HD2 hE hch hss HG HPV hr
                  go_wp2_with fail
                  refine C.mono ?_
                  rintro e w2 ⟨rfl, hw⟩
                  have hw2 := hw.symm; subst hw2; clear hw C
                  go_wp2_with fail
                  refine (C2 _).mono ?_
                  rintro e w3 ⟨rfl, hw⟩
                  have hw2 := hw.symm; subst hw2; clear hw C2
                  go_wp2_with fail
                  go_quiet (fail)
                  go_wp2_with fail
                  · go_ret
                    exact ⟨by rw [HR.out]; rfl, bel_drew HB.out _⟩
                  · rename_i hx
                    exfalso
                    rcases HRR.out with e | e
                    · rw [e] at hx; simp at hx
                    · rw [e] at hx; simp at hx
                · have HG2 : Hid (goes (prv l (m + 1 + 1)) (l.drop (m + 1 + 1)) = goes [] l) := by
                    unfold Hid; rw [HP.out, HD2.out, HPV.out, hr, if_neg (by decide)]
                  have hr1 : Op.bytesLess sx.toList sy.toList = false := less_asymm hr
                  have hr2 : (sx.toList == sy.toList) = false := by
                    rw [beq_eq_false_iff_ne]; intro e; rw [e, less_irrefl] at hr; cases hr
                  clear HD HD2 hE hch hss HG HPV hr
                  go_wp2_with fail
                  refine C.mono ?_
                  rintro e w2 ⟨rfl, hw⟩
                  have hw2 := hw.symm; subst hw2; clear hw C
                  go_wp2_with fail
                  refine (C2 _).mono ?_
                  rintro e w3 ⟨rfl, hw⟩
                  have hw2 := hw.symm; subst hw2; clear hw C2
                  go_wp2_with fail
                  go_quiet (fail)
                  go_wp2_with fail
                  go_roundw
                  case rel => exact ⟨m + 1 + 1, by omega, by go_num, HG2, bel_drew HB.out _⟩
                  case measure => simp [intOf]; omega
            · have hl0 : isL nx = true := by
                rcases hE2 with e | e
                · exact absurd e hn0
                · exact e
              rw [hl0] at C2
              have hnb : (nx != 0) = true := by simpa using hn0
              clear hl0 hE2 hE3
              by_cases hk0 : k = 0
              · subst hk0
                simp only [Nat.zero_mul, Nat.add_zero] at a1 a2 a3
                have HG2 : Hid (goes (prv l (0 + 1)) (l.drop (0 + 1)) = goes [] l) := by
                  unfold Hid; rw [HP.out, HD2.out]
                  have e9 : Op.bytesLess (prv l 0) sx.toList = true := less_nil hch
                  rw [e9, if_neg (by decide)]
                clear HD HD2 hE hch hss HG
                go_wp2_with fail
                refine C.mono ?_
                rintro e w2 ⟨rfl, hw⟩
                have hw2 := hw.symm; subst hw2; clear hw C
                go_wp2_with fail
                refine (C2 _).mono ?_
                rintro e w3 ⟨rfl, hw⟩
                have hw2 := hw.symm; subst hw2; clear hw C2
                go_wp2_with fail
                go_quiet (fail)
                go_wp2_with fail
                go_roundw
                case rel => exact ⟨0 + 1, by omega, by go_num, HG2, bel_drew HB.out _⟩
                case measure => simp [intOf]; omega
              · obtain ⟨m, rfl⟩ : ∃ m, k = m + 1 := ⟨k - 1, by omega⟩
                have hml : m < l.length := by omega
                have hb := (HC.out m hml).below HB.out (HC.out m hml).lt
                obtain ⟨y, hy⟩ : ∃ y, y = l.getD m none0 := ⟨_, rfl⟩
                rw [← hy] at hb
                have HPV : Hid (prv l (m + 1) = y.1.toList) := by unfold Hid prv; rw [if_neg (by omega), Nat.add_sub_cancel, hy]
                obtain ⟨sy, ny, by'⟩ := y
                obtain ⟨b1, b2, b3⟩ := hb
                simp only at b1
                have hmz : (0 : Int) < (m : Int) + 1 := by omega
                have hmn : (m : Int) < n := by omega
                clear hy b2 b3
                cases hr : Op.bytesLess sy.toList sx.toList
                · have HR : Hid (bookE l = 7) := by
                    unfold Hid; rw [HE.out, HD2.out, HPV.out, hr, if_pos rfl]
                  have HRR : Hid (Op.bytesLess sx.toList sy.toList = true ∨ sx.toList = sy.toList) := by
                    by_cases e : sy.toList = sx.toList
                    · exact Or.inr e.symm
                    · exact Or.inl (less_total hr e)
                  clear HD HD2 hE hch hss HG HPV hr
                  go_wp2_with fail
                  refine C.mono ?_
                  rintro e w2 ⟨rfl, hw⟩
                  have hw2 := hw.symm; subst hw2; clear hw C
                  go_wp2_with fail
                  refine (C2 _).mono ?_
                  rintro e w3 ⟨rfl, hw⟩
                  have hw2 := hw.symm; subst hw2; clear hw C2
                  go_wp2_with fail
                  go_quiet (fail)
                  go_wp2_with fail
                  · go_ret
                    exact ⟨by rw [HR.out]; rfl, bel_drew HB.out _⟩
                  · rename_i hx
                    exfalso
                    rcases HRR.out with e | e
                    · rw [e] at hx; simp at hx
                    · rw [e] at hx; simp at hx
                · have HG2 : Hid (goes (prv l (m + 1 + 1)) (l.drop (m + 1 + 1)) = goes [] l) := by
                    unfold Hid; rw [HP.out, HD2.out, HPV.out, hr, if_neg (by decide)]
                  have hr1 : Op.bytesLess sx.toList sy.toList = false := less_asymm hr
                  have hr2 : (sx.toList == sy.toList) = false := by
                    rw [beq_eq_false_iff_ne]; intro e; rw [e, less_irrefl] at hr; cases hr
                  clear HD HD2 hE hch hss HG HPV hr
                  go_wp2_with fail
                  refine C.mono ?_
                  rintro e w2 ⟨rfl, hw⟩
                  have hw2 := hw.symm; subst hw2; clear hw C
                  go_wp2_with fail
                  refine (C2 _).mono ?_
                  rintro e w3 ⟨rfl, hw⟩
                  have hw2 := hw.symm; subst hw2; clear hw C2
                  go_wp2_with fail
                  go_quiet (fail)
                  go_wp2_with fail
                  go_roundw
                  case rel => exact ⟨m + 1 + 1, by omega, by go_num, HG2, bel_drew HB.out _⟩
                  case measure => simp [intOf]; omega
          ·
            by_cases hn0 : nx = 0
            · subst hn0
              have hb0 : bx = false := by
                cases bx
                · rfl
                · exact absurd (leafE_zero.2 ⟨hch, Or.inl rfl, Or.inr rfl⟩) hE
              subst hb0
              have HR : Hid (bookE l = 3) := by
                unfold Hid; rw [HE.out, ← HG.out, HD.out, if_pos hE]; unfold leafE; rw [if_neg (by simpa using hch), if_neg (fun h => h.1 rfl), if_pos ⟨rfl, rfl⟩]
              have e0 : isL 0 = false := by decide
              rw [e0] at C2
              clear HD hE hch e0
              go_wp2_with fail
              refine C.mono ?_
              rintro e w2 ⟨rfl, hw⟩
              have hw2 := hw.symm; subst hw2; clear hw C
              go_wp2_with fail
              refine (C2 _).mono ?_
              rintro e w3 ⟨rfl, hw⟩
              have hw2 := hw.symm; subst hw2; clear hw C2
              go_wp2_with fail
              go_ret
              exact ⟨by rw [HR.out]; rfl, HB.out⟩
            · have hl0 : isL nx = false := by
                cases hl0 : isL nx
                · rfl
                · exact absurd (leafE_zero.2 ⟨hch, Or.inr hl0, Or.inl hn0⟩) hE
              have HR : Hid (bookE l = 1) := by
                unfold Hid; rw [HE.out, ← HG.out, HD.out, if_pos hE]; unfold leafE; rw [if_neg (by simpa using hch), if_pos ⟨hn0, hl0⟩]
              rw [hl0] at C2
              have hnb : (nx != 0) = true := by simpa using hn0
              clear HD hE hch hl0
              go_wp2_with fail
              refine C.mono ?_
              rintro e w2 ⟨rfl, hw⟩
              have hw2 := hw.symm; subst hw2; clear hw C
              go_wp2_with fail
              refine (C2 _).mono ?_
              rintro e w3 ⟨rfl, hw⟩
              have hw2 := hw.symm; subst hw2; clear hw C2
              go_wp2_with fail
              go_ret
              exact ⟨by rw [HR.out]; rfl, HB.out⟩
        · have HR : Hid (bookE l = Pm.chk sx.toList) := by
            unfold Hid; rw [HE.out, ← HG.out, HD.out]
            have e : leafE (sx, nx, bx) = Pm.chk sx.toList := by unfold leafE; rw [if_pos hch]
            rw [e, if_pos hch]
          obtain ⟨z, hz9⟩ : ∃ z, z = Pm.chk sx.toList := ⟨_, rfl⟩
          rw [← hz9] at C HR hch
          have hchb : (z != 0) = true := by simpa using hch
          clear HD hz9 C2
          go_wp2_with fail
          refine C.mono ?_
          rintro e w2 ⟨rfl, hw⟩
          have hw2 := hw.symm; subst hw2; clear hw C
          go_wp2_with fail
          go_ret
          exact ⟨by rw [HR.out]; rfl, HB.out⟩
      · obtain rfl : k = n := by omega
        have HZ : Hid (goes [] l = 0) := by
          unfold Hid; rw [← HG.out, List.drop_of_length_le (by rw [HL.out]; exact Nat.le_refl _)]; rfl
        go_wp2_with fail
        go_ret
        exact ⟨by rw [HE.out, HZ.out]; rfl, HB.out⟩

end Ma
end Go.Proofs.YtllcmfbkingfdaaDoor
/- What the reference says of what is seen: Text, Nth, Ahead. -/
namespace Go.Proofs.YtllcmfbkingfdaaDoor
namespace Mb
set_option linter.unusedVariables false
open Go.ChangeShapes Go.WideShapes Go.ChangeAt Go.RowKit Bm Ka Kb La Lb Lc Ld Le Lf Lp

set_option maxHeartbeats 1000000 in
theorem text_ref (q : Option Addr) (n c : Nat) (l : List Leaf) (w : World) (hl : l.length = n) (h : LeafsIn w q l) (ho : ∀ x ∈ l, x.2.1 = 0 ∨ isL x.2.1 = true) (hn : n ≤ 1048576) :
    Calls Tryd.prog 17 #[.slice q n c] w fun e w' => e = .returned (.string ⟨(text l).toArray⟩) ∧ Below w.heap.size w w' := by
  have HL : Hid (l.length = n) := hl
  have HI : Hid (LeafsIn w q l) := h
  have HO : Hid (∀ x ∈ l, x.2.1 = 0 ∨ isL x.2.1 = true) := ho
  obtain ⟨i0, hi, hz0, hz1, hz2⟩ := info_parts infoByte
  clear hl h ho
  go_enter Tryd.func17, Tryd.ntmps17
  go_wp2
  go_loopw [3, 4, 5] (fun v i _ wr => ∃ (k : Nat), k ≤ n ∧ i = .int .i64 k ∧ Hid (wr.ownsRow w.heap.size 5 1 v (text (l.take k)).length (bc (text (l.take k)))) ∧ Hid (Below w.heap.size w wr)) (fun _ i _ _ => n - (intOf i).toNat)
  case atStart => exact ⟨0, by omega, rfl, World.ownsRow_nil _ _ _ _, Below.refl _ _⟩
  case round =>
    obtain ⟨k, hk, rfl, HW, HB⟩ := hrel
    by_cases hlt : k < n
    · have hltz : (k : Int) < n := by omega
      obtain ⟨b, o, rfl, hc⟩ := HI.out.some (by intro e; have := HL.out; rw [e] at this; simp at this; omega)
      have hkl : k < l.length := by rw [HL.out]; exact hlt
      have HC : Hid (At w b o k (l.getD k none0)) := hc k hkl
      have ha := (hc k hkl).below HB.out (hc k hkl).lt
      have hoo := HO.out _ (getD_mem hkl)
      have HT : Hid (text (l.take (k + 1)) = if isS (l.getD k none0) then text (l.take k) ++ [letter (l.getD k none0)] else text (l.take k)) := take_text hkl
      have htl : (text (l.take k)).length ≤ 1048576 := by
        have h1 := text_len_le (l.take k)
        rw [List.length_take] at h1
        omega
      obtain ⟨x, hx⟩ : ∃ x, x = l.getD k none0 := ⟨_, rfl⟩
      rw [← hx] at ha hoo HT HC
      obtain ⟨sx, nx, bx⟩ := x
      obtain ⟨a1, a2, a3⟩ := ha
      clear hc hx
      simp only at a1 a2 a3 hoo
      have C := seen_ref sx nx bx wr
      obtain ⟨tx, htx⟩ : ∃ tx, tx = text (l.take k) := ⟨_, rfl⟩
      rw [← htx] at HW HT htl
      cases hse : isS (sx, nx, bx)
      · rw [hse] at C HT
        have HW2 : Hid (wr.ownsRow w.heap.size 5 1 u3 (text (l.take (k + 1))).length (bc (text (l.take (k + 1))))) := by
          unfold Hid; rw [HT.out]; exact HW.out
        clear hse htx hoo
        go_wp2_with fail
        refine C.mono ?_
        rintro e w2 ⟨rfl, hb2⟩
        have HB2 : Hid (Below w.heap.size w w2) := bel HB.out hb2
        have HW3 : Hid (w2.ownsRow w.heap.size 5 1 u3 (text (l.take (k + 1))).length (bc (text (l.take (k + 1))))) := own_below HW2.out hb2
        clear hb2 C a1 a2 a3
        go_wp2_with fail
        go_roundw
        case rel => exact ⟨k + 1, by omega, by go_num, HW3, HB2⟩
        case measure => simp [intOf]; omega
      · rw [hse] at C HT
        have hnx : isL nx = true := by
          rcases hoo with e | e
          · unfold isS at hse; rw [e] at hse; simp at hse
          · exact e
        have hnb := isL_ne hnx
        have HLT : Hid (((letter (sx, nx, bx)).toNat : Int) = nx) := letter_nat (x := (sx, nx, bx)) hnx
        clear hse htx hoo hnx
        obtain ⟨hnb1, hnb2, hnb3⟩ := hnb
        go_wp2_with fail
        refine C.mono ?_
        rintro e w2 ⟨rfl, hb2⟩
        have HB2 : Hid (Below w.heap.size w w2) := bel HB.out hb2
        have d2 := (HC.out.below HB2.out HC.out.lt).2.1
        simp only at d2
        have HW3 : Hid (w2.ownsRow w.heap.size 5 1 u3 tx.length (bc tx)) := own_below HW.out hb2
        clear hb2 C a1 a2 a3
        go_wp2_with (at_builtin; refine wpList_append_own_at _ rfl (.tmp 18) (.tmp 25) 77 rfl w.heap.size 5 i0 (.int .u8 0) 1 1 Tryd.underlying77 hi hz0 hz1 hz2 rfl (by decide) u3 _ _ rfl (HW3.out.alloc _) ⟨w2.heap.size, 0, none⟩ 1 1 [.int .u8 nx] rfl rfl (cell_one_new _ _ _) (by intro u hu; simp at hu; subst hu; rfl) (by unfold maxLen; omega) (by omega) (by have := HB2.out.size; simp; omega) ?_; intro v' w3 hown' hgrow _ hat; have HB3 : Hid (Below w.heap.size w w3) := (own_grow HW3.out (HB2.out.alloc HB2.out.size _) hgrow (by have := HB2.out.size; simp; omega)); have HW4 : Hid (w3.ownsRow w.heap.size 5 1 v' (text (l.take (k + 1))).length (bc (text (l.take (k + 1))))) := (by unfold Hid; rw [HT.out]; exact own_one HLT.out hown'); clear hown' hgrow hat)
        go_roundw
        case rel => exact ⟨k + 1, by omega, by go_num, HW4, HB3⟩
        case measure => simp [intOf]; omega
    · obtain rfl : k = n := by omega
      have hcv : (convert 77 9 u3).run Tryd.prog wr = .ok (.string ⟨(text l).toArray⟩) wr := by
        have := own_text HW.out
        rwa [List.take_of_length_le (by rw [HL.out]; exact Nat.le_refl _)] at this
      go_wp2_with fail
      go_ret
      exact ⟨rfl, HB.out⟩

theorem ahd_at : ∀ {l : List Leaf} {p : List UInt8} {k : Nat}, k ≤ l.length → (∀ j, j < k → Op.bytesLess (l.getD j none0).1.toList p = true) → (k < l.length → Op.bytesLess (l.getD k none0).1.toList p = false) → ahd l p = k
  | [], p, k, hk, _, _ => by simp at hk; subst hk; rfl
  | x :: l, p, 0, _, _, h => by
    have := h (by simp)
    have e : Op.bytesLess x.1.toList p = false := this
    simp [ahd, e]
  | x :: l, p, k + 1, hk, h1, h2 => by
    have e : Op.bytesLess x.1.toList p = true := h1 0 (by omega)
    have ih := ahd_at (l := l) (p := p) (k := k) (by simpa using hk) (fun j hj => h1 (j + 1) (by omega)) (fun hj => h2 (by simpa using hj))
    have e2 : ahd (x :: l) p = ahd l p + 1 := by simp [ahd, e]
    rw [e2, ih]

set_option maxHeartbeats 1000000 in
theorem ahead_ref (q : Option Addr) (n c : Nat) (l : List Leaf) (p : ByteArray) (w : World) (hl : l.length = n) (h : LeafsIn w q l) (hn : n ≤ 1048576) :
    Calls Tryd.prog 33 #[.slice q n c, .string p] w fun e w' => e = .returned (.int .i64 (ahd l p.toList)) ∧ w' = w := by
  have HL : Hid (l.length = n) := hl
  have HI : Hid (LeafsIn w q l) := h
  clear hl h
  go_enter Tryd.func33, Tryd.ntmps33
  go_wp2
  go_loop [5] (fun i => ∃ (k : Nat), k ≤ n ∧ i = .int .i64 k ∧ Hid (∀ j, j < k → Op.bytesLess (l.getD j none0).1.toList p.toList = true)) (fun i => n - (intOf i).toNat)
  case atStart => exact ⟨0, by omega, rfl, fun j hj => absurd hj (by omega)⟩
  case round =>
    obtain ⟨k, hk, rfl, HK⟩ := hrel
    by_cases hlt : k < n
    · have hltz : (k : Int) < n := by omega
      obtain ⟨b, o, rfl, hc⟩ := HI.out.some (by intro e; have := HL.out; rw [e] at this; simp at this; omega)
      have hkl : k < l.length := by rw [HL.out]; exact hlt
      have a1 := (hc k hkl).1
      obtain ⟨x, hx⟩ : ∃ x, x = (l.getD k none0).1 := ⟨_, rfl⟩
      rw [← hx] at a1
      have HX : Hid (x = (l.getD k none0).1) := hx
      clear hc hx
      cases hr : Op.bytesLess x.toList p.toList
      · have HR : Hid (ahd l p.toList = k) := ahd_at (by omega) HK.out (fun _ => by rw [← HX.out]; exact hr)
        go_wp2_with fail
        go_ret
        exact ⟨by rw [HR.out]; rfl, rfl⟩
      · have HK2 : Hid (∀ j, j < k + 1 → Op.bytesLess (l.getD j none0).1.toList p.toList = true) := by
          intro j hj
          rcases Nat.lt_succ_iff_lt_or_eq.1 hj with h | rfl
          · exact HK.out j h
          · rw [← HX.out]; exact hr
        go_wp2_with fail
        go_round
        case rel => exact ⟨k + 1, by omega, by go_num, HK2⟩
        case measure => simp [intOf]; omega
    · obtain rfl : k = n := by omega
      have HR : Hid (ahd l p.toList = k) := ahd_at (by rw [HL.out]; exact Nat.le_refl _) HK.out (fun h => by rw [HL.out] at h; omega)
      go_wp2_with fail
      go_ret
      exact ⟨by rw [HR.out]; rfl, rfl⟩

end Mb
end Go.Proofs.YtllcmfbkingfdaaDoor
