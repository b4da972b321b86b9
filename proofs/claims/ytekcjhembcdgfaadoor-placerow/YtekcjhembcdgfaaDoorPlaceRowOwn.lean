/- PlaceRow: for every two numbers and either bool, the law returns true: places that are made each behind the last one (or ahead of it) rise (or fall), and grow slowly; where none is made there is no room. No condition; the card ties the one package-level variable of Go's library that it reads. -/
import Derived.Test.YtekcjhembcdgfaaDoorPf
import Derived.Test.YtekcjhembcdgfaaDoorPv
import Derived.Test.YtekcjhembcdgfaaDoorPl
import Derived.Test.YtekcjhembcdgfaaDoorPk
import Derived.Test.YtekcjhembcdgfaaDoorCards
import Derived.Test.YtekcjhembcdgfaaDoorTie
import Derived.SevenTiedAt
namespace Go.Proofs.YtekcjhembcdgfaaDoor
namespace PlaceRowOwn
set_option linter.unusedVariables false
open Go.ChangeShapes Go.WideShapes Go.ChangeAt Go.RowKit Pa Pb Pc Pd Pe Pf Pt Pl

theorem hb_toList : (⟨#[104, 98]⟩ : ByteArray).toList = [104, 98] := ByteArray.toList_mk [104, 98]

theorem first_any (q : ByteArray) (hq : q = ⟨(Pm.betText [104, 98] [] 1).toArray⟩) (w : World) :
    Calls Tryd.prog 15 #[.string ⟨#[104, 98]⟩, .string ⟨#[]⟩, .int .i64 1] w fun e w' => e = .returned (.tuple #[.string q, .nilIface]) ∧ Below w.heap.size w w' :=
  between_yes ⟨#[104, 98]⟩ ⟨#[]⟩ 1 w (by unfold maxLen; decide) empty_size (by rw [hb_toList, empty_toList]; exact Pm.hb_bet.1) q (by rw [hb_toList, empty_toList]; exact hq)
theorem zero_any (w : World) :
    Calls Tryd.prog 15 #[.string ⟨#[]⟩, .string ⟨#[]⟩, .int .i64 0] w fun e w' => e = .returned (.tuple #[S (Pm.betText (⟨#[]⟩ : ByteArray).toList (⟨#[]⟩ : ByteArray).toList 0), .iface 47 (.int .i64 1)]) ∧ Below w.heap.size w w' :=
  between_no ⟨#[]⟩ ⟨#[]⟩ 0 w empty_size empty_size (by rw [empty_toList, Pm.hb_bet.2.2]; decide) 1 (by rw [empty_toList]; exact Pm.hb_bet.2.2)

set_option maxHeartbeats 1000000 in
set_option maxRecDepth 100000 in
theorem walk_out (n who : Int) (front : Bool) (w : World) (hg : ET w) (h : n < 0 ∨ (0 ≤ n ∧ 60 < n) ∨ (0 ≤ n ∧ n ≤ 60 ∧ who < 1) ∨ (0 ≤ n ∧ n ≤ 60 ∧ 1 ≤ who ∧ 8 < who)) :
    Calls Tryd.prog 4 #[.int .i64 n, .int .i64 who, .bool front] w fun e w' => e = .returned (.bool true) ∧ Below w.heap.size w w' := by
  obtain ⟨q, hq⟩ : ∃ q : ByteArray, q = ⟨(Pm.betText [104, 98] [] 1).toArray⟩ := ⟨_, rfl⟩
  have HQ : Hid (q = ⟨(Pm.betText [104, 98] [] 1).toArray⟩) := hq
  have habove := Pm.hb_bet.2.1
  have hql : q.toList = Pm.betText [104, 98] [] 1 := by rw [hq, ByteArray.toList_mk]
  rw [← hql] at habove
  simp only [Bool.or_eq_false_iff] at habove
  obtain ⟨hab1, hab2⟩ := habove
  clear hq hql
  have HG : Hid (ET w) := hg
  clear hg
  rcases h with h1 | ⟨h1, h2⟩ | ⟨h1, h2, h3⟩ | ⟨h1, h2, h3, h4⟩
  all_goals
    go_enter Tryd.func4, Tryd.ntmps4
    go_wp2_with fail
    refine (first_any q HQ.out _).mono ?_
    rintro e w1 ⟨rfl, hb1⟩
    go_wp2_with fail
    refine (zero_any _).mono ?_
    rintro e w2 ⟨rfl, hb2⟩
    have HG2 : Hid (ET w2) := ET.below HG.out (bel hb1 hb2)
    go_wp2_with fail
    refine (same_err 1 1 _ HG2.out).mono ?_
    rintro e w3 ⟨rfl, hb3⟩
    go_wp2_with fail
    go_ret
    exact ⟨rfl, bel (bel hb1 hb2) hb3⟩

/- the round's relation: a place, or none yet -/
def Rel (w : World) (n : Int) (v i : Value) (wr : World) : Prop :=
  ∃ (k : Nat) (P : ByteArray), (k : Int) ≤ n ∧ i = .int .i64 k ∧ v = .string P ∧ ((P.toList = [] ∧ k = 0) ∨ Pm.chk P.toList = 0) ∧ P.size ≤ k + 1 ∧ Below w.heap.size w wr

theorem rel_next {w wr : World} {n : Int} {k : Nat} {P q : ByteArray} (hk : (k : Int) < n) (h1 : (P.toList = [] ∧ k = 0) ∨ Pm.chk P.toList = 0) (h2 : P.size ≤ k + 1)
    (hc : Pm.chk q.toList = 0) (h3 : P.toList = [] → q.toList.length ≤ 2) (h4 : P.toList ≠ [] → q.toList.length ≤ P.toList.length + 1) (hb : Below w.heap.size w wr) :
    q.size ≤ k + 2 ∧ Rel w n (.string q) (.int .i64 ((k : Int) + 1)) wr := by
  have hq : q.size ≤ k + 2 := by
    rw [len_eq] at h3 h4
    rcases h1 with ⟨e, hk0⟩ | hc
    · have := h3 e; omega
    · have hne : P.toList ≠ [] := by intro e; rw [e] at hc; simp [Pm.chk] at hc
      have := h4 hne
      rw [len_eq] at this; omega
  exact ⟨hq, k + 1, q, by omega, by simp, rfl, Or.inr hc, by omega, hb⟩

set_option maxHeartbeats 2000000 in
set_option maxRecDepth 100000 in
theorem walk_up (n who : Int) (w : World) (hg : ET w) (h0 : 0 ≤ n) (h60 : n ≤ 60) (hw1 : 1 ≤ who) (hw8 : who ≤ 8) :
    Calls Tryd.prog 4 #[.int .i64 n, .int .i64 who, .bool false] w fun e w' => e = .returned (.bool true) ∧ Below w.heap.size w w' := by
  obtain ⟨q, hq⟩ : ∃ q : ByteArray, q = ⟨(Pm.betText [104, 98] [] 1).toArray⟩ := ⟨_, rfl⟩
  have HQ : Hid (q = ⟨(Pm.betText [104, 98] [] 1).toArray⟩) := hq
  have habove := Pm.hb_bet.2.1
  have hql : q.toList = Pm.betText [104, 98] [] 1 := by rw [hq, ByteArray.toList_mk]
  rw [← hql] at habove
  simp only [Bool.or_eq_false_iff] at habove
  obtain ⟨hab1, hab2⟩ := habove
  clear hq hql
  have HG : Hid (ET w) := hg
  clear hg
  have HW : Hid (Pm.isWho who = true) := by unfold Hid Pm.isWho; simp [hw1, hw8]
  go_enter Tryd.func4, Tryd.ntmps4
  go_wp2_with fail
  refine (first_any q HQ.out _).mono ?_
  rintro e w1 ⟨rfl, hb1⟩
  go_wp2_with fail
  clear hab1 hab2 HQ
  go_loopw [11, 12] (fun v i wr => Rel w n v i wr) (fun _ i _ => 61 - (intOf i).toNat)
  case atStart => exact ⟨0, ⟨#[]⟩, h0, rfl, rfl, Or.inl ⟨empty_toList, rfl⟩, by decide, hb1⟩
  case round =>
    obtain ⟨k, P, hk, rfl, rfl, hP, hPs, hbel⟩ := hrel
    by_cases hlt : (k : Int) < n
    · have hPm : P.size ≤ maxLen := by unfold maxLen; omega
      have hP2 : P.toList = [] ∨ Pm.chk P.toList = 0 := by rcases hP with ⟨e, _⟩ | e; exact Or.inl e; exact Or.inr e
      by_cases hE : Pm.betErr P.toList (⟨#[]⟩ : ByteArray).toList who = 0
      · have HE : Hid (Pm.betErr P.toList (⟨#[]⟩ : ByteArray).toList who = 0) := hE
        rw [empty_toList] at hE
        obtain ⟨h1, h2, h3, h4⟩ := Pm.step_up HW.out hP2 hE
        obtain ⟨q2, hq2⟩ : ∃ q2 : ByteArray, q2 = ⟨(Pm.betText P.toList (⟨#[]⟩ : ByteArray).toList who).toArray⟩ := ⟨_, rfl⟩
        have HQ2 : Hid (q2 = ⟨(Pm.betText P.toList (⟨#[]⟩ : ByteArray).toList who).toArray⟩) := hq2
        have hq2l : q2.toList = Pm.betText P.toList [] who := by rw [hq2, ByteArray.toList_mk, empty_toList]
        rw [← hq2l] at h1 h2 h3 h4
        simp only [Bool.or_eq_false_iff] at h4
        obtain ⟨h5, h6⟩ := h4
        clear hq2 hq2l hE
        have HN : Hid (∀ wr, Below w.heap.size w wr → q2.size ≤ k + 2 ∧ Rel w n (.string q2) (.int .i64 ((k : Int) + 1)) wr) := fun wr hb => rel_next hlt hP hPs h1 h2 h3 hb
        have hqs := (HN.out _ hbel).1
        clear h1 h2 h3
        cases heP : P.toList.isEmpty
        all_goals
          clear hP hP2
          go_wp2_with fail
          refine (between_yes P ⟨#[]⟩ who _ hPm empty_size HE.out q2 HQ2.out).mono ?_
          rintro e w2 ⟨rfl, hb2⟩
          have hb3 : Below w.heap.size w w2 := bel hbel hb2
          go_wp2_with fail
          go_roundw
          case rel => exact (HN.out _ hb3).2
          case measure => simp [intOf]; omega
      · have HE : Hid (Pm.betErr P.toList (⟨#[]⟩ : ByteArray).toList who ≠ 0) := hE
        have HE8 : Hid (Pm.betErr P.toList (⟨#[]⟩ : ByteArray).toList who = 8) := by
          rw [empty_toList] at hE
          unfold Hid; rw [empty_toList]
          exact Pm.err8 HW.out (Pm.sides_up hP2).1 hE
        clear hE hP hP2
        go_wp2_with fail
        refine (between_no P ⟨#[]⟩ who _ hPm empty_size HE.out 8 HE8.out).mono ?_
        rintro e w2 ⟨rfl, hb2⟩
        have hb3 : Below w.heap.size w w2 := bel hbel hb2
        have HG2 : Hid (ET w2) := ET.below HG.out hb3
        go_wp2_with fail
        refine (same_err 8 8 _ HG2.out).mono ?_
        rintro e w3 ⟨rfl, hb4⟩
        go_wp2_with fail
        go_ret
        exact ⟨rfl, bel hb3 hb4⟩
    · clear hP
      go_wp2_with fail
      go_ret
      exact ⟨rfl, hbel⟩

set_option maxHeartbeats 2000000 in
set_option maxRecDepth 100000 in
theorem walk_down (n who : Int) (w : World) (hg : ET w) (h0 : 0 ≤ n) (h60 : n ≤ 60) (hw1 : 1 ≤ who) (hw8 : who ≤ 8) :
    Calls Tryd.prog 4 #[.int .i64 n, .int .i64 who, .bool true] w fun e w' => e = .returned (.bool true) ∧ Below w.heap.size w w' := by
  obtain ⟨q, hq⟩ : ∃ q : ByteArray, q = ⟨(Pm.betText [104, 98] [] 1).toArray⟩ := ⟨_, rfl⟩
  have HQ : Hid (q = ⟨(Pm.betText [104, 98] [] 1).toArray⟩) := hq
  have habove := Pm.hb_bet.2.1
  have hql : q.toList = Pm.betText [104, 98] [] 1 := by rw [hq, ByteArray.toList_mk]
  rw [← hql] at habove
  simp only [Bool.or_eq_false_iff] at habove
  obtain ⟨hab1, hab2⟩ := habove
  clear hq hql
  have HG : Hid (ET w) := hg
  clear hg
  have HW : Hid (Pm.isWho who = true) := by unfold Hid Pm.isWho; simp [hw1, hw8]
  go_enter Tryd.func4, Tryd.ntmps4
  go_wp2_with fail
  refine (first_any q HQ.out _).mono ?_
  rintro e w1 ⟨rfl, hb1⟩
  go_wp2_with fail
  clear hab1 hab2 HQ
  go_loopw [11, 12] (fun v i wr => Rel w n v i wr) (fun _ i _ => 61 - (intOf i).toNat)
  case atStart => exact ⟨0, ⟨#[]⟩, h0, rfl, rfl, Or.inl ⟨empty_toList, rfl⟩, by decide, hb1⟩
  case round =>
    obtain ⟨k, P, hk, rfl, rfl, hP, hPs, hbel⟩ := hrel
    by_cases hlt : (k : Int) < n
    · have hPm : P.size ≤ maxLen := by unfold maxLen; omega
      have hP2 : P.toList = [] ∨ Pm.chk P.toList = 0 := by rcases hP with ⟨e, _⟩ | e; exact Or.inl e; exact Or.inr e
      by_cases hE : Pm.betErr (⟨#[]⟩ : ByteArray).toList P.toList who = 0
      · have HE : Hid (Pm.betErr (⟨#[]⟩ : ByteArray).toList P.toList who = 0) := hE
        rw [empty_toList] at hE
        obtain ⟨h1, h2, h3, h4⟩ := Pm.step_down HW.out hP2 hE
        obtain ⟨q2, hq2⟩ : ∃ q2 : ByteArray, q2 = ⟨(Pm.betText (⟨#[]⟩ : ByteArray).toList P.toList who).toArray⟩ := ⟨_, rfl⟩
        have HQ2 : Hid (q2 = ⟨(Pm.betText (⟨#[]⟩ : ByteArray).toList P.toList who).toArray⟩) := hq2
        have hq2l : q2.toList = Pm.betText [] P.toList who := by rw [hq2, ByteArray.toList_mk, empty_toList]
        rw [← hq2l] at h1 h2 h3 h4
        clear hq2 hq2l hE
        have HN : Hid (∀ wr, Below w.heap.size w wr → q2.size ≤ k + 2 ∧ Rel w n (.string q2) (.int .i64 ((k : Int) + 1)) wr) := fun wr hb => rel_next hlt hP hPs h1 h2 h3 hb
        have H4 : Hid (P.toList ≠ [] → Op.bytesLess q2.toList P.toList = true) := h4
        have hqs := (HN.out _ hbel).1
        clear h1 h2 h3 h4 hP hP2
        cases heP : P.toList.isEmpty
        · have hlt2 := H4.out (by intro e; rw [e] at heP; simp at heP)
          go_wp2_with fail
          refine (between_any P ⟨#[]⟩ who _ hPm empty_size).mono ?_
          rintro e w2 ⟨rfl, hb2⟩
          go_wp2_with fail
          refine (between_yes ⟨#[]⟩ P who _ empty_size hPm HE.out q2 HQ2.out).mono ?_
          rintro e w3 ⟨rfl, hb3⟩
          have hb4 : Below w.heap.size w w3 := bel (bel hbel hb2) hb3
          go_wp2_with fail
          go_roundw
          case rel => exact (HN.out _ hb4).2
          case measure => simp [intOf]; omega
        · go_wp2_with fail
          refine (between_any P ⟨#[]⟩ who _ hPm empty_size).mono ?_
          rintro e w2 ⟨rfl, hb2⟩
          go_wp2_with fail
          refine (between_yes ⟨#[]⟩ P who _ empty_size hPm HE.out q2 HQ2.out).mono ?_
          rintro e w3 ⟨rfl, hb3⟩
          have hb4 : Below w.heap.size w w3 := bel (bel hbel hb2) hb3
          go_wp2_with fail
          go_roundw
          case rel => exact (HN.out _ hb4).2
          case measure => simp [intOf]; omega
      · have HE : Hid (Pm.betErr (⟨#[]⟩ : ByteArray).toList P.toList who ≠ 0) := hE
        have HE8 : Hid (Pm.betErr (⟨#[]⟩ : ByteArray).toList P.toList who = 8) := by
          rw [empty_toList] at hE
          unfold Hid; rw [empty_toList]
          exact Pm.err8 HW.out (Pm.sides_up hP2).2 hE
        clear hE hP hP2
        go_wp2_with fail
        refine (between_any P ⟨#[]⟩ who _ hPm empty_size).mono ?_
        rintro e w2 ⟨rfl, hb2⟩
        go_wp2_with fail
        refine (between_no ⟨#[]⟩ P who _ empty_size hPm HE.out 8 HE8.out).mono ?_
        rintro e w3 ⟨rfl, hb3⟩
        have hb4 : Below w.heap.size w w3 := bel (bel hbel hb2) hb3
        have HG2 : Hid (ET w3) := ET.below HG.out hb4
        go_wp2_with fail
        refine (same_err 8 8 _ HG2.out).mono ?_
        rintro e w4 ⟨rfl, hb5⟩
        go_wp2_with fail
        go_ret
        exact ⟨rfl, bel hb4 hb5⟩
    · clear hP
      go_wp2_with fail
      go_ret
      exact ⟨rfl, hbel⟩

theorem walk (n who : Int) (front : Bool) (w : World) (hg : ET w) :
    Calls Tryd.prog 4 #[.int .i64 n, .int .i64 who, .bool front] w fun e w' => e = .returned (.bool true) ∧ Below w.heap.size w w' := by
  by_cases h1 : n < 0
  · exact walk_out n who front w hg (Or.inl h1)
  by_cases h2 : 60 < n
  · exact walk_out n who front w hg (Or.inr (Or.inl ⟨by omega, h2⟩))
  by_cases h3 : who < 1
  · exact walk_out n who front w hg (Or.inr (Or.inr (Or.inl ⟨by omega, by omega, h3⟩)))
  by_cases h4 : 8 < who
  · exact walk_out n who front w hg (Or.inr (Or.inr (Or.inr ⟨by omega, by omega, by omega, h4⟩)))
  cases front
  · exact walk_up n who w hg (by omega) (by omega) (by omega) (by omega)
  · exact walk_down n who w hg (by omega) (by omega) (by omega) (by omega)

set_option maxRecDepth 100000 in
theorem lifted (os : Os) (started : os.Started) (H : Type) (enc : TypeId × Value → H) :
    ReturnsInHanded {} Tryd.checked os 4 .any (fun w args => (Rows.placeRowSpec.pre enc Tryd.prog Tryd.f4 [] false w args ∧ laidMetH Tryd.prog Pk.laid w) ∧ sizedMet enc Tryd.prog Tryd.f4 (OpenSpec.ofChange Rows.placeRowSpec) false w args)
      (Rows.placeRowSpec.post enc Tryd.prog Tryd.f4 false true false false) := by
  refine returnsInHanded_of_change_and (C := Tryd.checked) (X := fun w _ => laidMetH Tryd.prog Pk.laid w) (fun _ _ _ hh h => h.of_heap hh) Pk.own started (by kernel_rfl) Tryd.func4
    (ChangeSpec.witness_at (enc := enc) (C := Tryd.checked) (os := os) (X := fun w _ => laidMetH Tryd.prog Pk.laid w) false { World.holding Tryd.prog os ⟨#[], #[], []⟩ with heap := (World.holding Tryd.prog os ⟨#[], #[], []⟩).heap.modify 0 Pk.put } #[.int .i64 0, .int .i64 0, .bool false] 8 rfl (by kernel_rfl) (by kernel_rfl) (by kernel_rfl) (by kernel_rfl) (by kernel_rfl) (Pk.laidWorld_met os _)) ?_
  intro W base args ds gs before hval0 hW _ _ hL _
  have hval : ∀ (j : Nat) t v, Tryd.f4.params[j]? = some t → args[j]? = some v → Value.okWide Tryd.prog W .any base t v := hval0
  have hW' := hW
  obtain ⟨p, q, hA0, hV0, rfl, hfz, hnd⟩ := hW
  have hA : DataW.TrodAll enc Tryd.prog W 0 (fun _ => true) true Tryd.f4.params.toList args.toList ds p := hA0
  have hV : DataW.TrodVars enc Tryd.prog W (fun _ => true) [] gs q := hV0
  rw [Tryd.params4] at hA hval
  obtain ⟨v0, vs0, d0, ds0, p0, q0, hargs, rfl, rfl, h0, r0⟩ := trodAll_cons hA
  obtain ⟨v1, vs1, d1, ds1, p1, q1, rfl, rfl, rfl, h1, r1⟩ := trodAll_cons r0
  obtain ⟨v2, vs2, d2, ds2, p2, q2, rfl, rfl, rfl, h2, r2⟩ := trodAll_cons r1
  obtain ⟨rfl, rfl, rfl⟩ := trodAll_nil r2
  obtain rfl : args = #[v0, v1, v2] := by cases args; simp_all
  obtain ⟨a0, rfl, rfl, rfl, w0⟩ := open_int Tryd.underlying3 (hval 0 3 v0 rfl rfl) h0
  obtain ⟨a1, rfl, rfl, rfl, w1⟩ := open_int Tryd.underlying3 (hval 1 3 v1 rfl rfl) h1
  obtain ⟨a2, rfl, rfl, rfl⟩ := open_bool Tryd.underlying4 (hval 2 4 v2 rfl rfl) h2
  have hg := Pk.handle_of_laid hL
  obtain ⟨rfl, rfl⟩ : gs = [] ∧ q = [] := by
    cases gs with
    | nil => exact ⟨rfl, hV⟩
    | cons g r => exact absurd hV (by intro h; cases h)
  clear hA0 hval0
  simp only [List.append_nil] at hW'
  refine (walk a0 a1 a2 W hg).mono fun e W' ⟨he, bel⟩ => ?_
  subst he
  exact ⟨_, rfl, _, _, _, [], [], [], hW', trodAll_mk1 (shut_bool Tryd.underlying4 _), (trodAll_cons_mk (shut_int Tryd.underlying3 w0) (trodAll_cons_mk (shut_int Tryd.underlying3 w1) (trodAll_cons_mk (shut_bool Tryd.underlying4 a2) trodAll_mk0))), rfl, bel.frame _, fun h => by cases h⟩

theorem over : Rows.PlaceRowSaid :=
  OpenClaim.holds_of_wide 4 Tryd.f4 rfl rfl rfl rfl rfl rfl rfl ⟨rfl, rfl, rfl, rfl, rfl⟩ rfl rfl rfl rfl rfl (by kernel_rfl) Tryd.func4 (by kernel_rfl)
    (of_decide_eq_true (by kernel_rfl)) (by unfold Func.isWrapper; rw [if_neg (of_decide_eq_false (by kernel_rfl))]; exact ⟨rfl, rfl⟩)
    (fun os started H enc _ => lifted os started H enc)

end PlaceRowOwn

theorem placeRow_holds : Rows.PlaceRowCardSaid :=
  Claim7.holds_tied_plain_at .later [] [.handle] true Rows.placeRowCard.stood.harness true
    PlaceRowOwn.over (fun _ h => by cases h) (by kernel_rfl) (fun _ h => by cases h) placeRow_row_tie rfl ⟨rfl, rfl⟩ (by kernel_rfl) rfl
    (fun f fn hf hfn => by
      obtain rfl : f = 4 := Option.some.inj ((show Tryd.prog.funcNamed Rows.placeRowRow.func = some 4 by kernel_rfl).symm.trans hf) |>.symm
      obtain rfl : fn = Tryd.f4 := (Option.some.inj (Tryd.func4.symm.trans hfn)).symm
      exact ⟨by kernel_rfl, fun j t ht => by
        rw [Tryd.params4] at ht
        have h3 : t = 3 ∨ t = 4 := by
          rcases j with _ | _ | _ | j
          · exact Or.inl (by simpa using ht.symm)
          · exact Or.inl (by simpa using ht.symm)
          · exact Or.inr (by simpa using ht.symm)
          · simp at ht
        rcases h3 with rfl | rfl
        · exact (show Tryd.prog.wantsStandIn 3 = false by kernel_rfl)
        · exact (show Tryd.prog.wantsStandIn 4 = false by kernel_rfl)⟩)
    (by kernel_rfl)
#print axioms placeRow_holds
end Go.Proofs.YtekcjhembcdgfaaDoor
