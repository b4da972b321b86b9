/- The walk of MarksFull. -/
import Derived.Test.YtcmoajlcmeimiaaDoorNn
import Derived.Test.YtcmoajlcmeimiaaDoorNh
import Derived.Test.YtcmoajlcmeimiaaDoorNs
import Derived.Test.YtcmoajlcmeimiaaDoorCo
import Derived.Test.YtcmoajlcmeimiaaDoorKl
namespace Go.Proofs.YtcmoajlcmeimiaaDoor
namespace Nt
set_option linter.unusedVariables false
open Go.ChangeShapes Go.WideShapes Go.ChangeAt Go.RowKit Cm Ka Kb Na Nb Nc Nd Nse Nf Ng Nh Ni Nj Nk Nl Nm Nn Nr Ns Kt Kl
open La (bel bel_drew errV_zero errV_ne own_ge own_grow own_below)

theorem full_size (m : Nat) : ∀ x ∈ fullM m, x.1.size ≤ maxLen := by
  intro x hx
  obtain ⟨i, _, _, rfl⟩ := mem_fullM.1 hx
  show nbP.size ≤ maxLen
  decide
theorem full_names (m : Nat) : ∀ k, k ≤ m → compTo (names (fullM m)) k = if k = 0 then [] else [nbP]
  | 0, _ => rfl
  | k + 1, hk => by
    have hg : ∀ j, j < m → (names (fullM m)).getD j noS = nbP := by
      intro j hj
      rw [names_get (by rw [fullM_length]; exact hj)]
      obtain ⟨i, _, _, e⟩ := mem_fullM.1 (getM_mem (l := fullM m) (j := j) (by rw [fullM_length]; exact hj))
      rw [e]; rfl
    rw [if_neg (by omega)]
    by_cases h0 : k = 0
    · subst h0
      rw [compTo, if_pos (Or.inl rfl), hg 0 (by omega)]; rfl
    · rw [compTo_same (by omega) (by rw [hg k (by omega), hg (k - 1) (by omega)]), full_names m k (by omega), if_neg h0]

theorem walk_out (n : Int) (w : World) (h : n < 0 ∨ 50 < n) :
    Calls Tryd.prog 4 #[.int .i64 n] w fun e w' => e = .returned (.bool true) ∧ Below w.heap.size w w' := by
  rcases h with h | h
  · go_enter Tryd.func4, Tryd.ntmps4
    go_wp2_with fail
    go_ret
    exact ⟨rfl, Below.refl _ _⟩
  · have h2 : ¬ n < 0 := by omega
    go_enter Tryd.func4, Tryd.ntmps4
    go_wp2_with fail
    go_ret
    exact ⟨rfl, Below.refl _ _⟩

set_option maxRecDepth 100000 in
set_option maxHeartbeats 2000000 in
theorem walk_in (n : Nat) (w : World) (hg : ET w) (h2 : n ≤ 50) :
    Calls Tryd.prog 4 #[.int .i64 n] w fun e w' => e = .returned (.bool true) ∧ Below w.heap.size w w' := by
  have h1z : ¬ (n : Int) < 0 := by omega
  have h2z : ¬ 50 < (n : Int) := by omega
  have HG : Hid (ET w) := hg
  have HCU : Hid (∀ (v : Value) (k : Nat) (W : World), MksAt W v (fullM (min k 40)) → Calls Tryd.prog 11 #[v, .agg #[.string ⟨#[110, 98]⟩, .int .i64 1, .int .i64 ((k + 1 : Nat) : Int)]] W fun e w' => ∃ v', e = .returned (.tuple #[v', errV (cutE (fullM (min k 40)) (mk1 (k + 1)))]) ∧ MksAt w' v' (cutL (fullM (min k 40)) (mk1 (k + 1))) ∧ Below W.heap.size W w') :=
    fun v k W hk => cut_any v (fullM (min k 40)) ⟨#[110, 98]⟩ 1 ((k + 1 : Nat) : Int) W hk (full_size _) (by decide)
  clear hg
  go_enter Tryd.func4, Tryd.ntmps4
  go_wp2_with fail
  go_loopw [3, 4, 5, 6, 7] (fun v i _ _ _ wr => ∃ k : Nat, k ≤ n ∧ i = .int .i64 (k + 1 : Nat) ∧ Hid (MksAt wr v (fullM (min k 40))) ∧ Hid (Below w.heap.size w wr)) (fun _ i _ _ _ _ => n + 1 - (intOf i).toNat)
  case atStart => exact ⟨0, by omega, rfl, MksAt.nil w, Below.refl _ _⟩
  case round =>
    obtain ⟨k, hk, rfl, HK, HB⟩ := hrel
    by_cases hlt : k < n
    · have hltz : ((k + 1 : Nat) : Int) ≤ n := by omega
      have C := HCU.out u3 k wr HK.out
      obtain ⟨j, hj⟩ : ∃ j : Nat, j = k + 1 := ⟨_, rfl⟩
      by_cases h40 : k < 40
      · have e0 : min k 40 = k := Nat.min_eq_left (by omega)
        rw [e0, (fullM_cut h40).1, (fullM_cut h40).2, errV_zero] at C
        have HE1 : Hid (min (k + 1) 40 = k + 1) := Nat.min_eq_left (by omega)
        have h40z : ((k + 1 : Nat) : Int) ≤ 40 := by omega
        have h40y : ¬ (40 : Int) < ((k + 1 : Nat) : Int) := by omega
        rw [← hj] at C h40z h40y hltz HE1
        rw [← hj]
        have HJ : Hid (j = k + 1) := hj
        clear e0 hj
        go_wp2_with fail
        refine C.mono ?_
        rintro e w2 ⟨v2, rfl, hk2, hb2⟩
        have HB2 : Hid (Below w.heap.size w w2) := bel HB.out hb2
        have HK2 : Hid (MksAt w2 v2 (fullM j)) := hk2
        have C2 := same_nil 4 w2
        clear C hk2 hb2
        go_wp2_with fail
        refine C2.mono ?_
        rintro e w3 ⟨rfl, hw⟩
        have hw2 := hw.symm; subst hw2; clear hw C2
        go_wp2_with fail
        go_roundw
        case rel => exact ⟨k + 1, by omega, by rw [HJ.out]; go_num, by rw [← HJ.out, HE1.out]; exact HK2, HB2⟩
        case measure => have := HJ.out; simp [intOf]; omega
      · have e0 : min k 40 = 40 := Nat.min_eq_right (by omega)
        rw [e0, (fullM_no (i := k + 1) (by omega) (by omega)).1, (fullM_no (i := k + 1) (by omega) (by omega)).2] at C
        have e4 : errV 4 = .iface 74 (.int .i64 4) := rfl
        rw [e4] at C
        have h40z : ¬ ((k + 1 : Nat) : Int) ≤ 40 := by omega
        have h40y : (40 : Int) < ((k + 1 : Nat) : Int) := by omega
        have HE1 : Hid (min (k + 1) 40 = min k 40) := by unfold Hid; omega
        rw [← hj] at C h40z h40y hltz HE1
        rw [← hj]
        have HJ : Hid (j = k + 1) := hj
        clear e0 hj e4
        go_wp2_with fail
        refine C.mono ?_
        rintro e w2 ⟨v2, rfl, hk2, hb2⟩
        have HB2 : Hid (Below w.heap.size w w2) := bel HB.out hb2
        have HK2 : Hid (MksAt w2 u3 (fullM (min k 40))) := HK.out.below hb2
        have C2 := same_err 4 4 w2 (Kl.ET.below HG.out HB2.out)
        clear C hk2 hb2
        go_wp2_with fail
        refine C2.mono ?_
        rintro e w3 ⟨rfl, hb3⟩
        have HB3 : Hid (Below w.heap.size w w3) := bel HB2.out hb3
        have HK3 : Hid (MksAt w3 u3 (fullM (min k 40))) := HK2.out.below hb3
        clear C2 hb3
        go_wp2_with fail
        go_roundw
        case rel => exact ⟨k + 1, by omega, by rw [HJ.out]; go_num, by rw [← HJ.out, HE1.out]; exact HK3, HB3⟩
        case measure => have := HJ.out; simp [intOf]; omega
    · obtain rfl : k = n := by omega
      obtain ⟨m, hm⟩ : ∃ m, m = min k 40 := ⟨_, rfl⟩
      rw [← hm] at HK
      have hm2 : m ≤ 40 := by omega
      have HMK : Hid (k = 0 ↔ m = 0) := by unfold Hid; omega
      have hxz : ¬ ((k + 1 : Nat) : Int) ≤ k := by omega
      have CP := places_any u3 (fullM m) wr HK.out (full_size m)
      have hpl : placesOf (fullM m) = if m = 0 then [] else [nbP] := by
        unfold placesOf; rw [if_pos (fullM_right hm2), fullM_length]; exact full_names m m (Nat.le_refl _)
      rw [fullM_right hm2, errV_zero, hpl] at CP
      have HSE : Hid (∀ W, MksAt W u3 (fullM m) → Calls Tryd.prog 16 #[u3, .string ⟨#[110, 98]⟩] W fun e w' => ∃ v', e = .returned (.tuple #[v', .nilIface]) ∧ DtsAt w' v' (dotsAt (fullM m) nbP) ∧ Below W.heap.size W w') := fun W hk => by
        have := seen_any u3 (fullM m) ⟨#[110, 98]⟩ W hk (full_size m) (by decide)
        have e0 : seenE (fullM m) ⟨#[110, 98]⟩ = 0 := fullM_seen hm2
        rw [e0, errV_zero, show seenL (fullM m) ⟨#[110, 98]⟩ = dotsAt (fullM m) nbP by unfold seenL; rw [if_pos e0]; rfl] at this
        exact this
      have HJO : Hid (∀ W vs, MksAt W u3 (fullM m) → DtsAt W vs (dotsAt (fullM m) nbP) → Calls Tryd.prog 20 #[u3, .string ⟨#[110, 98]⟩, vs] W fun e w' => ∃ v', e = .returned (.tuple #[v', .nilIface]) ∧ MksAt w' v' [] ∧ Below W.heap.size W w') := fun W vs hk hd => by
        have hj := fullM_join hm2
        have := join_ok u3 (fullM m) ⟨#[110, 98]⟩ vs _ W hk (full_size m) (by decide) hd hj.1
        have e0 : without (fullM m) ⟨#[110, 98]⟩ (dotsAt (fullM m) nbP) = [] := by
          have := (join_marks hj.1).1
          rw [← hj.2, this]; rfl
        rw [e0] at this; exact this
      obtain ⟨q3, c3, hv3, _⟩ := HK.out
      rw [fullM_length] at hv3
      subst hv3
      have HDL : Hid ((dotsAt (fullM m) nbP).length = m) := fullM_dots m
      clear hm hpl HCU
      go_wp2_with fail
      refine CP.mono ?_
      rintro e w2 ⟨v2, rfl, hk2, hb2⟩
      have HB2 : Hid (Below w.heap.size w w2) := bel HB.out hb2
      have HK2 : Hid (MksAt w2 (.slice q3 m c3) (fullM m)) := HK.out.below hb2
      obtain ⟨q2, c2, hv2, _⟩ := hk2
      obtain ⟨n2, hn2⟩ : ∃ n2, n2 = (if m = 0 then [] else [nbP] : List ByteArray).length := ⟨_, rfl⟩
      rw [← hn2] at hv2
      have HN20 : Hid (n2 = if m = 0 then 0 else 1) := by unfold Hid; rw [hn2]; split <;> rfl
      subst hv2
      clear hn2 CP hb2
      have C3 := HSE.out w2 HK2.out
      go_wp2_with fail
      refine C3.mono ?_
      rintro e w3 ⟨v3, rfl, hk3, hb3⟩
      have HB3 : Hid (Below w.heap.size w w3) := bel HB2.out hb3
      have HK3 : Hid (MksAt w3 (.slice q3 m c3) (fullM m)) := HK2.out.below hb3
      have HD3 : Hid (DtsAt w3 v3 (dotsAt (fullM m) nbP)) := hk3
      obtain ⟨q4, c4, hv4, _⟩ := hk3
      rw [HDL.out] at hv4
      subst hv4
      clear hb3 C3
      have C4 := HJO.out w3 _ HK3.out HD3.out
      go_wp2_with fail
      refine C4.mono ?_
      rintro e w4 ⟨v4, rfl, ⟨q5, c5, hv5, _⟩, hb4⟩
      have HB4 : Hid (Below w.heap.size w w4) := bel HB3.out hb4
      simp only [List.length_nil] at hv5
      subst hv5
      clear hb4 C4
      by_cases hm0 : m = 0
      · have hk0 : k = 0 := HMK.out.2 hm0
        have hn20 := HN20.out
        rw [if_pos hm0] at hn20
        clear HN20 HMK
        subst hn20 hm0 hk0
        go_wp2_with fail
        go_ret
        exact ⟨rfl, HB4.out⟩
      · have hk0 : ¬ k = 0 := fun e => hm0 (HMK.out.1 e)
        have hn20 := HN20.out
        have hkb : ((k : Int) == 0) = false := by rw [beq_eq_false_iff_ne]; omega
        rw [if_neg hm0] at hn20
        clear HN20 HMK
        subst hn20
        clear hm0 hk0
        go_wp2_with fail
        go_ret
        exact ⟨rfl, HB4.out⟩

end Nt
end Go.Proofs.YtcmoajlcmeimiaaDoor
