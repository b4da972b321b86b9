/- Package diff: Diff. -/
import Derived.Test.YtmenknbgmgnfhaaDoorZh
namespace Go.Proofs.YtmenknbgmgnfhaaDoor
namespace Zi
set_option linter.unusedVariables false
set_option linter.unusedSimpArgs false
open Go.ChangeShapes Go.WideShapes Go.ChangeAt Go.RowKit Ka Kb Zb Zc Zd Ze Zf Zg Zh

theorem diff_no (a b : ByteArray) (w : World) (ha : a.size ≤ maxLen) (hb : b.size ≤ maxLen) (h : 200 < a.size ∨ 200 < b.size) :
    Calls Tryd.prog 4 #[.string a, .string b] w fun e w' => e = .returned (.tuple #[.slice none 0 0, .iface 36 (.int .i64 4)]) ∧ w' = w := by
  unfold maxLen at ha hb
  by_cases h1 : 200 < a.size
  · have z1 : (200 : Int) < (a.size : Int) := by omega
    clear h
    go_enter Tryd.func4, Tryd.ntmps4
    go_wp2_with fail
    go_ret2
    exact ⟨rfl, rfl⟩
  · have z1 : ¬ (200 : Int) < (a.size : Int) := by omega
    have z2 : (200 : Int) < (b.size : Int) := by omega
    clear h
    go_enter Tryd.func4, Tryd.ntmps4
    go_wp2_with fail
    go_ret2
    exact ⟨rfl, rfl⟩
/- what is left of the list -/
structure Way (A B : List UInt8) (i j : Nat) (L : List Fr) : Prop where
  li : i ≤ A.length
  lj : j ≤ B.length
  eq : eds L ++ dif (A.drop i) (B.drop j) = dif A B
  sz : ∀ x ∈ L, x.2.2.size ≤ 200
theorem Way.len {A B : List UInt8} {i j : Nat} {L : List Fr} (h : Way A B i j L) (ha : A.length ≤ 200) (hb : B.length ≤ 200) : L.length ≤ 134 := by
  have h1 := (dif_ok A B).len
  have h2 := congrArg List.length h.eq
  rw [List.length_append, eds, List.length_map] at h2
  omega
theorem Way.done {A B : List UInt8} {i j k : Nat} {L : List Fr} (h : Way A B i j L) (hk : k = same (A.drop i) (B.drop j)) (h1 : A.length ≤ i + k) (h2 : B.length ≤ j + k) : eds L = dif A B := by
  rw [← h.eq, dif_none, List.append_nil]
  rw [← hk, List.drop_drop, List.drop_drop]
  exact ⟨List.drop_eq_nil_of_le h1, List.drop_eq_nil_of_le h2⟩
theorem Way.next {A B : List UInt8} {i j k s t : Nat} {L : List Fr} (h : Way A B i j L) (hk : k = same (A.drop i) (B.drop j)) (hs : s = (other (A.drop (i + k)) (B.drop (j + k))).1) (ht : t = (other (A.drop (i + k)) (B.drop (j + k))).2)
    (hk1 : i + k ≤ A.length) (hk2 : j + k ≤ B.length) (hne : ¬ (A.length ≤ i + k ∧ B.length ≤ j + k)) {X : ByteArray} (hX : X.toList = (B.drop (j + k)).take t) (hXs : X.size ≤ 200) :
    Way A B (i + k + s) (j + k + t) (L ++ [((k : Int), (s : Int), X)]) ∧ 0 < s + t := by
  have hne2 : ¬ ((A.drop i).drop k = [] ∧ (B.drop j).drop k = []) := by
    rw [List.drop_drop, List.drop_drop]
    intro e
    have e1 := congrArg List.length e.1
    have e2 := congrArg List.length e.2
    simp at e1 e2
    omega
  have o := other_ok (A.drop (i + k)) (B.drop (j + k))
  have ol := o.l; have orr := o.r
  rw [← hs, List.length_drop] at ol
  rw [← ht, List.length_drop] at orr
  have hpos : 0 < s + t := by
    rw [hs, ht]
    refine other_pos ?_ ?_
    · have := same_apart (A.drop i) (B.drop j)
      rwa [← hk, List.drop_drop, List.drop_drop] at this
    · rw [List.length_drop, List.length_drop]; omega
  refine ⟨⟨by omega, by omega, ?_, ?_⟩, hpos⟩
  · rw [← h.eq, eds, List.map_append, List.append_assoc]
    congr 1
    rw [hk] at hne2
    rw [dif_some hne2, ← hk, List.drop_drop, List.drop_drop, ← hs, ← ht, List.drop_drop, List.drop_drop]
    show [ed ((k : Int), (s : Int), X)] ++ _ = _
    unfold ed
    rw [hX]
    rfl
  · intro x hx
    rcases List.mem_append.1 hx with e | e
    · exact h.sz x e
    · rw [List.mem_singleton.1 e]; exact hXs
theorem own_le {w : World} {base base' : Nat} {t : TypeId} {z : Nat} {v : Value} {n : Nat} {xs : List Value} (h : w.ownsRow base t z v n xs) (hb : base' ≤ base) : w.ownsRow base' t z v n xs := by
  refine ⟨h.1, ?_⟩
  rcases h.2 with e | ⟨g, cap, cur, e, hg, r⟩
  · exact Or.inl e
  · exact Or.inr ⟨g, cap, cur, e, Nat.le_trans hb hg, r⟩
set_option maxRecDepth 100000 in
set_option maxHeartbeats 4000000 in
theorem diff_any (a b : ByteArray) (w : World) (ha : a.size ≤ 200) (hb : b.size ≤ 200) :
    Calls Tryd.prog 4 #[.string a, .string b] w fun e w' => ∃ v l, e = .returned (.tuple #[v, .nilIface]) ∧ Hid (RowF w.heap.size w' v l) ∧ Hid (eds l = dif a.toList b.toList) ∧ Hid (∀ x ∈ l, x.2.2.size ≤ 200) ∧ Hid (Below w.heap.size w w') := by
  have CM := most_any a b w ha hb
  have HN : Hid (a.toList.length = a.size) := Kb.len_eq a
  have HM : Hid (b.toList.length = b.size) := Kb.len_eq b
  have z1 : ¬ (200 : Int) < (a.size : Int) := by omega
  have z2 : ¬ (200 : Int) < (b.size : Int) := by omega
  go_enter Tryd.func4, Tryd.ntmps4
  go_wp2_with fail
  refine CM.mono ?_
  rintro e w1 ⟨v7, rfl, HT, HB1⟩
  clear CM
  go_wp2_with fail
  go_loopw [6, 8, 9, 10, 11, 12] (fun s6 s8 s9 _ _ _ wr => ∃ (i j n c : Nat) (p : Option Addr) (L : List Fr), i ≤ a.size ∧ j ≤ b.size ∧ s6 = .slice p n c ∧ s8 = .int .i64 i ∧ s9 = .int .i64 j ∧ Hid (n = L.length) ∧ Hid (RowF w1.heap.size wr (.slice p n c) L) ∧ Hid (Way a.toList b.toList i j L) ∧ Hid (Below w1.heap.size w1 wr)) (fun _ s8 s9 _ _ _ _ => (a.size - (intOf s8).toNat) + (b.size - (intOf s9).toNat))
  case atStart => exact ⟨0, 0, 0, 0, none, [], Nat.zero_le _, Nat.zero_le _, rfl, rfl, rfl, rfl, World.ownsRow_nil _ _ _ _, ⟨Nat.zero_le _, Nat.zero_le _, rfl, fun x hx => by cases hx⟩, Below.refl _ _⟩
  case round =>
    obtain ⟨i, j, n, c, p, L, hi, hj, rfl, rfl, rfl, HNL, HR, HW, HB⟩ := hrel
    obtain ⟨U, hU⟩ : ∃ U, U = a.extract i a.size := ⟨_, rfl⟩
    obtain ⟨V, hV⟩ : ∃ V, V = b.extract j b.size := ⟨_, rfl⟩
    have hUs : U.size ≤ 200 := by rw [hU, size_extract a i a.size (Nat.le_refl _)]; omega
    have hVs : V.size ≤ 200 := by rw [hV, size_extract b j b.size (Nat.le_refl _)]; omega
    have HU : Hid (U.toList = a.toList.drop i) := by rw [Hid, hU, list_rest]
    have HV : Hid (V.toList = b.toList.drop j) := by rw [Hid, hV, list_rest]
    obtain ⟨k, hk⟩ : ∃ k, k = same (a.toList.drop i) (b.toList.drop j) := ⟨_, rfl⟩
    have hk1 : i + k ≤ a.size := by
      have := same_le_l (a.toList.drop i) (b.toList.drop j)
      rw [← hk, List.length_drop, HN.out] at this; omega
    have hk2 : j + k ≤ b.size := by
      have := same_le_r (a.toList.drop i) (b.toList.drop j)
      rw [← hk, List.length_drop, HM.out] at this; omega
    have HK : Hid (k = same (a.toList.drop i) (b.toList.drop j)) := hk
    have CS : Hid (∀ W, Calls Tryd.prog 13 #[.string U, .string V] W fun e w' => ∃ v, e = .returned v ∧ v = .int .i64 k ∧ Below W.heap.size W w') := fun W => (same_any U V W (by omega) (by omega)).mono (by rintro e w' ⟨rfl, hb9⟩; exact ⟨_, rfl, by rw [HU.out, HV.out, HK.out], hb9⟩)
    clear hk
    go_upto_region 6 with fail
    go_cut [10] (fun s10 wx => s10 = .int .i64 k ∧ Hid (Below wr.heap.size wr wx))
    case first =>
      go_region_law (refine step_call2 (R := fun v w' => v = .int .i64 k ∧ Below wr.drew.heap.size wr.drew w') (by rfl) 13 (.tmp 27) (.tmp 30) _ _ (by rfl) (.string U) (.string V) (by rw [hU]; rfl) (by rw [hV]; rfl) enter_same (CS.out _) ?_; rintro v9 w9 ⟨rfl, hb9⟩)
      all_goals
        go_wp2_with fail
        go_meet
        case rel => exact ⟨rfl, bel (Below.refl _ wr).drew hb9⟩
    case rest =>
      obtain ⟨rfl, HB2⟩ := hcut
      have HR2 : Hid (RowF w1.heap.size wc (.slice p n c) L) := own_below HR.out HB2.out
      have HB3 : Hid (Below w1.heap.size w1 wc) := bel HB.out HB2.out
      clear hU hV hUs hVs HU HV CS HR HB HB2
      by_cases hend : a.size ≤ i + k ∧ b.size ≤ j + k
      · have q1 : ((i : Int) + (k : Int) == (a.size : Int)) = true := by simp; omega
        have q2 : ((j : Int) + (k : Int) == (b.size : Int)) = true := by simp; omega
        have HD : Hid (eds L = dif a.toList b.toList) := HW.out.done HK.out (by rw [HN.out]; exact hend.1) (by rw [HM.out]; exact hend.2)
        clear hend
        go_wp2_with fail
        go_ret2
        exact ⟨_, L, rfl, own_le HR2.out HB1.out.size, HD, HW.out.sz, bel HB1.out HB3.out⟩
      · obtain ⟨s, hs⟩ : ∃ s, s = (other (a.toList.drop (i + k)) (b.toList.drop (j + k))).1 := ⟨_, rfl⟩
        obtain ⟨t, ht⟩ : ∃ t, t = (other (a.toList.drop (i + k)) (b.toList.drop (j + k))).2 := ⟨_, rfl⟩
        have o := other_ok (a.toList.drop (i + k)) (b.toList.drop (j + k))
        have hs1 : i + k + s ≤ a.size := by have := o.l; rw [← hs, List.length_drop, HN.out] at this; omega
        have ht1 : j + k + t ≤ b.size := by have := o.r; rw [← ht, List.length_drop, HM.out] at this; omega
        have CO := other_any a b (i + k) (j + k) v7 wc ha hb hk1 hk2 (HT.out.below HB3.out)
        rw [← hs, ← ht, Int.natCast_add, Int.natCast_add] at CO
        obtain ⟨X, hX⟩ : ∃ X, X = b.extract (j + k) (j + k + t) := ⟨_, rfl⟩
        have hXs : X.size ≤ 200 := by rw [hX, size_extract b _ _ ht1]; omega
        have HWN : Hid (Way a.toList b.toList (i + k + s) (j + k + t) (L ++ [((k : Int), (s : Int), X)]) ∧ 0 < s + t) := HW.out.next HK.out hs ht (by rw [HN.out]; exact hk1) (by rw [HM.out]; exact hk2) (by rw [HN.out, HM.out]; exact hend) (by rw [hX, list_extract, List.drop_take, show j + k + t - (j + k) = t by omega]) hXs
        have CC : Hid (∀ W, Calls Tryd.prog 15 #[.string X] W fun e w' => e = .returned (.string X) ∧ Below W.heap.size W w') := fun W => clone_any X W (by omega)
        have hn134 : n ≤ 134 := by
          rw [HNL.out]
          exact HW.out.len (by rw [HN.out]; exact ha) (by rw [HM.out]; exact hb)
        have n1 : (0 : Int) ≤ (j : Int) + (k : Int) := by omega
        have n2 : (j : Int) + (k : Int) + (t : Int) ≤ (b.size : Int) := by omega
        have n3 : (j : Int) + (k : Int) ≤ (j : Int) + (k : Int) + (t : Int) := by omega
        have tst : (((i : Int) + (k : Int) == (a.size : Int)) = false) ∨ (((i : Int) + (k : Int) == (a.size : Int)) = true ∧ ((j : Int) + (k : Int) == (b.size : Int)) = false) := by
          by_cases e : i + k = a.size
          · right; constructor <;> simp <;> omega
          · left; simp; omega
        obtain ⟨i0, hi0, hz0, hz1, hz2⟩ := info_parts infoF
        clear hs ht o hend HW HK
        rcases tst with q1 | ⟨q1, q2⟩
        all_goals
          go_wp2_with fail
          refine CO.mono ?_
          rintro e w4 ⟨rfl, hb4⟩
          have HB4 : Hid (Below wc.heap.size wc w4) := hb4
          clear hb4 CO
          go_wp2_with fail
          rw [← hX]
          refine (CC.out w4).mono ?_
          rintro e w5 ⟨rfl, hb5⟩
          have HB5 : Hid (Below wc.heap.size wc w5) := bel HB4.out hb5
          have HR5 : Hid (RowF w1.heap.size w5 (.slice p n c) L) := own_below HR2.out HB5.out
          have HB6 : Hid (Below w1.heap.size w1 w5) := bel HB3.out HB5.out
          have hsz5 : w1.heap.size ≤ w5.heap.size := HB6.out.size
          have HFN : Hid (∀ u y, (flatF [((k : Int), (s : Int), X)])[u]? = some y → (w5.alloc (.cells #[.int .i64 (k : Int), .int .i64 (s : Int), .string X] 43)).cell? ((⟨w5.heap.size, 0, none⟩ : Addr).add u) = some y) := frame_new w5 ((k : Int), (s : Int), X) _
          clear hb5 HB4 HR2 HB3 CC hX
          go_wp2_with (at_builtin; refine wpList_append_own_at _ rfl (.tmp 58) (.tmp 69) 22 rfl w1.heap.size 43 i0 (.agg #[.int .i64 0, .int .i64 0, .string ⟨#[]⟩]) 3 32 Tryd.underlying22 hi0 hz0 hz1 hz2 rfl (by decide) (.slice p n c) n (flatF L) rfl (by have h9 := World.ownsRow.alloc HR5.out (.cells #[.int .i64 (k : Int), .int .i64 (s : Int), .string X] 43); rw [← HNL.out] at h9; exact h9) ⟨w5.heap.size, 0, none⟩ 1 1 (flatF [((k : Int), (s : Int), X)]) rfl rfl HFN.out (edits_one _) (by unfold maxLen; omega) (by omega) (by rw [World.size_alloc]; omega) ?_; intro v9 w9 hown9 hgrow9 _ _; obtain ⟨p9, n9, c9, rfl, hn9⟩ := own_shape hown9; have HR9 : Hid (RowF w1.heap.size w9 (.slice p9 n9 c9) (L ++ [((k : Int), (s : Int), X)])) := own_appF HNL.out.symm rfl hown9; have HN9 : Hid (n9 = (L ++ [((k : Int), (s : Int), X)]).length) := (by rw [List.length_append, ← HNL.out]; exact hn9.out); have HB9 : Hid (Below w1.heap.size w1 w9) := own_grow HR5.out (HB6.out.alloc hsz5 _) hgrow9 (by rw [World.size_alloc]; omega); clear hown9 hgrow9 hn9)
          go_roundw
          case rel => exact ⟨i + k + s, j + k + t, n9, c9, p9, _, hs1, ht1, rfl, by go_num, by go_num, HN9, HR9, HWN.out.1, HB9⟩
          case measure =>
            have := HWN.out.2
            simp [intOf]; omega

end Zi
end Go.Proofs.YtmenknbgmgnfhaaDoor
