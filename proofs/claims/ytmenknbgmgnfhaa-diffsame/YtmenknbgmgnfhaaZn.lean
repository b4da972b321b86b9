/- What both have is kept: the walk. -/
import Derived.Test.YtmenknbgmgnfhaaZm
namespace Go.Proofs.Ytmenknbgmgnfhaa
namespace Zn
set_option linter.unusedVariables false
set_option linter.unusedSimpArgs false
open Go.ChangeShapes Go.WideShapes Go.ChangeAt Go.RowKit Ka Kb Zb Zc Zd Ze Zf Zg Zh Zi Zj Zm

theorem cost_eq : ∀ {l : List Fr}, (∀ x ∈ l, 0 ≤ x.2.1 ∧ x.2.1 ≤ 200) → costN l = cost (eds l)
  | [], _ => rfl
  | x :: l, h => by
    have h1 := h x (List.mem_cons_self ..)
    have h2 := cost_eq (l := l) fun y hy => h y (List.mem_cons_of_mem _ hy)
    have e : costN (x :: l) = cs x + costN l := by simp [costN]
    rw [e, h2, cs, if_pos h1]
    show _ = x.2.1.toNat + x.2.2.toList.length + cost (eds l)
    rw [Kb.len_eq]
theorem strikes_of {l : List Fr} {A B : List UInt8} (hr : run A (eds l) = some B) (hA : A.length ≤ 200) : ∀ x ∈ l, 0 ≤ x.2.1 ∧ x.2.1 ≤ 200 := by
  intro x hx
  have h := run_strike hr (ed x) (List.mem_map.2 ⟨x, hx, rfl⟩)
  unfold ed at h
  dsimp only at h
  omega
/- what Diff answers -/
structure Dl (A B : List UInt8) (l : List Fr) : Prop where
  eq : eds l = dif A B
  sz : ∀ x ∈ l, x.2.2.size ≤ 200
theorem Dl.run {A B : List UInt8} {l : List Fr} (h : Dl A B l) : Zc.run A (eds l) = some B := by rw [h.eq]; exact (dif_ok A B).run
theorem Dl.cost {A B : List UInt8} {l : List Fr} (h : Dl A B l) (hA : A.length ≤ 200) : costN l = least A B := by
  rw [cost_eq (strikes_of h.run hA), h.eq]; exact (dif_ok A B).cost
theorem Dl.len {A B : List UInt8} {l : List Fr} (h : Dl A B l) (hA : A.length ≤ 200) (hB : B.length ≤ 200) : l.length ≤ 134 := by
  have h1 := (dif_ok A B).len
  have h2 := congrArg List.length h.eq
  rw [eds, List.length_map] at h2
  omega
theorem diff_at (a b : ByteArray) (w : World) (ha : a.size ≤ 200) (hb : b.size ≤ 200) :
    Calls Try.prog 6 #[.string a, .string b] w fun e w' => ∃ p n c l, e = .returned (.tuple #[.slice p n c, .nilIface]) ∧ Hid (n = l.length) ∧ Hid (FrsJ (New w.heap.size w') w' (.slice p n c) l) ∧ Hid (Dl a.toList b.toList l) ∧ Hid (Below w.heap.size w w') := by
  refine (diff_any a b w ha hb).mono ?_
  rintro e w' ⟨v, l, rfl, HR, HE, HS, HB⟩
  obtain ⟨p, n, c, rfl, hn⟩ := own_shape HR.out
  exact ⟨p, n, c, l, rfl, hn, (FrsJ.own HR.out).mono fun g hg => ⟨own_ge HR.out g hg, (own_lt HR.out g hg).1⟩, ⟨HE.out, HS.out⟩, HB⟩
theorem cost_at (R : Nat → Prop) (v : Value) (l : List Fr) (A B : List UInt8) (w : World) (h : FrsJ R w v l) (hd : Dl A B l) (hA : A.length ≤ 200) (hB : B.length ≤ 200) :
    Calls Try.prog 7 #[v] w fun e w' => e = .returned (.int .i64 (least A B)) ∧ Below w.heap.size w w' := by
  have := cost_any R v l w h (by have := hd.len hA hB; omega) (fun x hx => by have := hd.sz x hx; omega)
  rw [hd.cost hA] at this
  exact this
/- a text put in -/
theorem app_size (x y : ByteArray) : (x ++ y).size = x.size + y.size := ByteArray.size_append
theorem app_list (x y : ByteArray) : (x ++ y).toList = x.toList ++ y.toList := by
  rw [ByteArray.toList_eq, ByteArray.toList_eq, ByteArray.toList_eq]; simp
theorem put_list (a b : ByteArray) (n : Nat) (hn : n ≤ a.size) : (a.extract 0 n ++ b ++ a.extract n a.size).toList = a.toList.take n ++ b.toList ++ a.toList.drop n := by
  rw [app_list, app_list, list_rest, list_extract, List.drop_zero]
theorem put_size (a b : ByteArray) (n : Nat) (hn : n ≤ a.size) : (a.extract 0 n ++ b ++ a.extract n a.size).size = a.size + b.size := by
  rw [app_size, app_size, size_extract _ _ _ hn, size_extract _ _ _ (Nat.le_refl _)]; omega
def one : List Fr := [(1, 0, ⟨#[120]⟩)]
theorem one_eds : eds one = [⟨1, 0, [120]⟩] := by
  show [(⟨1, 0, (⟨#[120]⟩ : ByteArray).toList⟩ : Ed)] = _
  rw [show (⟨#[120]⟩ : ByteArray).toList = [120] from toList_mk [120]]
theorem one_E : appE [97, 98] (eds one) = 0 := by rw [one_eds]; decide
theorem one_R : bs (appR [97, 98] (eds one)) = ⟨#[97, 120, 98]⟩ := by
  have : appR [97, 98] (eds one) = [97, 120, 98] := by rw [one_eds]; decide
  rw [this]; rfl

set_option maxRecDepth 100000 in
set_option maxHeartbeats 4000000 in
theorem walk (a : ByteArray) (at' : Int) (b : ByteArray) (w : World) (ha : a.size ≤ 140737488355328) (hb : b.size ≤ 140737488355328) :
    Calls Try.prog 4 #[.string a, .int .i64 at', .string b] w fun e w' => e = .returned (.bool true) ∧ Below w.heap.size w w' := by
  by_cases h1 : at' < 0
  · go_enter Try.func4, Try.ntmps4
    go_wp2_with fail
    go_ret
    exact ⟨rfl, Below.refl _ _⟩
  · by_cases h2 : (a.size : Int) < at'
    · go_enter Try.func4, Try.ntmps4
      go_wp2_with fail
      go_ret
      exact ⟨rfl, Below.refl _ _⟩
    · obtain ⟨n, rfl⟩ : ∃ n : Nat, at' = n := ⟨at'.toNat, by omega⟩
      have hn : n ≤ a.size := by omega
      have CA : Hid (∀ W : World, Calls Try.prog 8 #[.string ⟨#[97, 98]⟩, .slice (some ⟨W.heap.size, 0, none⟩) 1 1] (W.alloc (.cells #[.int .i64 1, .int .i64 0, .string ⟨#[120]⟩] 33)) fun e w' => e = .returned (.tuple #[.string ⟨#[97, 120, 98]⟩, .nilIface]) ∧ Hid (Below W.heap.size W w')) := by
        intro W
        have hA0 := heap_alloc_new W (.cells #[.int .i64 1, .int .i64 0, .string ⟨#[120]⟩] 33)
        have hB0 : Below W.heap.size W (W.alloc (.cells #[.int .i64 1, .int .i64 0, .string ⟨#[120]⟩] 33)) := (Below.refl _ _).alloc (Nat.le_refl _) _
        have hf : FrsJ (fun _ => True) (W.alloc (.cells #[.int .i64 1, .int .i64 0, .string ⟨#[120]⟩] 33)) (.slice (some ⟨W.heap.size, 0, none⟩) 1 1) one := by
          refine ⟨_, 1, rfl, Or.inr ⟨W.heap.size, 0, rfl, trivial, fun j hj => ?_⟩, by decide, by decide, fun e => by cases e⟩
          have : j = 0 := by have : one.length = 1 := rfl; omega
          subst this
          exact ⟨blk_cell hA0 (i := 0) rfl, blk_cell hA0 (i := 1) rfl, blk_cell hA0 (i := 2) rfl⟩
        have := apply_any ⟨#[97, 98]⟩ _ _ one _ hf (by decide) (by intro x hx; rw [List.mem_singleton.1 hx]; decide)
        rw [show (⟨#[97, 98]⟩ : ByteArray).toList = [97, 98] from toList_mk [97, 98], one_E, one_R, errV_zero] at this
        refine this.mono ?_
        rintro e w' ⟨rfl, HB⟩
        exact ⟨rfl, bel hB0 HB.out⟩
      go_enter Try.func4, Try.ntmps4
      go_wp2_with fail
      refine (CA.out w).mono ?_
      rintro e w1 ⟨rfl, HB1⟩
      clear CA
      go_wp2_with fail
      go_region
      generalize hwq : World.drew _ = w2
      have HB2 : Hid (Below w.heap.size w w2) := by rw [← hwq]; exact HB1.out.drew
      clear hwq
      obtain ⟨c, hc⟩ : ∃ c, c = a.extract 0 n ++ b ++ a.extract n a.size := ⟨_, rfl⟩
      rw [← hc]
      have hcs : c.size = a.size + b.size := by rw [hc]; exact put_size a b n hn
      have HCL : Hid (c.toList = a.toList.take n ++ b.toList ++ a.toList.drop n) := by rw [Hid, hc]; exact put_list a b n hn
      clear hc
      by_cases hbig : 200 < c.size
      · have C1 := fun W => diff_no a c W (by unfold maxLen; omega) (by unfold maxLen; omega) (Or.inr hbig)
        have C2 := fun W => diff_no c a W (by unfold maxLen; omega) (by unfold maxLen; omega) (Or.inl hbig)
        have hbz : (200 : Int) < (c.size : Int) := by omega
        go_wp2_with fail
        refine (C1 _).mono ?_
        rintro e w3 ⟨rfl, rfl⟩
        go_wp2_with fail
        refine (C2 _).mono ?_
        rintro e w4 ⟨rfl, rfl⟩
        go_wp2_with fail
        go_ret
        exact ⟨ret_bool (decide_eq_true (by omega)), HB2.out⟩
      · have ha2 : a.size ≤ 200 := by omega
        have hc2 : c.size ≤ 200 := by omega
        have HLA : Hid (a.toList.length ≤ 200) := by rw [Hid, Kb.len_eq]; exact ha2
        have HLC : Hid (c.toList.length ≤ 200) := by rw [Hid, Kb.len_eq]; exact hc2
        have HL1 : Hid (least a.toList c.toList = b.size) := by
          have h9 := least_put (a.toList.take n) (a.toList.drop n) b.toList
          rw [List.take_append_drop, ← HCL.out, Kb.len_eq] at h9; exact h9
        have HL2 : Hid (least c.toList a.toList = b.size) := by
          have h9 := least_put' (a.toList.take n) (a.toList.drop n) b.toList
          rw [List.take_append_drop, ← HCL.out, Kb.len_eq] at h9; exact h9
        go_wp2_with fail
        refine (diff_at a c w2 ha2 hc2).mono ?_
        rintro e w3 ⟨p3, n3, c3, l3, rfl, HN3, HF3, HD3, HB3⟩
        go_wp2_with fail
        refine (diff_at c a w3 hc2 ha2).mono ?_
        rintro e w4 ⟨p4, n4, c4, l4, rfl, HN4, HF4, HD4, HB4⟩
        go_wp2_with fail
        refine (cost_at _ (.slice p3 n3 c3) l3 a.toList c.toList w4 (HF3.out.below HB4.out) HD3.out HLA.out HLC.out).mono ?_
        rw [HL1.out]
        rintro e w5 ⟨rfl, hb5⟩
        have HB5 : Hid (Below w4.heap.size w4 w5) := hb5
        clear hb5
        go_wp2_with fail
        refine (cost_at _ (.slice p4 n4 c4) l4 c.toList a.toList w5 (HF4.out.below HB5.out) HD4.out HLC.out HLA.out).mono ?_
        rw [HL2.out]
        rintro e w6 ⟨rfl, hb6⟩
        have HB6 : Hid (Below w5.heap.size w5 w6) := hb6
        clear hb6
        go_wp2_with fail
        go_ret
        exact ⟨rfl, bel HB2.out (bel HB3.out (bel HB4.out (bel HB5.out HB6.out)))⟩

end Zn
end Go.Proofs.Ytmenknbgmgnfhaa
