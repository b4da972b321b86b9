/- What sync.Parcel and Open answer. -/
import Derived.Test.YthalakfphecflaaGreatDoorAf
import Derived.Test.YthalakfphecflaaGreatDoorV1
import Derived.Test.YthalakfphecflaaGreatDoorV2
namespace Go.Proofs.YthalakfphecflaaGreatDoor
namespace Ag
set_option linter.unusedVariables false
set_option linter.unusedSimpArgs false
open Go.ChangeShapes Go.WideShapes Go.ChangeAt Go.RowKit Cm Ka Kb Na Om Oa Oz Oc Og Oi Hm Ia Ib Ic Idc Ie If Ig Ih Ii Ij Ik Il Im Iq Um Aa Ac Ae Af Ov
open La (bel bel_drew errV_zero errV_ne own_ge own_grow own_below Lies)

/- a parcel of what a vector lacks -/
def parcS (A : Dq) (v : List Int) : ByteArray := if Dm.vecE v ≠ 0 then ⟨#[]⟩ else packS (lackL A.ops v)
theorem lackE_vec {A : Dq} (IA : Inv A) (v : List Int) : lackE A.ops v = Dm.vecE v := by
  unfold lackE
  by_cases h : Dm.vecE v = 0
  · rw [if_neg (by simpa using h), h]; exact packE_zero.2 ⟨IA.few, IA.right⟩
  · rw [if_pos h]
theorem pack_zero {A : Dq} (IA : Inv A) (v : List Int) : packE (lackL A.ops v) = 0 := packE_zero.2 ⟨Nat.le_trans (lack_len _ _) IA.few, fun o ho => IA.right o (lack_mem ho)⟩
set_option maxRecDepth 100000 in
set_option maxHeartbeats 2000000 in
theorem parcel_any (D : Nat) (A : Dq) (F : Nat → Prop) (vv : Value) (v : List Int) (w : World) (h : DocAt w D A F) (hv : KnAt w vv v) :
    Calls Tryz.prog 44 #[.pointer (some ⟨D, 0, none⟩), vv] w fun e w' => e = .returned (.tuple #[.string (parcS A v), errV (Dm.vecE v)]) ∧ Below w.heap.size w w' := by
  have HI : Hid (Inv A) := h.inv
  have HR : Hid (∀ x ∈ A.ops, x.2.2.1.size ≤ maxLen) := right_len h.inv.right
  have HV : Hid (KnAt w vv v) := hv
  have HLE : Hid (lackE A.ops v = Dm.vecE v) := lackE_vec h.inv v
  obtain ⟨pv, nv, cv, rfl⟩ : ∃ p n c, vv = .slice p n c := by obtain ⟨_, _, e9, _⟩ := hv; exact ⟨_, _, _, e9⟩
  have C1 := ops_get D A F w h
  clear h hv
  obtain ⟨k, hk⟩ : ∃ k, k = Dm.vecE v := ⟨_, rfl⟩
  have HK : Hid (k = Dm.vecE v) := hk
  go_enter Tryz.func44, Tryz.ntmps44
  go_wp2_with fail
  refine C1.mono ?_
  rintro e w1 ⟨v1, rfl, ho1, hb1⟩
  have HB1 : Hid (Below w.heap.size w w1) := hb1
  obtain ⟨p1, n1, c1, rfl⟩ : ∃ p n c, v1 = .slice p n c := by obtain ⟨_, _, e9, _⟩ := ho1.at; exact ⟨_, _, _, e9⟩
  have C3 := lacks_any (.slice p1 n1 c1) (.slice pv nv cv) A.ops v w1 ho1.at HR.out (HV.out.below hb1)
  clear ho1 hb1 C1
  go_wp2_with fail
  refine C3.mono ?_
  rintro e w3 ⟨p3, n3, c3, he, ho3, hb3⟩
  rw [HLE.out, ← hk] at he ho3
  have HB3 : Hid (Below w.heap.size w w3) := bel HB1.out hb3
  clear hb3 C3 hk
  by_cases hz : k = 0
  · subst hz
    rw [errV_zero] at he
    subst he
    unfold outL at ho3
    rw [if_pos rfl] at ho3
    have HPS : Hid (parcS A v = packS (lackL A.ops v)) := by unfold Hid parcS; rw [← HK.out, if_neg (by decide)]
    have C4 := Vf.pack_says (.slice p3 n3 c3) (lackL A.ops v) w3 ho3.at (fun x hx => HR.out x (lack_mem hx))
    rw [pack_zero HI.out v, errV_zero, ← HPS.out] at C4
    obtain ⟨T, hT⟩ : ∃ T, T = parcS A v := ⟨_, rfl⟩
    rw [← hT] at C4
    have HT : Hid (T = parcS A v) := hT
    clear ho3 hT
    go_wp2_with fail
    refine C4.mono ?_
    rintro e w4 ⟨rfl, hb4⟩
    have HB4 : Hid (Below w.heap.size w w4) := bel HB3.out hb4
    clear hb4 C4
    go_wp2_with fail
    go_ret2
    exact ⟨by rw [HT.out, ← HK.out, errV_zero]; rfl, HB4.out⟩
  · rw [errV_ne hz] at he
    subst he
    have HPS : Hid (parcS A v = ⟨#[]⟩) := by unfold Hid parcS; rw [← HK.out, if_pos hz]
    have HZ : Hid (k ≠ 0) := hz
    clear hz ho3
    go_wp2_with fail
    go_ret2
    exact ⟨by rw [HPS.out, ← HK.out, errV_ne HZ.out]; rfl, HB3.out⟩

/- what a parcel has is applied -/
def OnPost (w : World) (D : Nat) (S : Dq) (F : Nat → Prop) (s : ByteArray) (e : Ending) (w' : World) : Prop :=
  e = .returned (.tuple #[.int .i64 (opnN S s), errV (opnE S s)]) ∧ ∃ F', DocAt w' D (runS S (opnL s)) F' ∧ Chg F w w' ∧ ∀ g, F' g → F g ∨ w.heap.size ≤ g
set_option maxRecDepth 100000 in
set_option maxHeartbeats 2000000 in
theorem open_any (D : Nat) (S : Dq) (F : Nat → Prop) (s : ByteArray) (w : World) (h : DocAt w D S F) (hs : s.size ≤ maxLen) :
    Calls Tryz.prog 48 #[.pointer (some ⟨D, 0, none⟩), .string s] w (OnPost w D S F s) := by
  have H : Hid (DocAt w D S F) := h
  clear h
  cases hu : unpB s.toList with
  | none =>
    have C := Vn.unpack_none s w hs hu
    rw [errV_ne (by decide)] at C
    have HL : Hid (opnL s = []) := by unfold Hid opnL; rw [hu]; rfl
    have HE : Hid (opnE S s = 2) := by unfold Hid opnE; rw [hu]; rfl
    have HN : Hid (opnN S s = 0) := by unfold Hid opnN; rw [hu]; rfl
    clear hu
    go_enter Tryz.func48, Tryz.ntmps48
    go_wp2_with fail
    refine C.mono ?_
    rintro e w1 ⟨v1, rfl, ho1, hb1⟩
    obtain ⟨p1, n1, c1, rfl⟩ : ∃ p n c, v1 = .slice p n c := by obtain ⟨_, _, e9, _⟩ := ho1; exact ⟨_, _, _, e9⟩
    have HB1 : Hid (Below w.heap.size w w1) := hb1
    clear ho1 hb1 C
    go_wp2_with fail
    go_ret2
    exact ⟨by rw [HE.out, HN.out, errV_ne (by decide)]; rfl, F, by rw [HL.out]; exact H.out.below HB1.out, Chg.ofBelow HB1.out F, fun g hg => Or.inl hg⟩
  | some l =>
    have C := Vn.unpack_kept s w l hs hu
    rw [errV_zero] at C
    have HL : Hid (opnL s = l) := by unfold Hid opnL; rw [hu]; rfl
    have HE : Hid (opnE S s = runE S l) := by unfold Hid opnE; rw [hu, HL.out]; rfl
    have HN : Hid (opnN S s = takeN S l) := by unfold Hid opnN; rw [hu, HL.out]; rfl
    have HR : Hid (∀ x ∈ l, x.2.2.1.size ≤ maxLen) := by
      have := right_len (opn_right s)
      rw [HL.out] at this; exact this
    clear hu
    go_enter Tryz.func48, Tryz.ntmps48
    go_wp2_with fail
    refine C.mono ?_
    rintro e w1 ⟨v1, rfl, hk1, hb1⟩
    have HO1 : Hid (OpsJ (New w.heap.size w1) (New w.heap.size w1) w1 v1 l) := OpsJ.kept hk1
    obtain ⟨p1, n1, c1, rfl⟩ : ∃ p n c, v1 = .slice p n c := by obtain ⟨_, _, e9, _⟩ := HO1.out; exact ⟨_, _, _, e9⟩
    have HB1 : Hid (Below w.heap.size w w1) := hb1
    have C2 := take_any D S F _ _ (.slice p1 n1 c1) l w1 (H.out.below hb1) HO1.out (new_off H.out) HR.out
    clear hk1 hb1 C HO1
    go_wp2_with fail
    refine C2.mono ?_
    rintro e w2 ⟨he, F2, hd2, hc2, hf2⟩
    rw [← HE.out, ← HN.out] at he
    have HP : Hid (OnPost w D S F s e w2) := ⟨he, F2, by rw [HL.out]; exact hd2, (Chg.ofBelow HB1.out F).trans hc2, fun g hg => by
      rcases hf2 g hg with e | e
      · exact Or.inl e
      · exact Or.inr (Nat.le_trans HB1.out.size e)⟩
    obtain ⟨n9, hn9⟩ : ∃ n9, n9 = opnN S s := ⟨_, rfl⟩
    obtain ⟨e9, he9⟩ : ∃ e9, e9 = errV (opnE S s) := ⟨_, rfl⟩
    rw [← hn9, ← he9] at he
    subst he
    clear hd2 hc2 hf2 C2 hn9 he9 HE HN HL HR
    go_wp2_with fail
    go_ret2
    exact HP.out

end Ag
end Go.Proofs.YthalakfphecflaaGreatDoor
