import Derived.Test.YtlmdchpbpgcfmaaGreatDoorU2
import Derived.Test.YtlmdchpbpgcfmaaGreatDoorA0
import Derived.Test.YtlmdchpbpgcfmaaGreatDoorJ10
/- What package leaftop's laws open with: one (at a seat without package link; drawn from Ye). -/
namespace Go.Proofs.YtlmdchpbpgcfmaaGreatDoor
namespace Yh
set_option linter.unusedVariables false
set_option linter.unusedSimpArgs false
open Go.ChangeShapes Go.WideShapes Go.ChangeAt Go.RowKit Cm Ka Kb Na Om Oa Oz Oc Og Oi Hm Ia Ib Ic Idc Ie If Ig Ih Ii Ij Ik Il Im Um Ua Ub Uc Ud Ue
open La (bel bel_drew errV_zero errV_ne own_ge own_grow own_below Lies LeafsIn)

def hi : ByteArray := ⟨#[104, 105]⟩
theorem hiE : insE d0 1 0 hi = 0 := by kernel_rfl
theorem hiR : runE d0 (insL d0 1 0 hi) = 0 := by kernel_rfl
theorem hiT : Lf.textR (runS d0 (insL d0 1 0 hi)).book = ⟨#[104, 105]⟩ := by kernel_rfl
theorem hiS : ∀ x ∈ insL d0 1 0 hi, x.2.2.1.size ≤ maxLen := fun x hx => by
  have := small_ops (S := d0) (who := 1) (off := 0) (t := hi) inv_zero.book (insE_zero.1 hiE) x hx
  unfold maxLen; omega
theorem new_shape {B : Nat} {w : World} {v : Value} {l : List Ox} (h : OpsNew B w v l) : ∃ p n c, v = .slice p n c := by
  obtain ⟨g, L, e, _⟩ := h; exact ⟨_, _, _, e⟩
set_option maxRecDepth 100000 in
set_option maxHeartbeats 2000000 in
theorem one_any (w : World) : Calls Tryz.prog 13 #[] w fun e w' => e = .returned (.bool true) ∧ Below w.heap.size w w' := by
  go_enter Tryz.func13, Tryz.ntmps13
  go_wp2_with fail
  refine (new_any w).mono ?_
  rintro e w1 ⟨D1, F1, rfl, hd1, hf1, hb1⟩
  have HD1 : Hid (DocAt w1 D1 d0 F1) := hd1
  have HB1 : Hid (Below w.heap.size w w1) := hb1
  have HF1 : Hid (∀ g, F1 g → w.heap.size ≤ g ∧ g < w1.heap.size) := fun g hg => ⟨hf1 g hg, hd1.lt g hg⟩
  have CI := insert_any D1 d0 F1 1 0 hi w1 hd1 (by unfold maxLen; decide)
  clear hd1 hf1 hb1
  go_wp2_with fail
  refine CI.mono ?_
  rintro e w3 ⟨v3, he, ho3, _, hb3⟩
  rw [hiE, errV_zero] at he
  subst he
  obtain ⟨p3, n3, c3, rfl⟩ := new_shape (ho3 hiE)
  have HO3 : Hid (OpsG (fun g => w1.heap.size ≤ g ∧ g < w3.heap.size) w3 (.slice p3 n3 c3) (insL d0 1 0 hi)) := OpsG.new (ho3 hiE)
  have HB3 : Hid (Below w.heap.size w w3) := bel HB1.out hb3
  have CD : Calls Tryz.prog 46 #[.pointer (some ⟨D1, 0, none⟩), .slice p3 n3 c3] w3 (DoPost w3 D1 d0 F1 (insL d0 1 0 hi)) := do_any D1 d0 F1 _ _ _ w3 (HD1.out.below hb3) HO3.out (fun g hg => ⟨hg.2, fun e => by have := (HF1.out g e).2; have := hg.1; omega⟩) hiS
  clear CI ho3 hb3
  go_wp2_with fail
  refine CD.mono ?_
  rintro e w4 ⟨he, F4, hd4, hc4, hf4⟩
  rw [hiR, errV_zero] at he
  subst he
  have HB4 : Hid (Below w.heap.size w w4) := hc4.below (fun g hg => (HF1.out g hg).1) HB3.out HB3.out.size
  have CT := text_get D1 (runS d0 (insL d0 1 0 hi)) F4 w4 hd4
  rw [hiT] at CT
  clear CD hd4 hc4 hf4 HO3 HB3 HD1 HB1 HF1
  go_wp2_with fail
  refine CT.mono ?_
  rintro e w6 ⟨rfl, hb6⟩
  have HB6 : Hid (Below w.heap.size w w6) := bel HB4.out hb6
  clear CT hb6 HB4
  go_wp2_with fail
  go_ret
  exact ⟨rfl, HB6.out⟩

end Yh
end Go.Proofs.YtlmdchpbpgcfmaaGreatDoor
/- Numbers that came in (KnAt). -/
namespace Go.Proofs.YtlmdchpbpgcfmaaGreatDoor
namespace Iv
set_option linter.unusedVariables false
open Go.ChangeShapes Go.WideShapes Go.ChangeAt Go.RowKit Cm Ka Kb Na Om Oa Oo Ia Za

set_option maxRecDepth 100000 in
theorem open_vec {H : Type} {enc : TypeId × Value → H} {W : World} {base : Nat} {v : Value} {d : DataW H} {ps : List MemPlace}
    (hv : Value.okWide Tryz.prog W .any base 39 v) (h : DataW.Trod enc Tryz.prog W 0 (fun _ => true) true 39 v d ps) : ∃ l, KnAt W v l := by
  obtain ⟨a0, len0, cap0, rfl⟩ := okWide_slice Tryz.underlying39 hv
  obtain ⟨fuel, hf⟩ := h
  rcases open_ints Tryz.underlying39 Tryz.underlying3 (by kernel_rfl) hf with ⟨hcs, _⟩ | ⟨x, l, c, zs, hcs, _, hl, hm, hz, hx, hcell, hwz⟩
  · simp [Value.cells] at hcs
    obtain ⟨rfl, rfl, rfl⟩ := hcs
    exact ⟨[], none, 0, rfl, IntsIn.nil _ _⟩
  · simp [Value.cells] at hcs
    obtain ⟨rfl, rfl, rfl⟩ := hcs
    simp at hz
    have hlen : (zs.take len0).length = len0 := by rw [List.length_take]; omega
    refine ⟨zs.take len0, some x, cap0, by rw [hlen], ?_⟩
    by_cases h0 : len0 = 0
    · left; rw [h0]; rfl
    · right
      obtain ⟨b, off, spot⟩ := x
      have hc0 := hcell 0 (by omega)
      have hspot : spot = none := by simpa [Addr.add] using World.cell?_spot hc0
      subst hspot
      refine ⟨b, off, rfl, fun j hj => ?_⟩
      rw [List.length_take] at hj
      have := hcell j (by omega)
      rw [Addr.add_lit] at this
      rw [this, List.getD_eq_getElem?_getD, List.getD_eq_getElem?_getD, List.getElem?_take_of_lt (by omega)]

end Iv
end Go.Proofs.YtlmdchpbpgcfmaaGreatDoor
