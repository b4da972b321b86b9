
import Derived.Test.YtnbnniapllkjlaaGreatDoorUsp
import Derived.Test.YtnbnniapllkjlaaGreatDoorXt
import Derived.Test.YtnbnniapllkjlaaGreatDoorP4
import Derived.Test.YtnbnniapllkjlaaGreatDoorK1
namespace Go.Proofs.YtnbnniapllkjlaaGreatDoor
namespace Utp
set_option linter.unusedVariables false
set_option linter.unusedSimpArgs false
open Go.ChangeShapes Go.WideShapes Go.ChangeAt Go.RowKit Cm Ka Kb Na Om Oa Oz Oc Og Oi Hm Ia Ib Ic Idc Ie If Ig Ih Ii Ij Ik Il Im Um Ua Ub Uc Ud Ue Uf Iq Aa Ac Xp Usp
open La (bel bel_drew errV_zero errV_ne own_ge own_grow own_below Lies LeafsIn)
open Lj (BookAt BookNew)
open Xt (Parts)
theorem maker_no (E : Nat) (who : Int) (w : World) (hw : who < 1 ∨ 8 < who) : Calls Tryz.prog 31 #[.pointer (some ⟨E, 0, none⟩), .int .i64 who] w fun e w' => e = .returned (.tuple #[.pointer none, .bool false]) ∧ w' = w := by
  rcases hw with h | h
  · go_enter Tryz.func31, Tryz.ntmps31
    go_wp2
    go_ret2
    exact ⟨rfl, rfl⟩
  · have h2 : ¬ who < 1 := by omega
    go_enter Tryz.func31, Tryz.ntmps31
    go_wp2
    go_ret2
    exact ⟨rfl, rfl⟩
theorem maker_ok (B : Nat → Prop) (E : Nat) (S : Dq) (F : Nat → Prop) (who : Int) (w : World) (h : RefAt B w E S F) (h1 : 1 ≤ who) (h8 : who ≤ 8) :
    Calls Tryz.prog 31 #[.pointer (some ⟨E, 0, none⟩), .int .i64 who] w fun e w' => e = .returned (.tuple #[.pointer (some ⟨w.heap.size, 0, none⟩), .bool true]) ∧ MkAt w.heap.size w' w.heap.size who (kn S who) (.slice none 0 0) [] ∧ Below w.heap.size w w' := by
  have hk8 := h.inv.klen
  obtain ⟨pb, nb, cb, pm, nm, cm, gk, po, no, co, hp⟩ := Xt.RefAt.parts h
  have c2 := hp.c2 w (Below.refl _ _)
  obtain ⟨b, o, e9, hcs⟩ := (hp.known w (Below.refl _ _)).some (by intro e; rw [e] at hk8; simp at hk8)
  injection e9 with e9
  injection e9 with e91 e92
  subst e91 e92
  obtain ⟨r, hr⟩ : ∃ r : Nat, who = (r : Int) + 1 := ⟨(who - 1).toNat, by omega⟩
  have hc1 := hcs r (by rw [hk8]; omega)
  obtain ⟨kk, hkk⟩ : ∃ kk, kk = kn S who := ⟨_, rfl⟩
  have hkv : S.known.getD r 0 = kk := by rw [hkk, hr]; unfold kn; rw [show ((r : Int) + 1 - 1).toNat = r by omega]
  rw [hkv, Nat.zero_add] at hc1
  rw [← hkk]
  have hr8 : (r : Int) < 8 := by omega
  clear h hp hcs hkk hkv hk8
  subst hr
  go_enter Tryz.func31, Tryz.ntmps31
  go_wp2_with fail
  go_ret2
  refine ⟨rfl, ⟨heap_alloc_new w _, World.ownsRow_nil _ _ _ _, fun g hg => (by cases hg), fun y hy => (by cases hy), Nat.le_refl _⟩, (Below.refl _ _).alloc (Nat.le_refl _) _⟩
def RfPost (w : World) (k : Int) (L : List Ox) (e : Ending) (w' : World) : Prop := ∃ v, e = .returned (.tuple #[v, .int .i64 k]) ∧ (k = 0 → OpsJ (New w.heap.size w') (New w.heap.size w') w' v L) ∧ (k ≠ 0 → v = .slice none 0 0) ∧ Below w.heap.size w w'
end Utp
end Go.Proofs.YtnbnniapllkjlaaGreatDoor
