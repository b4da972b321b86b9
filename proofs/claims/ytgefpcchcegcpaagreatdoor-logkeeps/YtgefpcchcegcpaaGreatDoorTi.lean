/- LogStops' walk: what is asked of package log is a premise here. -/
import Derived.Test.YtgefpcchcegcpaaGreatDoorTh
import Derived.Test.YtgefpcchcegcpaaGreatDoorJ14
import Derived.Test.YtgefpcchcegcpaaGreatDoorIl
import Derived.Deep.DeepCutAuto
namespace Go.Proofs.YtgefpcchcegcpaaGreatDoor
namespace Ti
set_option linter.unusedVariables false
set_option linter.unusedSimpArgs false
open Go.ChangeShapes Go.WideShapes Go.ChangeAt Go.RowKit Cm Ka Kb Na Om Oa Oz Oc Og Oi Hm Ia Ic Idc Ie If Ig Ih Ii Ij Ik Il Tg Th Kt Kl
open La (bel bel_drew errV_zero errV_ne own_ge own_grow own_below Lies)

theorem Hid.mk' {p : Prop} (h : p) : Hid p := h
theorem dts_nil (w : World) : DtsAt w (.slice none 0 0) [] := ⟨none, 0, rfl, Or.inl rfl, Nat.le_refl _, by unfold maxLen; omega, fun _ => rfl⟩
/- Put of an op that saw nothing -/
theorem put_bare (L : LogSays) (w0 : World) (X : Nat) (s : Lg) (F : Nat → Prop) (a b t : Int) (p : ByteArray) (c : Int) (w : World) (h : Lc L w0 w X s F) (hf : Fit s) (hp : p.size ≤ maxLen) (en : Bool) (ee : Int) (hen : putN s ((a, b), t, p, c, []) = en) (hee : putE s ((a, b), t, p, c, []) = ee) :
    Calls Tryz.prog 8 #[ptr X, .agg #[.int .i64 a, .int .i64 b, .int .i64 t, .string p, .int .i64 c, .slice none 0 0]] w fun e w' => e = .returned (.tuple #[.bool en, errV ee]) ∧ ∃ r F', r ≤ 100000 ∧ 2 ≤ r ∧ Lc L w0 w' X (putS s ((a, b), t, p, c, []) r) F' ∧ Chg F w w' ∧ ∀ g, F' g → F g ∨ w.heap.size ≤ g := by
  refine (L.put X s F a b t p c (.slice none 0 0) [] w h.at' hf (dts_nil w) (In.nil _) hp).mono ?_
  rintro e w' ⟨rfl, r, F', h1, h2, h3, h4, h5⟩
  refine ⟨by rw [hen, hee], r, F', h2, h1, ⟨h3, fun g e => ?_, h4.below h.low h.bel h.bel.size⟩, h4, h5⟩
  rcases h5 g e with e | e
  · exact h.low g e
  · have := h.bel.size; omega

end Ti
end Go.Proofs.YtgefpcchcegcpaaGreatDoor
