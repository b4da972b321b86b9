/- What the laws ask of package op: each function's answer, at all inputs. -/
import Derived.Test.YtcmoajlcmeimiaaDoorOi
namespace Go.Proofs.YtcmoajlcmeimiaaDoor
namespace Ov
set_option linter.unusedVariables false
open Go.ChangeShapes Go.WideShapes Go.ChangeAt Go.RowKit Cm Ka Kb Na Om Oa Oz Oc Og Oi
open La (bel bel_drew errV_zero errV_ne own_ge own_grow own_below)

def encS (x : Ox) : ByteArray := if opE x = 0 then bytesS x else ⟨#[]⟩
def decE (s : ByteArray) : Int := if (decB s.toList).isSome then 0 else 2
def packS (l : List Ox) : ByteArray := if packE l = 0 then ⟨(packB l).toArray⟩ else ⟨#[]⟩
def unpE (s : ByteArray) : Int := if (unpB s.toList).isSome then 0 else 2
def CheckSays : Prop := ∀ (a b t : Int) (p : ByteArray) (c : Int) (v : Value) (s : List Dt) (w : World), DtsAt w v s → p.size ≤ maxLen →
  Calls Tryd.prog 22 #[.agg #[.int .i64 a, .int .i64 b, .int .i64 t, .string p, .int .i64 c, v]] w fun e w' => e = .returned (errV (opE ((a, b), t, p, c, s))) ∧ Below w.heap.size w w'
def EncodeSays : Prop := ∀ (a b t : Int) (p : ByteArray) (c : Int) (v : Value) (s : List Dt) (w : World), DtsAt w v s → p.size ≤ maxLen →
  Calls Tryd.prog 24 #[.agg #[.int .i64 a, .int .i64 b, .int .i64 t, .string p, .int .i64 c, v]] w fun e w' => e = .returned (.tuple #[.string (encS ((a, b), t, p, c, s)), errV (opE ((a, b), t, p, c, s))]) ∧ Below w.heap.size w w'
def DecodeSays : Prop := ∀ (s : ByteArray) (w : World), s.size ≤ maxLen →
  Calls Tryd.prog 26 #[.string s] w fun e w' => ∃ u, e = .returned (.tuple #[u, errV (decE s)]) ∧ OpV w' u ((decB s.toList).getD oz) ∧ Below w.heap.size w w'
def PackSays : Prop := ∀ (v : Value) (l : List Ox) (w : World), OpsAt w v l → (∀ x ∈ l, x.2.2.1.size ≤ maxLen) →
  Calls Tryd.prog 29 #[v] w fun e w' => e = .returned (.tuple #[.string (packS l), errV (packE l)]) ∧ Below w.heap.size w w'
def UnpackSays : Prop := ∀ (s : ByteArray) (w : World), s.size ≤ maxLen →
  Calls Tryd.prog 31 #[.string s] w fun e w' => ∃ v, e = .returned (.tuple #[v, errV (unpE s)]) ∧ OpsAt w' v ((unpB s.toList).getD []) ∧ Below w.heap.size w w'
theorem dec_right {s : List UInt8} : (decB s).getD oz = oz ∨ opE ((decB s).getD oz) = 0 := by
  cases h : decB s with
  | none => exact Or.inl rfl
  | some o => exact Or.inr (decB_iff.1 h).1
theorem dec_len {s : List UInt8} : ((decB s).getD oz).2.2.2.2.length ≤ 1048576 := by
  rcases @dec_right s with e | e
  · rw [e]; simp [oz]
  · have := (lawOf_zero.1 (opE_zero.1 e).2.2.2).2.2.2.1; omega
theorem unp_len {s : List UInt8} : ((unpB s).getD []).length ≤ 1048576 ∧ ∀ x ∈ (unpB s).getD [], x.2.2.2.2.length ≤ 1048576 := by
  cases h : unpB s with
  | none => exact ⟨by simp, fun x hx => by simp at hx⟩
  | some l =>
    obtain ⟨h1, h2⟩ := packE_zero.1 (unpB_iff.1 h).1
    refine ⟨by simp only [Option.getD_some]; omega, fun x hx => ?_⟩
    have := (lawOf_zero.1 (opE_zero.1 (h2 x hx)).2.2.2).2.2.2.1
    omega
theorem first_step {l : List Ox} {k : Nat} (hk : k < l.length) : firstE (l.drop k) = if opE (l.getD k oz) ≠ 0 then opE (l.getD k oz) else firstE (l.drop (k + 1)) := by
  rw [List.drop_eq_getElem_cons hk, List.getD_eq_getElem?_getD, List.getElem?_eq_getElem hk, Option.getD_some]
  unfold firstE
  by_cases h : opE l[k] = 0
  · rw [if_neg (by simpa using h), List.find?_cons_of_neg (by simpa using h)]
  · rw [if_pos h, List.find?_cons_of_pos (by simpa using h)]

end Ov
end Go.Proofs.YtcmoajlcmeimiaaDoor
