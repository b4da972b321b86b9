/- What the reference's two and number answer: two bytes more behind a row, two bytes of a text. -/
import Derived.Test.YtcmoajlcmeimiaaDoorOg
namespace Go.Proofs.YtcmoajlcmeimiaaDoor
namespace Od
set_option linter.unusedVariables false
open Go.ChangeShapes Go.WideShapes Go.ChangeAt Go.RowKit Cm Ka Kb Na Om Oa Oz Oc Og
open La (bel bel_drew errV_zero errV_ne own_ge own_grow own_below)

set_option maxHeartbeats 1000000 in
set_option maxRecDepth 100000 in
theorem two_ref (B : Nat) (v : Value) (l : List UInt8) (n : Int) (w : World) (hv : Row w B v l) (hn0 : 0 ≤ n) (hn1 : n ≤ 65535) (hl : l.length ≤ 1000000) (hB : B ≤ w.heap.size) :
    Calls Tryd.prog 54 #[v, .int .i64 n] w fun e w' => ∃ v', e = .returned v' ∧ Row w' B v' (l ++ b2 n) ∧ Below B w w' ∧ B ≤ w'.heap.size := by
  obtain ⟨p, N, c, rfl, _⟩ := hv.shape
  have HR : Hid (Row w B (.slice p N c) l) := hv
  have HL : Hid (l.length + 1 ≤ 1000000000) := by unfold Hid; omega
  have HL2 : Hid (∀ c : UInt8, (l ++ [c]).length + 1 ≤ 1000000000) := fun c => by simp; omega
  have HA : Hid (n / 256 = ((u8 (n / 256)).toNat : Int)) := (u8_val (by omega) (by omega)).symm
  have HC : Hid (n % 256 = ((u8 (n % 256)).toNat : Int)) := (u8_val (by omega) (by omega)).symm
  have HE : Hid (∀ x y : UInt8, (l ++ [x]) ++ [y] = l ++ [x, y]) := fun x y => by simp
  clear hv hl
  go_enter Tryd.func54, Tryd.ntmps54
  go_wp2_with (first
    | (at_builtin; refine wpList_put1 w rfl (.tmp 5) (.tmp 9) rfl B (.slice p N c) l _ (u8 (n / 256)) _ rfl HR.out _ rfl rfl HA.out HL.out hB ?_; intro v1 w1 hr1 hb1 hs1; obtain ⟨p1, N1, c1, rfl, _⟩ := hr1.shape; have HR1 : Hid (Row w1 B (.slice p1 N1 c1) (l ++ [u8 (n / 256)])) := hr1; have HB1 : Hid (Below B w w1) := hb1; clear hr1 hb1)
    | (at_builtin; refine wpList_put1 w1 rfl (.tmp 11) (.tmp 15) rfl B (.slice p1 N1 c1) (l ++ [u8 (n / 256)]) _ (u8 (n % 256)) _ rfl HR1.out _ rfl rfl HC.out (HL2.out _) hs1 ?_; intro v2 w2 hr2 hb2 hs2; have HR2 : Hid (Row w2 B v2 ((l ++ [u8 (n / 256)]) ++ [u8 (n % 256)])) := hr2; have HB2 : Hid (Below B w w2) := HB1.out.trans hb2; clear hr2 hb2))
  go_ret
  exact ⟨_, rfl, by have := HR2.out; rw [HE.out] at this; exact this, HB2.out, hs2⟩

set_option maxHeartbeats 1000000 in
theorem number_ref (s : ByteArray) (i : Nat) (w : World) (hi : i + 1 < s.size) (hs : s.size ≤ maxLen) :
    Calls Tryd.prog 57 #[.string s, .int .i64 i] w fun e w' => e = .returned (.int .i64 (numAt s.toList i)) ∧ Below w.heap.size w w' := by
  have hm := hs
  unfold maxLen at hm
  have h1 : i < s.size := by omega
  obtain ⟨j, hj⟩ : ∃ j, j = i + 1 := ⟨_, rfl⟩
  have h2 : j < s.size := by omega
  have HN : Hid (((numAt s.toList i : Nat) : Int) = (s[i].toNat : Int) * 256 + (s[j].toNat : Int)) := by
    subst hj; unfold Hid numAt; rw [at_list s i h1, at_list s (i + 1) hi]; omega
  rw [HN.out]
  have hb1 : s[i].toNat < 256 := UInt8.toNat_lt _
  have hb2 : s[j].toNat < 256 := UInt8.toNat_lt _
  have hw1 : IntKind.i64.wrap ((i : Int) + 1) = (j : Int) := by rw [IntKind.wrap_i64]; omega
  have hw4 : IntKind.i64.wrap (s[i].toNat : Int) = (s[i].toNat : Int) := by rw [IntKind.wrap_i64]; omega
  have hw5 : IntKind.i64.wrap (s[j].toNat : Int) = (s[j].toNat : Int) := by rw [IntKind.wrap_i64]; omega
  have hw2 : IntKind.i64.wrap ((s[i].toNat : Int) * 256) = (s[i].toNat : Int) * 256 := by rw [IntKind.wrap_i64]; omega
  have hw3 : IntKind.i64.wrap ((s[i].toNat : Int) * 256 + (s[j].toNat : Int)) = (s[i].toNat : Int) * 256 + (s[j].toNat : Int) := by rw [IntKind.wrap_i64]; omega
  clear hj hi
  go_enter Tryd.func57, Tryd.ntmps57
  go_wp2_with fail
  go_quiet (fail)
  go_wp2_with fail
  go_ret
  exact ⟨rfl, bel_drew (Below.refl _ _) _⟩

end Od
end Go.Proofs.YtcmoajlcmeimiaaDoor
