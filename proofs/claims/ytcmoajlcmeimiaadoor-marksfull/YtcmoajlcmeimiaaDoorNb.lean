/- What the orders of ints, of texts, of dots and of marks answer: cmp.Compare, cmp.Or, strings.Compare, compareDots, compareMarks. -/
import Derived.Test.YtcmoajlcmeimiaaDoorNa
import Derived.Lib.Bytealg
import Derived.Laws.Externs
import Derived.Deep.RegionHeld3
namespace Go.Proofs.YtcmoajlcmeimiaaDoor
namespace Nb
set_option linter.unusedVariables false
open Go.ChangeShapes Go.WideShapes Go.ChangeAt Go.RowKit Cm Ka Kb Na
open La (bel bel_drew errV_zero errV_ne own_ge own_grow own_below)

/- below: -1; the same: 0; above: 1 -/
def icmp (a b : Int) : Int := if a < b then -1 else if b < a then 1 else 0
def or2 (a b : Int) : Int := if a = 0 then b else a
theorem icmp_lt {a b : Int} : icmp a b < 0 ↔ a < b := by
  unfold icmp
  split
  · constructor <;> intro h <;> omega
  · split
    · constructor <;> intro h <;> omega
    · constructor <;> intro h <;> omega
theorem icmp_eq {a b : Int} : icmp a b = 0 ↔ a = b := by
  unfold icmp
  split
  · constructor <;> intro h <;> omega
  · split
    · constructor <;> intro h <;> omega
    · constructor <;> intro h <;> omega
theorem or2_lt {a b : Int} : or2 a b < 0 ↔ a < 0 ∨ (a = 0 ∧ b < 0) := by
  unfold or2
  split <;> omega
theorem or2_eq {a b : Int} : or2 a b = 0 ↔ a = 0 ∧ b = 0 := by
  unfold or2
  split <;> omega
def dcmp (a b : Dt) : Int := or2 (icmp a.1 b.1) (icmp a.2 b.2)
theorem dcmp_lt {a b : Dt} : dcmp a b < 0 ↔ dlt a b = true := by
  unfold dcmp dlt
  rw [or2_lt, icmp_lt, icmp_eq, icmp_lt]
  simp
theorem dcmp_eq {a b : Dt} : dcmp a b = 0 ↔ a = b := by
  unfold dcmp
  rw [or2_eq, icmp_eq, icmp_eq]
  obtain ⟨a1, a2⟩ := a
  obtain ⟨b1, b2⟩ := b
  simp
def cmp (a b : ByteArray) : Int := Lib.compareBytes a.data.toList b.data.toList
theorem cmpL_less : ∀ a b : List UInt8, (Lib.compareBytes a b < 0 ↔ Op.bytesLess a b = true) ∧ (Lib.compareBytes a b = 0 ↔ a = b)
  | [], [] => by simp [Lib.compareBytes, Op.bytesLess]
  | [], _ :: _ => by simp [Lib.compareBytes, Op.bytesLess]
  | _ :: _, [] => by simp [Lib.compareBytes, Op.bytesLess]
  | x :: a, y :: b => by
    obtain ⟨h1, h2⟩ := cmpL_less a b
    unfold Lib.compareBytes
    by_cases hlt : x < y
    · rw [if_pos hlt]
      have hne : x ≠ y := by rintro rfl; exact absurd hlt (UInt8.lt_irrefl x)
      simp [Op.bytesLess, hlt, hne]
    · rw [if_neg hlt]
      by_cases hgt : y < x
      · rw [if_pos hgt]
        have hne : x ≠ y := by rintro rfl; exact absurd hgt (UInt8.lt_irrefl x)
        simp [Op.bytesLess, hlt, hne]
      · rw [if_neg hgt]
        have e : x = y := UInt8.le_antisymm (UInt8.not_lt.1 hgt) (UInt8.not_lt.1 hlt)
        subst e
        constructor
        · rw [h1]; simp [Op.bytesLess, hlt]
        · rw [h2]; simp
theorem cmp_lt (a b : ByteArray) : cmp a b < 0 ↔ Op.bytesLess a.toList b.toList = true := by
  unfold cmp; rw [ByteArray.toList_eq, ByteArray.toList_eq]; exact (cmpL_less _ _).1
theorem cmp_eq (a b : ByteArray) : cmp a b = 0 ↔ a = b := by
  have h : cmp a b = 0 ↔ a.toList = b.toList := by
    unfold cmp; rw [ByteArray.toList_eq, ByteArray.toList_eq]; exact (cmpL_less _ _).2
  rw [h]
  exact ⟨fun e => Bm.bytes_inj e, fun e => by rw [e]⟩
def mcmp (a b : Mk) : Int := or2 (cmp a.1 b.1) (dcmp a.2 b.2)
theorem mcmp_lt {a b : Mk} : mcmp a b < 0 ↔ mlt a b = true := by
  unfold mcmp mlt
  rw [or2_lt, cmp_lt, cmp_eq, dcmp_lt]
  simp
theorem mcmp_eq {a b : Mk} : mcmp a b = 0 ↔ a = b := by
  unfold mcmp
  rw [or2_eq, cmp_eq, dcmp_eq]
  obtain ⟨a1, a2⟩ := a
  obtain ⟨b1, b2⟩ := b
  simp

theorem entry (args : Array Value) (w : World) : (callFunc 90 args).run Tryd.prog w = ((Extern.BytealgCompare.compare args).run Tryd.prog w).andThen fun v w' => .ok (.value v) w' :=
  run_callFunc_extern Tryd.func90 (by kernel_rfl) (by kernel_rfl) (by kernel_rfl) (by kernel_rfl) args w
theorem entry2 (a b : ByteArray) (w : World) : (callFunc 90 #[.string a, .string b]).run Tryd.prog w = .ok (.value (.int .i64 (cmp a b))) w := by
  rw [entry, Lib.run_compareString]; rfl
theorem compare_any (a b : ByteArray) (w : World) :
    Calls Tryd.prog 66 #[.string a, .string b] w fun e w' => e = .returned (.int .i64 (cmp a b)) ∧ w' = w := by
  have he := entry2
  go_enter Tryd.func66, Tryd.ntmps66
  go_wp2
  go_ret
  exact ⟨rfl, rfl⟩

theorem isNaN_any (a : Int) (w : World) :
    Calls Tryd.prog 91 #[.int .i64 a] w fun e w' => e = .returned (.bool false) ∧ w' = w := by
  go_enter Tryd.func91, Tryd.ntmps91
  go_wp2
  go_ret
  exact ⟨by first | rfl | simp, rfl⟩
theorem icompare_any (a b : Int) (w : World) :
    Calls Tryd.prog 85 #[.int .i64 a, .int .i64 b] w fun e w' => e = .returned (.int .i64 (icmp a b)) ∧ w' = w := by
  have H : Hid (icmp a b = if a < b then -1 else if b < a then 1 else 0) := rfl
  go_enter Tryd.func85, Tryd.ntmps85
  go_wp2_with (go_at_call 91; refine (isNaN_any _ _).mono ?_; rintro e w' ⟨rfl, hw⟩; have hw2 := hw.symm; subst hw2; clear hw)
  all_goals
    go_ret
    refine ⟨?_, rfl⟩
    rw [H.out]
    first
      | (rw [if_pos (by omega)]; rfl)
      | (rw [if_neg (by omega), if_pos (by omega)]; rfl)
      | (rw [if_neg (by omega), if_neg (by omega)]; rfl)
theorem or_any (g : Nat) (a b : Int) (w : World) (h0 : w.cell? ⟨g, 0, none⟩ = some (.int .i64 a)) (h1 : w.cell? ⟨g, 1, none⟩ = some (.int .i64 b)) :
    Calls Tryd.prog 65 #[.slice (some ⟨g, 0, none⟩) 2 2] w fun e w' => e = .returned (.int .i64 (or2 a b)) ∧ w' = w := by
  have H : Hid (or2 a b = if a = 0 then b else a) := rfl
  go_enter Tryd.func65, Tryd.ntmps65
  go_wp2
  go_loop [5, 8] (fun _ i => ∃ (k : Nat), k ≤ 2 ∧ i = .int .i64 k ∧ Hid ((1 ≤ k → a = 0) ∧ (2 ≤ k → b = 0))) (fun _ i => 2 - (intOf i).toNat)
  case atStart => exact ⟨0, by omega, rfl, ⟨fun h => by omega, fun h => by omega⟩⟩
  case round =>
    obtain ⟨k, hk, rfl, HK⟩ := hrel
    have hk3 : k = 0 ∨ k = 1 ∨ k = 2 := by omega
    rcases hk3 with rfl | rfl | rfl
    · by_cases ha : a = 0
      · subst ha
        go_wp2_with fail
        go_round
        case rel => exact ⟨1, by omega, by go_num, ⟨fun _ => by first | rfl | trivial, fun h => by omega⟩⟩
        case measure => simp [intOf]
      · have hab : (a != 0) = true := by simpa using ha
        have HR : Hid (or2 a b = a) := by unfold Hid; rw [H.out, if_neg ha]
        clear ha
        go_wp2_with fail
        go_ret
        exact ⟨by rw [HR.out]; rfl, rfl⟩
    · obtain rfl := HK.out.1 (by omega)
      by_cases hb : b = 0
      · subst hb
        go_wp2_with fail
        go_round
        case rel => exact ⟨2, by omega, by go_num, ⟨fun _ => by first | rfl | trivial, fun _ => by first | rfl | trivial⟩⟩
        case measure => simp [intOf]
      · have hbb : (b != 0) = true := by simpa using hb
        have HR : Hid (or2 0 b = b) := by unfold Hid; rw [H.out, if_pos rfl]
        clear hb
        go_wp2_with fail
        go_ret
        exact ⟨by rw [HR.out]; rfl, rfl⟩
    · obtain rfl := HK.out.1 (by omega)
      obtain rfl := HK.out.2 (by omega)
      go_wp2_with fail
      go_ret
      exact ⟨by rw [H.out]; rfl, rfl⟩

end Nb
end Go.Proofs.YtcmoajlcmeimiaaDoor
