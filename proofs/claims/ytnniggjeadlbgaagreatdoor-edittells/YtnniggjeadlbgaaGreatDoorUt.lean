/- The reference's maker, told, Maker.insert, Insert. -/
import Derived.Test.YtnniggjeadlbgaaGreatDoorUs
import Derived.Test.YtnniggjeadlbgaaGreatDoorXg
import Derived.Test.YtnniggjeadlbgaaGreatDoorP4
import Derived.Test.YtnniggjeadlbgaaGreatDoorK1
namespace Go.Proofs.YtnniggjeadlbgaaGreatDoor
namespace Ut
set_option linter.unusedVariables false
set_option linter.unusedSimpArgs false
open Go.ChangeShapes Go.WideShapes Go.ChangeAt Go.RowKit Cm Ka Kb Na Om Oa Oz Oc Og Oi Hm Ia Ib Ic Idc Ie If Ig Ih Ii Ij Ik Il Im Um Ua Ub Uc Ud Ue Uf Xa Us
open La (bel bel_drew errV_zero errV_ne own_ge own_grow own_below Lies LeafsIn)
open Lj (BookAt BookNew)
open Xg (Parts)

theorem maker_no (E : Nat) (who : Int) (w : World) (hw : who < 1 ∨ 8 < who) : Calls Tryz.prog 60 #[.pointer (some ⟨E, 0, none⟩), .int .i64 who] w fun e w' => e = .returned (.tuple #[.pointer none, .bool false]) ∧ w' = w := by
  rcases hw with h | h
  · go_enter Tryz.func60, Tryz.ntmps60
    go_wp2
    go_ret2
    exact ⟨rfl, rfl⟩
  · have h2 : ¬ who < 1 := by omega
    go_enter Tryz.func60, Tryz.ntmps60
    go_wp2
    go_ret2
    exact ⟨rfl, rfl⟩
theorem maker_ok (B E : Nat) (S : Dq) (F : Nat → Prop) (who : Int) (w : World) (h : RefAt B w E S F) (h1 : 1 ≤ who) (h8 : who ≤ 8) :
    Calls Tryz.prog 60 #[.pointer (some ⟨E, 0, none⟩), .int .i64 who] w fun e w' => e = .returned (.tuple #[.pointer (some ⟨w.heap.size, 0, none⟩), .bool true]) ∧ MkAt w.heap.size w' w.heap.size who (kn S who) (.slice none 0 0) [] ∧ Below w.heap.size w w' := by
  have hk8 := h.inv.klen
  obtain ⟨pb, nb, cb, pm, nm, cm, gk, po, no, co, hp⟩ := Xg.RefAt.parts h
  have c2 := hp.c2 w (Below.refl _ _)
  obtain ⟨b, o, e9, hcs⟩ := (hp.known w (Below.refl _ _)).some (by intro e; rw [e] at hk8; simp at hk8)
  injection e9 with e9
  injection e9 with e91 e92
  subst e91 e92
  obtain ⟨r, hr⟩ : ∃ r : Nat, who = (r : Int) + 1 := ⟨(who - 1).toNat, by omega⟩
  have hc1 := hcs r (by rw [hk8]; omega)
  obtain ⟨kk, hkk⟩ : ∃ kk, kk = kn S who := ⟨_, rfl⟩
  have hkv : S.known.getD r 0 = kk := by rw [hkk, hr]; unfold kn; rw [show ((r : Int) + 1 - 1).toNat = r by omega]
  rw [hkv, Nat.zero_add] at hc1
  rw [← hkk]
  have hr8 : (r : Int) < 8 := by omega
  clear h hp hcs hkk hkv hk8
  subst hr
  go_enter Tryz.func60, Tryz.ntmps60
  go_wp2_with fail
  go_ret2
  refine ⟨rfl, ⟨heap_alloc_new w _, World.ownsRow_nil _ _ _ _, fun g hg => (by cases hg), fun y hy => (by cases hy), Nat.le_refl _⟩, (Below.refl _ _).alloc (Nat.le_refl _) _⟩
theorem told_no (M : Nat) (k : Int) (w : World) (hk : k ≠ 0) : Calls Tryz.prog 61 #[.pointer (some ⟨M, 0, none⟩), .int .i64 k] w fun e w' => e = .returned (.tuple #[.slice none 0 0, .int .i64 k]) ∧ w' = w := by
  have hb : (k != 0) = true := by simpa using hk
  clear hk
  go_enter Tryz.func61, Tryz.ntmps61
  go_wp2_with fail
  go_ret2
  exact ⟨rfl, rfl⟩
theorem told_ok (B M : Nat) (who n : Int) (v : Value) (L : List (Ox × Value)) (w : World) (h : MkAt B w M who n v L) : Calls Tryz.prog 61 #[.pointer (some ⟨M, 0, none⟩), .int .i64 0] w fun e w' => e = .returned (.tuple #[v, .int .i64 0]) ∧ w' = w := by
  have c2 := blk_cell h.blk (i := 2) (u := v) rfl
  obtain ⟨po, no, co, rfl, _⟩ := own_shape h.row
  clear h
  go_enter Tryz.func61, Tryz.ntmps61
  go_wp2_with fail
  go_ret2
  exact ⟨rfl, rfl⟩

/- what the reference's edits answer -/
def RfPost (w : World) (k : Int) (L : List Ox) (e : Ending) (w' : World) : Prop := ∃ v, e = .returned (.tuple #[v, .int .i64 k]) ∧ (k = 0 → OpsAt w' v L) ∧ (k ≠ 0 → v = .slice none 0 0) ∧ Below w.heap.size w w'
/- what the maker's edits answer -/
def MkPost (B : Nat) (w : World) (M : Nat) (who k : Int) (L : List Ox) (e : Ending) (w' : World) : Prop := e = .returned (.int .i64 k) ∧ (∃ n' v' L', MkAt B w' M who n' v' L' ∧ (k = 0 → L'.map (·.1) = L)) ∧ Below B w w'
def insLs (a b : ByteArray) (who n : Int) (t : ByteArray) (k : Nat) : List Ox := (List.range k).map (insO a b who n t)
theorem insLs_next (a b : ByteArray) (who n : Int) (t : ByteArray) (k : Nat) : insLs a b who n t (k + 1) = insLs a b who n t k ++ [insO a b who n t k] := by
  unfold insLs; rw [List.range_succ, List.map_append]; rfl
def insK (l : List Bm.Leaf) (who off : Int) (t : ByteArray) : Int := if textE t ≠ 0 then textE t else if aroundE l off ≠ 0 then 1 else rowE (leftP l off.toNat) (rightP l off.toNat) who t.size

set_option maxRecDepth 100000 in
set_option maxHeartbeats 4000000 in
theorem text_loop (t : ByteArray) (M : Nat) (off : Int) (v : Value) (B : Nat) (who n : Int) (l : List Bm.Leaf) (w : World) (hm : t.size ≤ maxLen) (h : MkAt B w M who n (.slice none 0 0) []) (hk : textE t ≠ 0) :
    Calls Tryz.prog 62 #[.pointer (some ⟨M, 0, none⟩), v, .int .i64 off, .string t] w (MkPost B w M who (insK l who off t) []) := by
  have HE : Hid (insK l who off t = textE t) := by unfold Hid insK; rw [if_pos hk]
  have HMK : Hid (MkAt B w M who n (.slice none 0 0) []) := h
  have HZ : Hid (textE t ≠ 0) := hk
  by_cases hs : 200 < t.size
  · have hsz : (200 : Int) < t.size := by omega
    have HT : Hid (textE t = 4) := by unfold Hid textE; rw [if_pos hs]
    clear h hk
    go_enter Tryz.func62, Tryz.ntmps62
    go_wp2_with fail
    go_ret
    exact ⟨by rw [HE.out, HT.out]; rfl, ⟨_, _, _, HMK.out, fun e => absurd e (by rw [HE.out]; exact HZ.out)⟩, Below.refl _ _⟩
  · have hsz : ¬ (200 : Int) < t.size := by omega
    have hs2 : t.size ≤ 200 := by omega
    have HT : Hid (okText t = false → textE t = 1) := fun e => by unfold textE; rw [if_neg hs, e]; rfl
    have HNO : Hid (okText t = false) := by
      unfold Hid
      cases e : okText t with
      | false => rfl
      | true => exact absurd (textE_zero.2 ⟨hs2, e⟩) hk
    clear h hk hs
    go_enter Tryz.func62, Tryz.ntmps62
    go_wp2_with fail
    go_loopw [9] (fun i wr => ∃ (k : Nat), k ≤ t.size ∧ i = .int .i64 k ∧ Hid ((t.toList.take k).all (fun c => Bm.isL (c.toNat : Int)) = true) ∧ Hid (wr = w)) (fun i _ => t.size - (intOf i).toNat)
    case atStart => exact ⟨0, by omega, rfl, rfl, rfl⟩
    case round =>
      obtain ⟨k, hk, rfl, HTK, HW⟩ := hrel
      by_cases hlt : k < t.size
      · have hltz : (k : Int) < t.size := by omega
        have HY : Hid (Bm.isL ((t.toList.getD k 0).toNat : Int) = true → (t.toList.take (k + 1)).all (fun c => Bm.isL (c.toNat : Int)) = true) := ok_take hlt HTK.out
        rw [byte_at t k hlt] at HY
        have hx255 : ((t[k]'hlt).toNat : Int) ≤ 255 := by have := (t[k]'hlt).toNat_lt; omega
        have CL := Lp.letter_ref ((t[k]'hlt).toNat : Int) wr
        cases hb : Bm.isL ((t[k]'hlt).toNat : Int) with
        | true =>
          rw [hb] at CL
          have HY2 : Hid ((t.toList.take (k + 1)).all (fun c => Bm.isL (c.toNat : Int)) = true) := HY.out hb
          clear HY hb
          go_wp2_with fail
          refine CL.mono ?_
          rintro e w2 ⟨rfl, hw⟩
          have HW2 : Hid (w2 = w) := hw.trans HW.out
          clear hw CL
          go_wp2_with fail
          go_roundw
          case rel => exact ⟨k + 1, by omega, by go_num, HY2, HW2⟩
          case measure => simp [intOf]; omega
        | false =>
          rw [hb] at CL
          clear HY hb
          go_wp2_with fail
          refine CL.mono ?_
          rintro e w2 ⟨rfl, hw⟩
          have HW2 : Hid (w2 = w) := hw.trans HW.out
          clear hw CL
          go_wp2_with fail
          go_ret
          rw [HW2.out]
          exact ⟨by rw [HE.out, HT.out HNO.out]; rfl, ⟨_, _, _, HMK.out, fun e => absurd e (by rw [HE.out]; exact HZ.out)⟩, Below.refl _ _⟩
      · exfalso
        have h9 := HTK.out
        rw [List.take_of_length_le (by rw [Om.len_eq]; omega)] at h9
        have h8 := HNO.out
        unfold okText at h8
        rw [h9] at h8; cases h8

end Ut
end Go.Proofs.YtnniggjeadlbgaaGreatDoor
