/- What leaflaw2.stand answers where the letters stand. -/
import Derived.Test.YtonbohekiliepaaUf
import Derived.Test.YtonbohekiliepaaUg
namespace Go.Proofs.Ytonbohekiliepaa
namespace Uh
set_option linter.unusedVariables false
open Go.ChangeShapes Go.WideShapes Go.ChangeAt Go.RowKit Cm Ka Kb Na Om Oa Oz Oc Og Oi Hm Ia Ib Ic Idc Ie If Ig Ih Ii Ij Ik Il Im Um Ua Ub Uc Ud Ue Uf
open La (bel bel_drew errV_zero errV_ne own_ge own_grow own_below Lies LeafsIn)
open Lj (BookAt BookNew)

set_option maxRecDepth 100000 in
set_option maxHeartbeats 4000000 in
theorem stand_yes (vb vx : Value) (l : List Bm.Leaf) (L : List Ox) (t : ByteArray) (w : World) (hb : BookAt w vb l) (ho : OpsAt w vx L) (hr : Bm.Rise l) (hl : l.length ≤ 300) (hs : Stands l L t) (ht : t.size ≤ 200) :
    Calls Try.prog 18 #[vb, vx, .string t] w fun e w' => e = .returned (.bool true) ∧ Below w.heap.size w w' := by
  obtain ⟨qb, cb, rfl, hbi, _⟩ := hb
  obtain ⟨qx, cx, rfl, hxi, _⟩ := ho
  obtain ⟨n, hn⟩ : ∃ n, n = L.length := ⟨_, rfl⟩
  obtain ⟨m, hm⟩ : ∃ m, m = l.length := ⟨_, rfl⟩
  rw [← hn, ← hm]
  have HN : Hid (L.length = n) := hn.symm
  have HM : Hid (l.length = m) := hm.symm
  have hm3 : m ≤ 300 := by omega
  have hn2 : n ≤ 200 := by rw [hn, hs.len]; exact ht
  have HTN : Hid (t.size = n) := by unfold Hid; rw [hn]; exact hs.len.symm
  have HS : Hid (Stands l L t) := hs
  have HR : Hid (Bm.Rise l) := hr
  have HBI : Hid (LeafsIn w qb l) := hbi
  have HXI : Hid (OpsIn w qx L) := hxi
  clear hbi hxi hr hl hs hn hm
  go_enter Try.func18, Try.ntmps18
  go_wp2_with fail
  go_loopw [7, 8] (fun vz vi wr => ∃ (k : Nat) (z : Int), k ≤ n ∧ vi = .int .i64 k ∧ vz = .int .i64 z ∧ Hid (k < n → z < (Bm.ahd l (L.getD k oz).2.2.1.toList : Int)) ∧ Hid (Below w.heap.size w wr)) (fun _ vi _ => n - (intOf vi).toNat)
  case atStart => exact ⟨0, -1, by omega, rfl, rfl, fun _ => by omega, Below.refl _ _⟩
  case round =>
    obtain ⟨k, z, hk, rfl, rfl, HZ, HB⟩ := hrel
    by_cases hlt : k < n
    · have hltz : (k : Int) < n := by omega
      have hkl : k < L.length := by rw [HN.out]; exact hlt
      have hkt : k < t.size := by rw [HTN.out]; exact hlt
      have hktz : (k : Int) < t.size := by omega
      obtain ⟨bo, oo, rfl, hc⟩ := HXI.out.some (by intro e; rw [e] at hkl; simp at hkl)
      obtain ⟨vv, ⟨_, _, _, h3, _, _⟩, _⟩ := hc k hkl
      have d3 := keep_cell HB.out h3
      obtain ⟨s1, s2, s3, s4⟩ := HS.out.at' k hkl
      have hup := HS.out.up k
      have hz := HZ.out hlt
      obtain ⟨p, hp⟩ : ∃ p, p = (L.getD k oz).2.2.1 := ⟨_, rfl⟩
      rw [← hp] at d3 s1 s2 s3 s4 hz hup
      have CF := Ld.find_any qb m cb l p wr HM.out (HBI.out.below HB.out) HR.out (by omega)
      obtain ⟨a, ha⟩ : ∃ a, a = Bm.ahd l p.toList := ⟨_, rfl⟩
      rw [← ha] at s2 s3 s4 hz hup CF
      rw [s1] at CF
      obtain ⟨bb, ob, rfl, hcb⟩ := HBI.out.some (by intro e; rw [e] at s2; simp at s2)
      have hb3 := (hcb a s2).below HB.out (hcb a s2).lt
      have hat := hcb a s2
      rw [byte_at t k hkt] at s3
      have HAT : Hid (∀ W, Below w.heap.size w W → W.cell? ⟨bb, ob + a * 3 + 1, none⟩ = some (.int .i64 ((t[k]'hkt).toNat : Int)) ∧ W.cell? ⟨bb, ob + a * 3 + 2, none⟩ = some (.bool false)) := fun W hbW => by
        obtain ⟨_, q2, q3⟩ := hat.below hbW hat.lt
        rw [s3] at q2
        rw [s4] at q3
        exact ⟨q2, q3⟩
      have ham : a < m := by rw [← HM.out]; exact s2
      have hamz : (a : Int) < m := by omega
      have hzd : decide ((a : Int) ≤ z) = false := decide_eq_false (by omega)
      have hx255 : ((t[k]'hkt).toNat : Int) ≤ 255 := by have := (t[k]'hkt).toNat_lt; omega
      have hxw : IntKind.i64.wrap ((t[k]'hkt).toNat : Int) = ((t[k]'hkt).toNat : Int) := wrap_in (by omega) (by omega)
      have HZ2 : Hid (k + 1 < n → (a : Int) < (Bm.ahd l (L.getD (k + 1) oz).2.2.1.toList : Int)) := fun h9 => by
        have := hup (by rw [HN.out]; exact h9)
        omega
      clear hc h3 s1 s2 s3 s4 hup hz hp ha hcb hb3 hat hkl HZ
      go_wp2_with fail
      refine CF.mono ?_
      rintro e w2 ⟨rfl, hb2⟩
      have HB2 : Hid (Below w.heap.size w w2) := bel HB.out hb2
      obtain ⟨q2, q3⟩ := HAT.out w2 HB2.out
      clear CF hb2 d3
      go_wp2_with fail
      go_quiet (fail)
      generalize hwq : World.drewN _ _ = wq
      have HB3 : Hid (Below w.heap.size w wq) := by unfold Hid; rw [← hwq]; exact bel_drew HB2.out _
      clear hwq q2 q3
      go_wp2_with fail
      go_roundw
      case rel => exact ⟨k + 1, (a : Int), by omega, by go_num, rfl, HZ2, HB3⟩
      case measure => simp [intOf]; omega
    · obtain rfl : n = k := by omega
      have hltz : ¬ (n : Int) < n := by omega
      have htn : (t.size : Int) = (n : Int) := by rw [HTN.out]
      have hbe : ((n : Int) == (t.size : Int)) = true := by rw [htn]; simp
      clear htn
      go_wp2_with fail
      go_ret
      exact ⟨by first | rfl | (rw [hbe]; rfl) | (rw [HTN.out]; simp), HB.out⟩

end Uh
end Go.Proofs.Ytonbohekiliepaa
