/- CursorTells: what its helper 'where' answers. -/
import Derived.Test.YtcmoajlcmeimiacDoorCa
import Derived.Test.YtcmoajlcmeimiacDoorK1
import Derived.Test.YtcmoajlcmeimiacDoorJ14
namespace Go.Proofs.YtcmoajlcmeimiacDoor
namespace Cc
set_option linter.unusedVariables false
open Go.ChangeShapes Go.WideShapes Go.ChangeAt Go.RowKit Bm Ka Kb La Lb Lc Ld Le Lf Lg Lp Ma Mb Ca
open Lj (BookAt)

set_option maxRecDepth 100000 in
set_option maxHeartbeats 2000000 in
theorem where_any (q : Option Addr) (n c : Nat) (l : List Leaf) (p : ByteArray) (w : World) (hl : l.length = n) (h : LeafsIn w q l) (hn : n ≤ c) (hc : c ≤ maxLen) (h0 : resE l p = 0) :
    Calls Tryd.prog 10 #[.slice q n c, .string p] w fun e w' => e = .returned (.int .i64 (resR l p)) ∧ Below w.heap.size w w' := by
  have hb := resE_book h0
  have hk := book_ok hb
  unfold maxLen at hc
  by_cases hp0 : p.size = 0
  · have C := text_ref q n c l w hl h hk.2.2 (by omega)
    obtain ⟨T, hT⟩ : ∃ T : ByteArray, T = ⟨(text l).toArray⟩ := ⟨_, rfl⟩
    have HR : Hid (resR l p = (T.size : Int)) := by unfold Hid resR; rw [if_pos hp0, textR_zero hb, hT]
    rw [HR.out]
    rw [← hT] at C
    obtain rfl := size_nil hp0
    clear hl h hn hc h0 hb hk hp0 hT HR
    go_enter Tryd.func10, Tryd.ntmps10
    go_wp2_with fail
    refine C.mono ?_
    rintro e w2 ⟨rfl, hb2⟩
    have HB2 : Hid (Below w.heap.size w w2) := hb2
    clear hb2 C
    go_wp2_with fail
    go_ret
    exact ⟨rfl, HB2.out⟩
  · have hpe := ne_nil hp0
    have hw : withE l p = 0 := by unfold resE at h0; rwa [if_neg hp0] at h0
    have hle := ahead_le (p := p.toList) hk.2.1
    rw [hl] at hle
    have C := ahead_ref q n c l p w hl h (by omega)
    have C3 := text_ref q (ahd l p.toList) c (l.take (ahd l p.toList)) w (by rw [List.length_take]; omega) (LeafsIn.take h _) (fun x hx => hk.2.2 x (List.mem_of_mem_take hx)) (by omega)
    obtain ⟨T, hT⟩ : ∃ T : ByteArray, T = ⟨(text (l.take (ahd l p.toList))).toArray⟩ := ⟨_, rfl⟩
    have HR : Hid (resR l p = (T.size : Int)) := by unfold Hid resR offR; rw [if_neg hp0, if_pos hw, hT]; rfl
    rw [HR.out]
    rw [← hT] at C3
    obtain ⟨i, hi⟩ : ∃ i, i = ahd l p.toList := ⟨_, rfl⟩
    rw [← hi] at C C3 hle
    have hiz : (i : Int) ≤ n := by omega
    have hicz : (i : Int) ≤ c := by omega
    have hn300 : n ≤ 300 := by rw [← hl]; exact hk.1
    clear hl h h0 hb hk hp0 hw hT HR hi
    cases q with
    | none =>
      go_enter Tryd.func10, Tryd.ntmps10
      go_wp2_with fail
      refine C.mono ?_
      rintro e w2 ⟨rfl, rfl⟩
      clear C
      go_wp2_with fail
      refine C3.mono ?_
      rintro e w3 ⟨rfl, hb3⟩
      have HB3 : Hid (Below w2.heap.size w2 w3) := hb3
      clear hb3 C3
      go_wp2_with fail
      go_ret
      exact ⟨rfl, HB3.out⟩
    | some a =>
      go_enter Tryd.func10, Tryd.ntmps10
      go_wp2_with fail
      refine C.mono ?_
      rintro e w2 ⟨rfl, rfl⟩
      clear C
      go_wp2_with fail
      refine C3.mono ?_
      rintro e w3 ⟨rfl, hb3⟩
      have HB3 : Hid (Below w2.heap.size w2 w3) := hb3
      clear hb3 C3
      go_wp2_with fail
      go_ret
      exact ⟨rfl, HB3.out⟩

end Cc
end Go.Proofs.YtcmoajlcmeimiacDoor
