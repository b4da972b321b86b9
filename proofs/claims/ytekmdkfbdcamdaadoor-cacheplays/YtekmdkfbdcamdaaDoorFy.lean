/- The reference's texts kept: Load. -/
import Derived.Test.YtekmdkfbdcamdaaDoorFx
namespace Go.Proofs.YtekmdkfbdcamdaaDoor
namespace Fy
set_option linter.unusedVariables false
set_option linter.unusedSimpArgs false
open Go.ChangeShapes Go.WideShapes Go.ChangeAt Go.RowKit Ka Kb Ef Fw Fx
open Fb (Kp names get? off used trim Inv loadC)
open Fl (findI erase_eq find_get)

set_option maxRecDepth 100000 in
set_option maxHeartbeats 1000000 in
theorem load_any (B : Nat) (v : Value) (l : List Kp) (U : Nat → Prop) (p s : ByteArray) (b : Nat) (w : World) (h : Und B w v l U) (hnd : (names l).Nodup) (hs : s.size ≤ b) (hb : b ≤ 10000) (hu : used l ≤ 10000) (hn : l.length ≤ 1000) :
    Calls Tryd.prog 13 #[v, .string p, .string s, .int .i64 b] w fun e w' => ∃ a n c, e = .returned (.slice a n c) ∧ Mk2 w (.slice a n c) (loadC b p s l) w' := by
  have CF := find_any B v l U p w h (by omega)
  obtain ⟨z, hzf⟩ : ∃ z, z = findZ p l := ⟨_, rfl⟩
  rw [← hzf] at CF
  have HZF := Hid.mk' hzf
  obtain ⟨a0, c0, e9⟩ := und_shape h
  have hou := Fb.used_off_le p l
  have hol : (off p l).length ≤ l.length := by unfold off; exact List.length_filter_le _ _
  have HX : Hid (used (off p l) ≤ 10000 ∧ (off p l).length ≤ 1000 ∧ s.size ≤ b ∧ b ≤ 10000) := ⟨by omega, by omega, hs, hb⟩
  obtain ⟨n0, hn0⟩ : ∃ n0, n0 = l.length := ⟨_, rfl⟩
  rw [← hn0] at e9
  subst e9
  have HU := Hid.mk' h
  have HN : Hid (l.length ≤ 1000) := hn
  have HND : Hid ((names l).Nodup) := hnd
  clear h hnd hs hb hu hn hou hol hn0 hzf
  go_enter Tryd.func13, Tryd.ntmps13
  go_wp2_with fail
  refine CF.mono ?_
  rintro e w1 ⟨rfl, hw⟩
  have hw2 := hw.symm; subst hw2; clear hw
  clear CF
  go_upto_if 15 with fail
  go_cut [0] (fun v0 wx => ∃ (B0 : Nat) (a1 : Option Addr) (n1 c1 : Nat) (U1 : Nat → Prop), v0 = .slice a1 n1 c1 ∧ Hid (Und B0 wx (.slice a1 n1 c1) (off p l) U1) ∧ Hid (Below w.heap.size w wx))
  case first =>
    cases hq : findI p l with
    | none =>
      have hz : z = -1 := HZF.out.trans (findZ_none hq)
      have hd : ¬ (0 : Int) ≤ z := by omega
      have HO : Hid (off p l = l) := find_absent hq
      clear hq hz
      go_wp2_with fail
      go_meet
      case rel => exact ⟨B, a0, n0, c0, U, rfl, by rw [HO.out]; exact HU.out, Below.refl _ _⟩
    | some r =>
      obtain ⟨i, t⟩ := r
      have hz : z = (i : Int) := HZF.out.trans (findZ_some hq)
      have hd : (0 : Int) ≤ z := by omega
      have HO : Hid (l.eraseIdx i = off p l) := erase_eq HND.out hq
      have CO := off_any B (.slice a0 n0 c0) l U i w HU.out (find_lt hq) (by have := HN.out; omega)
      rw [← hz] at CO
      clear hq hz
      go_wp2_with fail
      refine CO.mono ?_
      rintro e w2 ⟨a2, n2, c2, rfl, U2, hu2, hb2⟩
      have HU2 : Hid (Und w.heap.size w2 (.slice a2 n2 c2) (off p l) U2) := by rw [← HO.out]; exact hu2
      have HB2 := Hid.mk' hb2
      clear hu2 hb2 CO
      go_wp2_with fail
      go_meet
      case rel => exact ⟨_, a2, n2, c2, U2, rfl, HU2.out, HB2.out⟩
  case rest =>
    obtain ⟨B0, a1, n1, c1, U1, rfl, HU1, HB1⟩ := hcut
    obtain ⟨L, hL⟩ : ∃ L, L = off p l ++ [(p, s)] := ⟨_, rfl⟩
    have HLC : Hid (trim b L = loadC b p s l) := by unfold Hid loadC; rw [hL]
    have HLL : Hid (L.length = (off p l).length + 1 ∧ used L ≤ 20000 ∧ used (L.drop (L.length - 1)) ≤ b) := by
      have := HX.out
      rw [Hid, hL, Fb.used_append, List.length_append]
      refine ⟨rfl, by show used (off p l) + (s.size + 0) ≤ _; omega, ?_⟩
      rw [show (off p l).length + [(p, s)].length - 1 = (off p l).length by simp, List.drop_left]
      show s.size + 0 ≤ b
      omega
    have HLE := Hid.mk' hL
    have HN1 : Hid (n1 = (off p l).length) := (und_le HU1.out).1
    clear hL
    go_wp2_with (first
      | (at_builtin; refine wpList_app rfl (.tmp 19) (.tmp 20) rfl rfl (Und.nil w.heap.size wc) HB1.out.size _ rfl n1 (off p l) HN1.out.symm (und_src HU1.out) (by have := HX.out; have := HN1.out; simp; omega) ?_; rintro v3 w3 U3 hu3 hc3 hf3 ⟨p3, n3, c3, rfl⟩; have HB3 : Hid (Below w.heap.size w w3) := (bel HB1.out ⟨hc3.os, hc3.tape, hc3.output, hc3.size, fun g hg => hc3.block g hg (fun e => e)⟩); have HU3 : Hid (Und w.heap.size w3 (.slice p3 n3 c3) (off p l) U3) := (by rw [List.nil_append] at hu3; exact hu3); have HBA : Hid (Below w3.heap.size w3 (w3.alloc (.cells #[.string p, .string s] 42))) := (Below.refl _ w3).alloc (Nat.le_refl _) _; have HU3A := Hid.mk' (HU3.out.below HBA.out); have HSA : Hid (Src Tryd.prog 2 37 (.slice (some ⟨w3.heap.size, 0, none⟩) 1 1) 1 (flatK [(p, s)]) (w3.alloc (.cells #[.string p, .string s] 42))) := (Src.ofSlice _ Tryd.underlying37 _ 1 1 (flatK [(p, s)]) rfl (kept_new w3 (p, s) _) (kept_one _)); clear hu3 hc3 hf3)
      | (at_builtin; refine wpList_app rfl (.tmp 22) (.tmp 26) rfl rfl HU3A.out (Nat.le_trans HB3.out.size HBA.out.size) _ rfl 1 [(p, s)] rfl HSA.out (by have := HX.out; omega) ?_; rintro v4 w4 U4 hu4 hc4 hf4 ⟨p4, n4, c4, rfl⟩; have HB4 : Hid (Below w.heap.size w w4) := hc4.below (fun g hg => (HU3A.out.lt g hg).1) (bel HB3.out HBA.out) (Nat.le_trans HB3.out.size HBA.out.size); have HU4 : Hid (Und w.heap.size w4 (.slice p4 n4 c4) L U4) := (by rw [← HLE.out] at hu4; exact hu4); clear hu4 hc4 hf4))
    go_loopw [10] (fun vo wr => ∃ (k : Nat) (a : Option Addr) (n c : Nat) (Uk : Nat → Prop), k < L.length ∧ n = L.length - k ∧ vo = .slice a n c ∧ Hid (Und w.heap.size wr (.slice a n c) (L.drop k) Uk) ∧ Hid (trim b (L.drop k) = trim b L) ∧ Hid (Below w.heap.size w wr)) (fun vo _ => match vo with | .slice _ n _ => n | _ => 0)
    case atStart => exact ⟨0, p4, n4, c4, U4, by have := HLL.out.1; omega, by rw [(und_le HU4.out).1]; rfl, rfl, HU4, rfl, HB4⟩
    case round =>
      obtain ⟨k, a, n, c, Uk, hkL, hnk, rfl, HUk, HTk, HBk⟩ := hrel
      have hud := used_drop L k
      have CU := used_any w.heap.size (.slice a n c) (L.drop k) Uk wr HUk.out (by rw [List.length_drop]; have := HLL.out; have := HX.out; omega) (by have := HLL.out; omega)
      obtain ⟨uu, huu⟩ : ∃ uu : Nat, uu = used (L.drop k) := ⟨_, rfl⟩
      rw [← huu] at CU
      have HUU := Hid.mk' huu
      have HNK : Hid (k < L.length ∧ n = L.length - k) := ⟨hkL, hnk⟩
      by_cases hlt : b < uu
      · have hz : (b : Int) < (uu : Int) := by omega
        have hk2 : k + 1 < L.length := by
          rcases Nat.lt_or_ge (k + 1) L.length with e | e
          · exact e
          · have h9 := HLL.out.2.2
            rw [show L.length - 1 = k by omega, ← huu] at h9
            omega
        obtain ⟨b1, o1, c9, e9, _, HUB⟩ := und_some HUk.out (by intro e; have h9 := congrArg List.length e; rw [List.length_drop] at h9; simp at h9; omega)
        injection e9 with e1 e2 e3
        clear e2
        subst e1
        have hcn : n ≤ c := by have h9 := und_le HUk.out; omega
        have hcm : c ≤ 9223372036854775807 := by have h9 := (und_le HUk.out).2.2; unfold maxLen at h9; omega
        have hc1 : ¬ c = 1 := by omega
        have hn1 : (1 : Int) ≤ n := by omega
        have hn2 : (1 : Int) ≤ c := by omega
        have ed : L.drop k = L[k] :: L.drop (k + 1) := List.drop_eq_getElem_cons hkL
        have HU9 : Hid (Und w.heap.size wr (.slice (some ⟨b1, o1 + 2, none⟩) (n - 1) (c - 1)) (L.drop (k + 1)) (fun g => 0 < c - 1 ∧ g = b1)) := by
          have h9 := HUB.out
          rw [ed, ← e3] at h9
          exact Und.tailed h9 (by omega) (by rw [List.length_drop]; omega)
        have HT9 : Hid (trim b (L.drop (k + 1)) = trim b L) := by unfold Hid; rw [← trim_drop hkL (by omega)]; exact HTk.out
        have HF9 : Hid (n ≤ c ∧ c ≤ 9223372036854775807 ∧ 1 < n ∧ k + 1 < L.length) := ⟨hcn, hcm, by omega, hk2⟩
        clear hud huu hkL hnk e3 ed HUB hlt HTk hcn hcm hc1 hn1 hn2 hk2
        go_wp2_with fail
        refine CU.mono ?_
        rintro e w5 ⟨rfl, hw⟩
        have hw5 := hw.symm; subst hw5; clear hw CU
        have hcm : c ≤ 9223372036854775807 := HF9.out.2.1
        have hc1 : ¬ c = 1 := by have := HF9.out; omega
        have hn1 : (1 : Int) ≤ n := by have := HF9.out; omega
        have hn2 : (1 : Int) ≤ c := by have := HF9.out; omega
        go_wp2_with fail
        go_roundw
        case rel => exact ⟨k + 1, _, n - 1, c - 1, _, HF9.out.2.2.2, by have := HNK.out; omega, by first | rfl | simp, HU9, HT9, HBk⟩
        case measure => simp; omega
      · have hz : ¬ (b : Int) < (uu : Int) := by omega
        have HT9 : Hid (L.drop k = loadC b p s l) := by
          unfold Hid; rw [← HLC.out, ← HTk.out]; exact (Fb.trim_id (by omega)).symm
        clear hud huu hkL hnk hlt
        go_wp2_with fail
        refine CU.mono ?_
        rintro e w5 ⟨rfl, hw⟩
        have hw5 := hw.symm; subst hw5; clear hw CU
        go_wp2_with fail
        go_ret
        exact ⟨_, _, _, rfl, Uk, by rw [← HT9.out]; exact HUk.out, HBk.out⟩

end Fy
end Go.Proofs.YtekmdkfbdcamdaaDoor
