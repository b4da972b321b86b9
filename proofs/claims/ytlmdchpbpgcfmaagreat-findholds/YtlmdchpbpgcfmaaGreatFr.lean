/- The reference's Cut, at a blank. -/
import Derived.Test.YtlmdchpbpgcfmaaGreatFn
import Derived.Lib.IndexBytes
import Derived.Lib.Strings
namespace Go.Proofs.YtlmdchpbpgcfmaaGreat
namespace Fr
set_option linter.unusedVariables false
open Go.ChangeShapes Go.WideShapes Go.ChangeAt Go.RowKit Ka Kb

theorem infoString : (Tryz.prog.info? 9).map (fun i => (i.zero, i.size, i.bytes)) = some (some (.string ByteArray.empty), 1, 16) := by kernel_rfl
theorem own_ge {w : World} {base : Nat} {t : TypeId} {v : Value} {n : Nat} {xs : List Value} (h : w.ownsRow base t 1 v n xs) : ∀ k, v.ownBlock = some k → base ≤ k := by
  intro k hk
  rcases h.2 with ⟨rfl, _⟩ | ⟨g, cap, cur, rfl, hg, _⟩
  · cases hk
  · simp [Value.ownBlock] at hk; omega
theorem own_cells {w : World} {base : Nat} {t : TypeId} {v : Value} {n : Nat} {xs : List Value} (h : w.ownsRow base t 1 v n xs) (hn : 0 < n) :
    ∃ g cap, v = .slice (some ⟨g, 0, none⟩) n cap ∧ ∀ j u, xs[j]? = some u → w.cell? ⟨g, 0 + j, none⟩ = some u := by
  rcases h.2 with ⟨_, h0⟩ | ⟨g, cap, cur, rfl, hg, hh, h3, h4, h5, h6⟩
  · omega
  · refine ⟨g, cap, rfl, fun j u hu => ?_⟩
    have hj : j < n := by
      have := (List.getElem?_eq_some_iff.1 hu).1
      have h1 := h.1
      omega
    rw [← h6, Nat.mul_one, List.getElem?_take_of_lt hj] at hu
    rw [Nat.zero_add]
    simp only [World.cell?, hh]
    simpa using hu
/- one more behind -/
theorem own_grow {w wr w1 : World} {t : TypeId} {v x : Value} {n : Nat} {xs : List Value} (h : wr.ownsRow w.heap.size t 1 v n xs) (hb : Below w.heap.size w wr) (hg : (wr.alloc (.cells #[x] t)).grownBy w1 v.ownBlock) : Below w.heap.size w w1 :=
  (hb.alloc hb.size (.cells #[x] t)).grown hg (by have := hb.size; simp; omega) (own_ge h)

theorem own_more {w1 : World} {B : Nat} {t : TypeId} {v' : Value} {ps : List ByteArray} {x : ByteArray} (h : w1.ownsRow B t 1 v' (ps.length + 1) (ps.map Value.string ++ [.string x])) : w1.ownsRow B t 1 v' (ps ++ [x]).length ((ps ++ [x]).map Value.string) := by
  rw [List.length_append, List.map_append]; exact h

theorem drop_piece {l : List UInt8} {q k : Nat} (hq : q ≤ k) (hk : k < l.length) : l.drop q = (l.drop q).take (k - q) ++ l[k] :: l.drop (k + 1) := by
  conv => lhs; rw [← List.take_append_drop (k - q) (l.drop q)]
  congr 1
  rw [List.drop_drop, show q + (k - q) = k by omega, List.drop_eq_getElem_cons hk]
theorem take_more {l : List UInt8} {q k : Nat} (hq : q ≤ k) (hk : k < l.length) : (l.drop q).take (k + 1 - q) = (l.drop q).take (k - q) ++ [l[k]] := by
  rw [show k + 1 - q = (k - q) + 1 by omega, List.take_succ_eq_append_getElem (by simp; omega)]
  congr 2
  rw [List.getElem_drop]
  congr 1; omega

theorem cut_step {s : ByteArray} {ps : List ByteArray} {q k : Nat} (hq : q ≤ k) (hk : k < s.size) (hc : s[k] = 32) (hcut : ps.map (fun b => b.data.toList) ++ Fi.cutC 32 (s.data.toList.drop q) = Fi.cutC 32 s.data.toList) (hno : (32 : UInt8) ∉ (s.data.toList.drop q).take (k - q)) :
    (ps ++ [s.extract q k]).map (fun b => b.data.toList) ++ Fi.cutC 32 (s.data.toList.drop (k + 1)) = Fi.cutC 32 s.data.toList := by
  have h1 : k < s.data.toList.length := hk
  have h2 : s.data.toList[k]'h1 = s[k] := rfl
  have e := drop_piece hq h1
  rw [h2, hc] at e
  have e2 : Fi.cutC 32 (s.data.toList.drop q) = (s.data.toList.drop q).take (k - q) :: Fi.cutC 32 (s.data.toList.drop (k + 1)) := by
    conv => lhs; rw [e]
    exact Fi.cutC_app _ _ hno
  rw [← hcut, e2, List.map_append, List.append_assoc]
  simp only [List.map_cons, List.map_nil, Lib.extract_data, List.cons_append, List.nil_append]
theorem cut_end {s : ByteArray} {ps : List ByteArray} {q k : Nat} (hk : s.size ≤ k) (hcut : ps.map (fun b => b.data.toList) ++ Fi.cutC 32 (s.data.toList.drop q) = Fi.cutC 32 s.data.toList) (hno : (32 : UInt8) ∉ (s.data.toList.drop q).take (k - q)) :
    (ps ++ [s.extract q s.size]).map (fun b => b.data.toList) = Fi.cutC 32 s.data.toList := by
  have h1 : s.data.toList.length = s.size := rfl
  have h2 : (32 : UInt8) ∉ s.data.toList.drop q := by
    rwa [List.take_of_length_le (by rw [List.length_drop, h1]; omega)] at hno
  rw [← hcut, Fi.cutC_none _ h2, List.map_append]
  simp only [List.map_cons, List.map_nil, Lib.extract_to_end]

set_option maxRecDepth 100000 in
set_option maxHeartbeats 1000000 in
theorem cut_any (s : ByteArray) (w : World) (hs : s.size ≤ 1048576) :
    Calls Tryz.prog 7 #[.string s, .int .u8 32] w fun e w' => ∃ g cap, ∃ ws : List ByteArray, e = .returned (.slice (some ⟨g, 0, none⟩) ws.length cap) ∧ ws.map (fun b => b.data.toList) = Fi.cutC 32 s.data.toList ∧ (∀ j, j < ws.length → w'.cell? ⟨g, 0 + j, none⟩ = some (.string (ws.getD j ByteArray.empty))) ∧ Below w.heap.size w w' := by
  obtain ⟨i0, hi, hz0, hz1, hz2⟩ := info_parts infoString
  go_enter Tryz.func7, Tryz.ntmps7
  go_wp2
  go_loopw [5, 6, 7] (fun v f i wr => ∃ (k q : Nat) (ps : List ByteArray), q ≤ k ∧ k ≤ s.size ∧ i = .int .i64 k ∧ f = .int .i64 q ∧ ps.length ≤ k ∧ Hid (ps.map (fun b => b.data.toList) ++ Fi.cutC 32 (s.data.toList.drop q) = Fi.cutC 32 s.data.toList) ∧ Hid ((32 : UInt8) ∉ (s.data.toList.drop q).take (k - q)) ∧ Hid (wr.ownsRow w.heap.size 9 1 v ps.length (ps.map Value.string)) ∧ Hid (Below w.heap.size w wr)) (fun _ _ i _ => s.size - (intOf i).toNat)
  case atStart => exact ⟨0, 0, [], by omega, by omega, rfl, rfl, by simp, rfl, by unfold Hid; simp, World.ownsRow_nil _ _ _ _, Below.refl _ _⟩
  case round =>
    obtain ⟨k, q, ps, hqk, hk, rfl, rfl, hps, HCUT, HNO, HOWN, HBE⟩ := hrel
    by_cases hlt : k < s.size
    · have hb : s[k].toNat < 256 := UInt8.toNat_lt _
      have HLK : Hid (∃ h : k < s.data.toList.length, s.data.toList[k]'h = s[k]) := ⟨hlt, rfl⟩
      have HEX : Hid ((s.extract q k).data.toList = (s.data.toList.drop q).take (k - q)) := Lib.extract_data s q k
      cases h32 : ((s[k].toNat : Int) == 32)
      case false =>
        have HNO2 : Hid ((32 : UInt8) ∉ (s.data.toList.drop q).take (k + 1 - q)) := by
          obtain ⟨h1, h2⟩ := HLK.out
          unfold Hid
          rw [take_more hqk h1, h2]
          intro hm
          rcases List.mem_append.1 hm with hm | hm
          · exact HNO.out hm
          · have : (32 : UInt8) = s[k] := by simpa using hm
            rw [← this] at h32
            exact absurd h32 (by decide)
        go_wp2
        go_roundw
        case rel => exact ⟨k + 1, q, ps, by omega, by omega, by go_num, rfl, by omega, HCUT, HNO2, HOWN, HBE⟩
        case measure => simp [intOf]; omega
      case true =>
        have HCUT2 : Hid ((ps ++ [s.extract q k]).map (fun b => b.data.toList) ++ Fi.cutC 32 (s.data.toList.drop (k + 1)) = Fi.cutC 32 s.data.toList) := by
          have hc : s[k] = 32 := by
            apply UInt8.toNat_inj.1
            have : (s[k].toNat : Int) = 32 := by simpa using h32
            have h2 : (32 : UInt8).toNat = 32 := rfl
            omega
          exact cut_step hqk hlt hc HCUT.out HNO.out
        go_wp2_with (at_builtin; refine wpList_append_own_at _ rfl (.tmp 19) (.tmp 24) 28 rfl w.heap.size 9 i0 (.string ByteArray.empty) 1 16 Tryz.underlying28 hi hz0 hz1 hz2 rfl (by decide) u5 _ _ rfl (HOWN.out.alloc _) ⟨wr.heap.size, 0, none⟩ 1 1 [.string (s.extract q k)] rfl rfl (cell_one_new _ _ _) (by intro u hu; simp at hu; subst hu; rfl) (by unfold maxLen; omega) (by omega) (by have := HBE.out.size; simp; omega) ?_; intro v' w1 hown' hgrow _ hat; have HB1 : Hid (Below w.heap.size w w1) := own_grow HOWN.out HBE.out hgrow; have HO1 : Hid (w1.ownsRow w.heap.size 9 1 v' (ps ++ [s.extract q k]).length ((ps ++ [s.extract q k]).map Value.string)) := own_more hown'; clear hown' hgrow hat)
        go_roundw
        case rel => exact ⟨k + 1, k + 1, ps ++ [s.extract q k], by omega, by omega, by go_num, by go_num, by simp; omega, HCUT2, by unfold Hid; simp, HO1, HB1⟩
        case measure => simp [intOf]; omega
    · have HCUT2 : Hid ((ps ++ [s.extract q s.size]).map (fun b => b.data.toList) = Fi.cutC 32 s.data.toList) := cut_end (by omega) HCUT.out HNO.out
      go_wp2_with (at_builtin; refine wpList_append_own_at _ rfl (.tmp 28) (.tmp 32) 28 rfl w.heap.size 9 i0 (.string ByteArray.empty) 1 16 Tryz.underlying28 hi hz0 hz1 hz2 rfl (by decide) u5 _ _ rfl (HOWN.out.alloc _) ⟨wr.heap.size, 0, none⟩ 1 1 [.string (s.extract q s.size)] rfl rfl (cell_one_new _ _ _) (by intro u hu; simp at hu; subst hu; rfl) (by unfold maxLen; omega) (by omega) (by have := HBE.out.size; simp; omega) ?_; intro v' w1 hown' hgrow _ hat; have HB1 : Hid (Below w.heap.size w w1) := own_grow HOWN.out HBE.out hgrow; have HO1 : Hid (w1.ownsRow w.heap.size 9 1 v' (ps ++ [s.extract q s.size]).length ((ps ++ [s.extract q s.size]).map Value.string)) := own_more hown'; clear hown' hgrow hat)
      go_ret
      obtain ⟨g, cap, e, hc⟩ := own_cells HO1.out (by simp)
      refine ⟨g, cap, ps ++ [s.extract q s.size], ?_, HCUT2.out, ?_, HB1.out⟩
      · rw [← e]; rfl
      · intro j hj
        refine hc j _ ?_
        rw [List.getElem?_map, List.getElem?_eq_getElem hj, List.getD_eq_getElem?_getD, List.getElem?_eq_getElem hj]; rfl

end Fr
end Go.Proofs.YtlmdchpbpgcfmaaGreat
