/- Package find: All. -/
import Derived.Test.YtlmdchpbpgcfmaaGreatF1
import Derived.Test.YtlmdchpbpgcfmaaGreatFn
import Derived.Test.YtlmdchpbpgcfmaaGreatShf
import Derived.OwnWalk
import Derived.Laws.OwnMore
import Derived.Maps.AppendAt
namespace Go.Proofs.YtlmdchpbpgcfmaaGreat
namespace F2
set_option linter.unusedVariables false
set_option linter.unusedSimpArgs false
open Go.ChangeShapes Go.WideShapes Go.ChangeAt Go.RowKit Ka Kb Fi F1 Fnn

/- the library's number of how long a part it seeks by itself: some number -/
def ML (w : World) : Prop := ∃ m, w.cell? ⟨0, 0, none⟩ = some (.int .i64 m)
theorem ML.below {w w' : World} (h : ML w) (hb : Below w.heap.size w w') : ML w' := by
  obtain ⟨m, h⟩ := h
  exact ⟨m, (hb.cell (p := ⟨0, 0, none⟩) (World.block_lt_of_cell? _ _ h)).trans h⟩
theorem ext_drop (t : ByteArray) (q : Nat) : (t.extract q t.size).data.toList = t.toList.drop q := by
  rw [Lib.extract_to_end, ByteArray.toList_eq]
def allE (t p : ByteArray) : Int := if 300 < t.size ∨ 200 < p.size then 4 else if p.size = 0 then 3 else 0
def allR (t p : ByteArray) : List Nat := if allE t p = 0 then all t.toList p.toList else []
theorem nil_of {p : ByteArray} (h : p.size = 0) : p = ⟨#[]⟩ := by
  cases p with
  | mk d =>
    have : d.size = 0 := h
    rw [Array.eq_empty_of_size_eq_zero this]

theorem all_full (t p : ByteArray) (w : World) (hts : t.size ≤ maxLen) (hps : p.size ≤ maxLen) (h : 300 < t.size ∨ 200 < p.size) :
    Calls Tryz.prog 4 #[.string t, .string p] w fun e w' => e = .returned (.tuple #[.slice none 0 0, .iface 47 (.int .i64 4)]) ∧ w' = w := by
  unfold maxLen at hts hps
  by_cases h1 : 300 < t.size
  · have h1z : (300 : Int) < t.size := by omega
    go_enter Tryz.func4, Tryz.ntmps4
    go_wp2_with fail
    go_ret2
    exact ⟨rfl, rfl⟩
  · have h1z : ¬ (300 : Int) < t.size := by omega
    have h2z : (200 : Int) < p.size := by omega
    go_enter Tryz.func4, Tryz.ntmps4
    go_wp2_with fail
    go_ret2
    exact ⟨rfl, rfl⟩
theorem all_empty (t : ByteArray) (w : World) (h : t.size ≤ 300) :
    Calls Tryz.prog 4 #[.string t, .string ⟨#[]⟩] w fun e w' => e = .returned (.tuple #[.slice none 0 0, .iface 47 (.int .i64 3)]) ∧ w' = w := by
  have h1z : ¬ (300 : Int) < t.size := by omega
  go_enter Tryz.func4, Tryz.ntmps4
  go_wp2_with fail
  go_ret2
  exact ⟨rfl, rfl⟩

set_option maxRecDepth 100000 in
set_option maxHeartbeats 2000000 in
theorem all_is (t p : ByteArray) (w : World) (hM : ML w) (ht3 : t.size ≤ 300) (hp2 : p.size ≤ 200) (hp0 : p.size ≠ 0) :
    Calls Tryz.prog 4 #[.string t, .string p] w fun e w' => ∃ v, e = .returned (.tuple #[v, .nilIface]) ∧ w'.ownsRow w.heap.size 3 1 v (all t.toList p.toList).length (intsV (all t.toList p.toList)) ∧ Below w.heap.size w w' := by
  obtain ⟨i0, hi, hz0, hz1, hz2⟩ := info_parts infoInt
  have HTL : Hid (t.toList.length = t.size ∧ p.toList.length = p.size) := ⟨len_eq t, len_eq p⟩
  have HP0 : Hid (p.toList ≠ []) := fun e => hp0 (by rw [← len_eq, e]; rfl)
  have hpos : 0 < p.size := by omega
  have h1z : ¬ (300 : Int) < t.size := by omega
  have h2z : ¬ (200 : Int) < p.size := by omega
  have h3b : (p.toList == []) = false := by simpa using HP0.out
  have HM : Hid (ML w) := hM
  clear hM hp0
  go_enter Tryz.func4, Tryz.ntmps4
  go_wp2_with fail
  go_loopw [6, 7] (fun vo vf wr => ∃ (q : Nat) (L : List Nat), q ≤ t.size ∧ vf = .int .i64 q ∧ L.length ≤ q ∧ Hid (wr.ownsRow w.heap.size 3 1 vo L.length (intsV L)) ∧ Hid (all t.toList p.toList = L ++ allF t.toList p.toList (t.toList.length + 1) q) ∧ Hid (Below w.heap.size w wr)) (fun _ vf _ => t.size + 1 - (intOf vf).toNat)
  case atStart => exact ⟨0, [], by omega, rfl, by simp, ⟨rfl, Or.inl ⟨rfl, rfl⟩⟩, rfl, Below.refl _ _⟩
  case round =>
    obtain ⟨q, L, hqt, rfl, hLq, HO, HA, HB⟩ := hrel
    obtain ⟨m, hm⟩ := HM.out.below HB.out
    have C := Tryz.strings_Index (t.extract q t.size) p m wr (by rw [ByteArray.size_extract]; omega) hm
    rw [ext_drop, ← ByteArray.toList_eq] at C
    clear hm
    have hqz : (q : Int) ≤ (t.size : Int) := by omega
    rcases first_or (t.toList.drop q) p.toList HP0.out with ⟨hk, _⟩ | ⟨k, hk, _⟩
    · have HE : Hid (all t.toList p.toList = L) := by rw [Hid, HA.out, next_none HP0.out hk, List.append_nil]
      rw [hk] at C
      clear hk
      go_wp2_with fail
      refine C.mono ?_
      rintro e w2 ⟨rfl, rfl⟩
      clear C
      go_wp2_with fail
      go_ret2
      exact ⟨_, rfl, by rw [HE.out]; exact HO.out, HB.out⟩
    · obtain ⟨hle, hnx⟩ := next_some HP0.out hk
      have hle2 : q + k + p.size ≤ t.size := by rw [← HTL.out.1, ← HTL.out.2]; exact hle
      have HA2 : Hid (all t.toList p.toList = (L ++ [q + k]) ++ allF t.toList p.toList (t.toList.length + 1) (q + k + p.size)) := by
        rw [Hid, HA.out, hnx, HTL.out.2]; simp
      rw [hk] at C
      clear hk hle hnx
      go_wp2_with fail
      refine C.mono ?_
      rintro e w2 ⟨rfl, rfl⟩
      clear C
      have hqk : (q : Int) + (k : Int) = ((q + k : Nat) : Int) := by omega
      have hqn : (0 : Int) ≤ (k : Int) := by omega
      have hqm : ¬ (k : Int) < 0 := by omega
      have HN : Hid (∀ j u, ([.int .i64 ((q : Int) + (k : Int))] : List Value)[j]? = some u → (w2.alloc (.cells #[.int .i64 ((q : Int) + (k : Int))] 3)).cell? ((⟨w2.heap.size, 0, none⟩ : Addr).add j) = some u) := by
        intro j u hu
        rw [Addr.add_lit, Nat.zero_add]
        simp only [World.cell?, heap_alloc_new]
        simpa using hu
      have HO2 : Hid ((w2.alloc (.cells #[.int .i64 ((q : Int) + (k : Int))] 3)).ownsRow w.heap.size 3 1 u6 L.length (intsV L)) := HO.out.alloc _
      have HQK : Hid ((q : Int) + (k : Int) = ((q + k : Nat) : Int)) := hqk
      clear hqk
      go_wp2_with (at_builtin; refine wpList_append_own_at _ rfl (.tmp 29) (.tmp 33) 23 rfl w.heap.size 3 i0 (.int .i64 0) 1 8 Tryz.underlying23 hi hz0 hz1 hz2 rfl (by decide) _ L.length (intsV L) rfl HO2.out ⟨w2.heap.size, 0, none⟩ 1 1 [.int .i64 ((q : Int) + (k : Int))] rfl rfl HN.out (by intro u hu; simp at hu; subst hu; rfl) (by unfold maxLen; omega) (by omega) (by have := HB.out.size; simp; omega) ?_; intro v' w3 hown' hgrow _ hat2; have HO3 : Hid (w3.ownsRow w.heap.size 3 1 v' (L ++ [q + k]).length (intsV (L ++ [q + k]))) := (by unfold intsV; rw [HQK.out] at hown'; rw [List.length_append, List.map_append]; exact hown'); have HB3 : Hid (Below w.heap.size w w3) := (HB.out.alloc HB.out.size _).grown hgrow (by have := HB.out.size; simp; omega) (fun k hk => (HO2.out.lt k hk).1); clear hown' hgrow hat2)
      go_roundw
      case rel => exact ⟨q + k + p.size, L ++ [q + k], by omega, by go_num, by rw [List.length_append, List.length_singleton]; omega, HO3, HA2, HB3⟩
      case measure => simp [intOf]; omega

theorem own_nil (w : World) (B : Nat) : w.ownsRow B 3 1 (.slice none 0 0) 0 [] := ⟨rfl, Or.inl ⟨rfl, rfl⟩⟩
theorem all_any (t p : ByteArray) (w : World) (hM : ML w) (hts : t.size ≤ maxLen) (hps : p.size ≤ maxLen) :
    Calls Tryz.prog 4 #[.string t, .string p] w fun e w' => ∃ v, e = .returned (.tuple #[v, errV (allE t p)]) ∧ w'.ownsRow w.heap.size 3 1 v (allR t p).length (intsV (allR t p)) ∧ Below w.heap.size w w' := by
  by_cases h1 : 300 < t.size ∨ 200 < p.size
  · have e4 : allE t p = 4 := by unfold allE; rw [if_pos h1]
    have hR : allR t p = [] := by unfold allR; rw [e4, if_neg (by decide)]
    rw [e4, hR]
    refine (all_full t p w hts hps h1).mono ?_
    rintro e w' ⟨rfl, rfl⟩
    exact ⟨_, rfl, own_nil _ _, Below.refl _ _⟩
  · by_cases h2 : p.size = 0
    · have e3 : allE t p = 3 := by unfold allE; rw [if_neg h1, if_pos h2]
      have hR : allR t p = [] := by unfold allR; rw [e3, if_neg (by decide)]
      rw [e3, hR]
      obtain rfl := nil_of h2
      refine (all_empty t w (by omega)).mono ?_
      rintro e w' ⟨rfl, rfl⟩
      exact ⟨_, rfl, own_nil _ _, Below.refl _ _⟩
    · have e0 : allE t p = 0 := by unfold allE; rw [if_neg h1, if_neg h2]
      have hR : allR t p = all t.toList p.toList := by unfold allR; rw [e0, if_pos rfl]
      rw [e0, hR]
      exact all_is t p w hM (by omega) (by omega) h2

end F2
end Go.Proofs.YtlmdchpbpgcfmaaGreat
