/- What slices.Clone, slices.Grow and slices.Concat answer, of marks. -/
import Derived.Test.YtcmoajlcmeimiaaDoorNe
import Derived.Lib.AppendZeros
namespace Go.Proofs.YtcmoajlcmeimiaaDoor
namespace Nf
set_option linter.unusedVariables false
open Go.ChangeShapes Go.WideShapes Go.ChangeAt Go.RowKit Cm Ka Kb Na Nb Nc Nd Nse
open La (bel bel_drew errV_zero errV_ne own_ge own_grow own_below)

theorem infoMark : (Tryd.prog.info? 26).map (fun i => (i.zero, i.size, i.bytes)) = some (some (.agg #[.string ⟨#[]⟩, .int .i64 0, .int .i64 0]), 3, 32) := by kernel_rfl

/- leafs that lie behind a slice's address -/
def Part (w : World) (v : Value) (l : List Mk) : Prop := (v = .slice none 0 0 ∧ l = []) ∨ ∃ ad c, v = .slice (some ad) l.length c ∧ ∀ i u, (flat l)[i]? = some u → w.cell? (ad.add i) = some u
theorem Part.below {w w' : World} {v : Value} {l : List Mk} (h : Part w v l) (hb : Below w.heap.size w w') : Part w' v l := by
  rcases h with h | ⟨ad, c, h1, h2⟩
  · exact Or.inl h
  · exact Or.inr ⟨ad, c, h1, fun i u hu => (hb.cell (World.block_lt_of_cell? _ _ (h2 i u hu))).trans (h2 i u hu)⟩
theorem Part.len {w : World} {v : Value} {l : List Mk} (h : Part w v l) : ∃ p c, v = .slice p l.length c := by
  rcases h with ⟨rfl, rfl⟩ | ⟨ad, c, rfl, _⟩
  · exact ⟨none, 0, rfl⟩
  · exact ⟨some ad, c, rfl⟩
theorem marks_part {w : World} {b o : Nat} {l : List Mk} (c : Nat) (h : ∀ j, j < l.length → MAt w b o j (l.getD j none1)) : Part w (.slice (some ⟨b, o, none⟩) l.length c) l :=
  Or.inr ⟨_, c, rfl, fun i u hu => by rw [Addr.add_lit]; exact at_flat h i u hu⟩

def cat (L : Nat → List Mk) (k : Nat) : List Mk := (List.range k).flatMap L
theorem cat_succ (L : Nat → List Mk) (k : Nat) : cat L (k + 1) = cat L k ++ L k := by
  unfold cat; rw [List.range_succ, List.flatMap_append]; simp
theorem cat_le {L : Nat → List Mk} {i j : Nat} (h : i ≤ j) : (cat L i).length ≤ (cat L j).length := by
  induction h with
  | refl => exact Nat.le_refl _
  | step _ ih => rw [cat_succ, List.length_append]; omega

set_option maxHeartbeats 1000000 in
theorem clone_any (ad : Addr) (n c : Nat) (l : List Mk) (w : World) (hl : l.length = n) (hn2 : n ≤ 1048576) (hc : ∀ j u, (flat l)[j]? = some u → w.cell? (ad.add j) = some u) :
    Calls Tryd.prog 39 #[.slice (some ad) n c] w fun e w' => ∃ v, e = .returned v ∧ w'.ownsRow w.heap.size 26 3 v n (flat l) ∧ Below w.heap.size w w' := by
  obtain ⟨i0, hi, hz0, hz1, hz2⟩ := info_parts infoMark
  have HN : Hid (∀ j u, (flat l)[j]? = some u → (w.alloc (.cells #[] 26)).cell? (ad.add j) = some u) := by
    intro j u hu
    exact keep_cell ((Below.refl _ w).alloc (Nat.le_refl _) _) (hc j u hu)
  have HL : Hid (l.length = n) := hl
  have HO : Hid ((w.alloc (.cells #[] 26)).ownsRow w.heap.size 26 3 (.slice (some ⟨w.heap.size, 0, none⟩) 0 0) 0 []) :=
    ⟨rfl, Or.inr ⟨w.heap.size, 0, #[], rfl, Nat.le_refl _, heap_alloc_new w _, Nat.le_refl _, by unfold maxLen; omega, rfl, rfl⟩⟩
  have heq : ∀ (a : Addr) (n c : Nat) (w : World), Sem.run Tryd.prog (binOp .eql 22 (.slice (some a) n c) (.slice none 0 0)) w = .ok (.bool false) w := fun _ _ _ _ => by kernel_rfl
  clear hc hl
  go_enter Tryd.func39, Tryd.ntmps39
  go_wp2_with (at_builtin; refine wpList_append_own_at _ rfl (.tmp 5) (.tmp 6) 22 rfl w.heap.size 26 i0 (.agg #[.string ⟨#[]⟩, .int .i64 0, .int .i64 0]) 3 32 Tryd.underlying22 hi hz0 hz1 hz2 rfl (by decide) (.slice (some ⟨w.heap.size, 0, none⟩) 0 0) 0 [] rfl HO.out ad n c (flat l) rfl (by rw [flat_length, HL.out]) HN.out (flat_one l) (by unfold maxLen; omega) (by omega) (by simp) ?_; intro v' w1 hown' hgrow _ hat; have HOW : Hid (w1.ownsRow w.heap.size 26 3 v' n (flat l)) := (by have h9 := hown'; rw [Nat.zero_add, List.nil_append] at h9; exact h9); have HGR : Hid (Below w.heap.size w w1) := ((Below.refl _ w).alloc (Nat.le_refl _) (.cells #[] 26)).grown hgrow (by simp) (by intro j hj; simp [Value.ownBlock] at hj; omega); clear hown' hgrow hat)
  go_ret
  exact ⟨_, rfl, HOW.out, HGR.out⟩

set_option maxHeartbeats 1000000 in
theorem grow_any (n : Nat) (w : World) (h0 : 0 < n) (hn : n ≤ 1048576) :
    Calls Tryd.prog 68 #[.slice none 0 0, .int .i64 n] w fun e w' => ∃ v, e = .returned v ∧ w'.ownsRow w.heap.size 26 3 v 0 [] ∧ Below w.heap.size w w' := by
  obtain ⟨i0, hi, hz0, hz1, hz2⟩ := info_parts infoMark
  have hr := Lib.run_append_nil_zeros (P := Tryd.prog) w 22 3 22 26 i0 _ .i64 .i64 Tryd.underlying22 Tryd.underlying3 hi hz0 n h0 (by rw [hz1]; decide) (by omega) (by rw [hz2]; omega)
  have hcp := grownCap_le_maxLen w n 0 26 (by unfold maxLen; omega)
  have hcg := grownCap_ge w n 0 26
  obtain ⟨cap, hcap⟩ : ∃ cap, cap = grownCap w n 0 26 := ⟨_, rfl⟩
  rw [← hcap] at hr hcp hcg
  have hcp2 : cap ≤ 9223372036854775807 := by unfold maxLen at hcp; omega
  obtain ⟨cells, hcells⟩ : ∃ cells, cells = Builtin.zeroCells (Value.agg #[.string ⟨#[]⟩, .int .i64 0, .int .i64 0]).cells n ++ Builtin.zeroCells (Value.agg #[.string ⟨#[]⟩, .int .i64 0, .int .i64 0]).cells (cap - n) := ⟨_, rfl⟩
  have hsz : cells.size = cap * 3 := by
    rw [hcells, Array.size_append, size_zeroCells, size_zeroCells]
    have : (Value.agg #[.string ⟨#[]⟩, .int .i64 0, .int .i64 0]).cells.size = 3 := rfl
    rw [this]; omega
  rw [← hcells] at hr
  have HO : Hid ((w.drew.alloc (.cells cells 26)).ownsRow w.heap.size 26 3 (.slice (some ⟨w.heap.size, 0, none⟩) 0 cap) 0 []) :=
    ⟨rfl, Or.inr ⟨w.heap.size, cap, cells, rfl, Nat.le_refl _, heap_alloc_new w.drew _, Nat.zero_le _, hcp, hsz, rfl⟩⟩
  have HB : Hid (Below w.heap.size w (w.drew.alloc (.cells cells 26))) := ((Below.refl _ w).drew).alloc (Nat.le_refl _) _
  have hnz : ¬ (n : Int) < 0 := by omega
  have hnp : (0 : Int) < n := by omega
  clear hcells hcap hcp hsz
  go_enter Tryd.func68, Tryd.ntmps68
  go_wp2_with (at_builtin; refine Lib.wpList_append_run _ rfl _ _ _ _ rfl _ _ rfl rfl _ _ hr ?_)
  go_ret
  exact ⟨_, rfl, HO.out, HB.out⟩

theorem own_cat {w : World} {base : Nat} {t : TypeId} {v : Value} {L : Nat → List Mk} {k : Nat} (h : w.ownsRow base t 3 v ((cat L k).length + (L k).length) (flat (cat L k) ++ flat (L k))) : w.ownsRow base t 3 v (cat L (k + 1)).length (flat (cat L (k + 1))) := by
  rw [cat_succ, List.length_append, flat_append]; exact h

set_option maxRecDepth 100000 in
set_option maxHeartbeats 1000000 in
theorem concat_any (g : Nat) (V : Nat → Value) (L : Nat → List Mk) (w : World) (hV : ∀ j, j < 3 → w.cell? ⟨g, j, none⟩ = some (V j)) (hP : ∀ j, j < 3 → Part w (V j) (L j)) (h0 : 0 < (cat L 3).length) (hn : (cat L 3).length ≤ 1048576) :
    Calls Tryd.prog 40 #[.slice (some ⟨g, 0, none⟩) 3 3] w fun e w' => ∃ v, e = .returned v ∧ w'.ownsRow w.heap.size 26 3 v (cat L 3).length (flat (cat L 3)) ∧ Below w.heap.size w w' := by
  obtain ⟨i0, hi, hz0, hz1, hz2⟩ := info_parts infoMark
  have HV : Hid (∀ j, j < 3 → w.cell? ⟨g, j, none⟩ = some (V j)) := hV
  have HP : Hid (∀ j, j < 3 → Part w (V j) (L j)) := hP
  have HLE : Hid (∀ k, k ≤ 3 → (cat L k).length ≤ (cat L 3).length) := fun k hk => cat_le hk
  obtain ⟨T, hT⟩ : ∃ T, T = (cat L 3).length := ⟨_, rfl⟩
  rw [← hT] at h0 hn HLE ⊢
  have HT : Hid (T = (cat L 3).length) := hT
  clear hV hP hT
  go_enter Tryd.func40, Tryd.ntmps40
  go_wp2
  go_loop [3, 5, 11] (fun s _ i => ∃ (k m : Nat), k ≤ 3 ∧ i = .int .i64 k ∧ s = .int .i64 m ∧ Hid (m = (cat L k).length)) (fun _ _ i => 3 - (intOf i).toNat)
  case atStart => exact ⟨0, 0, by omega, rfl, rfl, rfl⟩
  case round =>
    obtain ⟨k, m, hk, rfl, rfl, HM⟩ := hrel
    have hm : m ≤ 1048576 := by have h1 := HLE.out k hk; have h2 := HM.out; omega
    by_cases hlt : k < 3
    · have hltz : (k : Int) < 3 := by omega
      have d1 := HV.out k hlt
      obtain ⟨p, c, hp⟩ := (HP.out k hlt).len
      obtain ⟨r, hr⟩ : ∃ r, r = (L k).length := ⟨_, rfl⟩
      rw [hp, ← hr] at d1
      have HM2 : Hid (m + r = (cat L (k + 1)).length) := by unfold Hid; rw [cat_succ, List.length_append, HM.out, hr]
      have hmr : m + r ≤ 1048576 := by have h1 := HLE.out (k + 1) hlt; have h2 := HM2.out; omega
      have hneg : ¬ (m : Int) + r < 0 := by omega
      clear hp hr
      go_wp2_with fail
      go_round
      case rel => exact ⟨k + 1, m + r, by omega, by go_num, by go_num, HM2⟩
      case measure => simp [intOf]; omega
    · obtain rfl : k = 3 := by omega
      obtain rfl : m = T := by rw [HT.out]; exact HM.out
      have C := grow_any m w h0 hn
      go_wp2_with fail
      refine C.mono ?_
      rintro e w1 ⟨v1, rfl, ho1, hb1⟩
      have HO1 : Hid (w1.ownsRow w.heap.size 26 3 v1 0 []) := ho1
      have HB1 : Hid (Below w.heap.size w w1) := hb1
      clear C ho1 hb1
      go_wp2_with fail
      go_loopw [6, 8, 27] (fun v _ i wr => ∃ (k : Nat), k ≤ 3 ∧ i = .int .i64 k ∧ Hid (wr.ownsRow w.heap.size 26 3 v (cat L k).length (flat (cat L k))) ∧ Hid (Below w.heap.size w wr)) (fun _ _ i _ => 3 - (intOf i).toNat)
      case atStart => exact ⟨0, by omega, rfl, HO1, HB1⟩
      case round =>
        clear HO1 HB1
        obtain ⟨k, hk, rfl, HO, HB⟩ := hrel
        by_cases hlt : k < 3
        · have hltz : (k : Int) < 3 := by omega
          have hll := HLE.out (k + 1) hlt
          rw [cat_succ, List.length_append] at hll
          have d0 := HV.out k hlt
          have d1 : wr.cell? ⟨g, k, none⟩ = some (V k) := (HB.out.cell (p := ⟨g, k, none⟩) (World.block_lt_of_cell? _ _ d0)).trans d0
          clear d0
          rcases (HP.out k hlt).below HB.out with ⟨hv, hl0⟩ | ⟨ad, c, hv, hcc⟩
          · rw [hv] at d1
            have hap := run_append_owned_none (P := Tryd.prog) (w := wr) w.heap.size 22 22 26 i0 3 Tryd.underlying22 hi u6 _ _ HO.out
            have HO2 : Hid (wr.ownsRow w.heap.size 26 3 u6 (cat L (k + 1)).length (flat (cat L (k + 1)))) := by
              unfold Hid; rw [cat_succ, hl0, List.append_nil]; exact HO.out
            clear hv hl0 hll
            go_wp2_with (at_builtin; refine Lib.wpList_append_run _ rfl _ _ _ _ rfl _ _ rfl rfl _ _ hap ?_)
            go_roundw
            case rel => exact ⟨k + 1, by omega, by go_num, HO2, HB⟩
            case measure => simp [intOf]; omega
          · rw [hv] at d1
            obtain ⟨r, hr⟩ : ∃ r, r = (L k).length := ⟨_, rfl⟩
            rw [← hr] at d1 hll
            have HFL : Hid ((flat (L k)).length = r * 3) := by unfold Hid; rw [flat_length, hr]
            have HCC : Hid (∀ i u, (flat (L k))[i]? = some u → wr.cell? (ad.add i) = some u) := hcc
            have HR : Hid (r = (L k).length) := hr
            clear hv hcc hr
            go_wp2_with (at_builtin; refine wpList_append_own_at _ rfl (.tmp 31) (.tmp 32) 22 rfl w.heap.size 26 i0 (.agg #[.string ⟨#[]⟩, .int .i64 0, .int .i64 0]) 3 32 Tryd.underlying22 hi hz0 hz1 hz2 rfl (by decide) u6 _ _ rfl HO.out ad r c (flat (L k)) rfl HFL.out HCC.out (flat_one _) (by unfold maxLen; omega) (by omega) HB.out.size ?_; intro v' w3 hown' hgrow _ hat; have HB3 : Hid (Below w.heap.size w w3) := (own_grow HO.out HB.out hgrow HB.out.size); have HO3 : Hid (w3.ownsRow w.heap.size 26 3 v' (cat L (k + 1)).length (flat (cat L (k + 1)))) := (by rw [HR.out] at hown'; exact own_cat hown'); clear hown' hgrow hat)
            go_roundw
            case rel => exact ⟨k + 1, by omega, by go_num, HO3, HB3⟩
            case measure => simp [intOf]; omega
        · obtain rfl : k = 3 := by omega
          go_wp2_with fail
          go_ret
          exact ⟨_, rfl, by rw [HT.out]; exact HO.out, HB.out⟩

end Nf
end Go.Proofs.YtcmoajlcmeimiaaDoor
