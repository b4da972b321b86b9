/- What Unpack answers. -/
import Derived.Test.YtcmoajlcmeimiaaDoorVm
namespace Go.Proofs.YtcmoajlcmeimiaaDoor
namespace Vn
set_option linter.unusedVariables false
open Go.ChangeShapes Go.WideShapes Go.ChangeAt Go.RowKit Cm Ka Kb Na Om Oa Oz Oc Og Oi Ov Va Vb Vc Vd Ve Vf Vg Vh Vi Vj Vk Vl Vm
open La (bel bel_drew errV_zero errV_ne own_ge own_grow own_below)

theorem one_block {w w2 : World} {A : Array Value} {t : TypeId} (hb : Below (w.alloc (.cells A t)).heap.size (w.alloc (.cells A t)) w2) :
    w2.heap[w.heap.size]? = some (.cells A t (0, 0)) ∧ Below w.heap.size w w2 ∧ (w.alloc (.cells A t)).heap.size = w.heap.size + 1 := by
  refine ⟨?_, bel ((Below.refl _ w).alloc (Nat.le_refl _) _) hb, by simp⟩
  rw [hb.block _ (by simp)]
  exact heap_alloc_new w _
theorem reads_no {s : ByteArray} {W : World} (hn : unpB s.toList = none) (hs : s.size ≤ maxLen) : Calls Tryd.prog 63 #[.string s] W fun e w' => e = .panicked SynP ∧ Below W.heap.size W w' := by
  refine (readOps_any s W hs).mono ?_
  rintro e w' (⟨_, h2, h3⟩ | ⟨l, p, n, c, h1, _⟩)
  · exact ⟨h2, h3⟩
  · rw [hn] at h1; cases h1
theorem reads_yes {s : ByteArray} {W : World} {l : List Ox} (hn : unpB s.toList = some l) (hs : s.size ≤ maxLen) : Calls Tryd.prog 63 #[.string s] W fun e w' => ∃ p n c, e = .returned (.slice p n c) ∧ (∀ W2 : World, (∀ k, W.heap.size ≤ k → k < w'.heap.size → W2.heap[k]? = w'.heap[k]?) → OpsAt W2 (.slice p n c) l) ∧ Below W.heap.size W w' := by
  refine (readOps_any s W hs).mono ?_
  rintro e w' (⟨h1, _⟩ | ⟨l2, p, n, c, h1, h2, h3, h4⟩)
  · rw [hn] at h1; cases h1
  · rw [hn] at h1
    injection h1 with h1
    subst h1
    exact ⟨_, _, _, h2, h3, h4⟩
set_option maxRecDepth 100000 in
set_option maxHeartbeats 2000000 in
theorem unpack_none (s : ByteArray) (w : World) (hs : s.size ≤ maxLen) (hn : unpB s.toList = none) :
    Calls Tryd.prog 31 #[.string s] w fun e w' => ∃ v, e = .returned (.tuple #[v, errV 2]) ∧ OpsAt w' v [] ∧ Below w.heap.size w w' := by
  have hmf : ∀ (fn : Fn) (first cap : Array Value) (w : World), (Instr.makeFunc fn first cap).run Tryd.prog w = .ok (.func fn first cap) w := fun _ _ _ _ => rfl
  have C := fun W => reads_no (W := W) hn hs
  clear hn
  go_enter_defers Tryd.func31, Tryd.ntmps31
  go_wp2_with fail
  refine (C _).mono ?_
  rintro e w2 ⟨rfl, hb2⟩
  obtain ⟨he, hbw, _⟩ := one_block hb2
  clear hb2 C
  go_wp2_with fail
  refine leaves_cons (f := 62) (args := #[.pointer (some ⟨w.heap.size, 0, none⟩)]) (by simp) (by simp [go_sem]) ?_
  refine (panics_unp w.heap.size _ [] w2 he).mono ?_
  rintro e u' w3 ⟨rfl, rfl, hw3⟩
  have h2 : w3.heap[w.heap.size]? = some (.cells #[.iface 74 (.int .i64 2)] 31 (0, 0)) := by
    rw [hw3]; exact setCell_heap (cur := #[.nilIface]) he
  have hb3 : Below w.heap.size w w3 := by
    rw [hw3]; exact hbw.setCell (p := ⟨w.heap.size, 0, none⟩) (by simp) _
  have r6 : w3.cell? ⟨w.heap.size, 0, none⟩ = some (.iface 74 (.int .i64 2)) := cell_of h2 rfl
  clear hw3
  refine ⟨.tuple #[.slice none 0 0, errV 2], ?_, _, rfl, OpsAt.nil _, hb3⟩
  simp [results, Tryd.results31, go_sem, asAddr, Result.andThen, r6]
  rfl
set_option maxRecDepth 100000 in
set_option maxHeartbeats 2000000 in
theorem unpack_some (s : ByteArray) (w : World) (l : List Ox) (hs : s.size ≤ maxLen) (hn : unpB s.toList = some l) :
    Calls Tryd.prog 31 #[.string s] w fun e w' => ∃ v, e = .returned (.tuple #[v, errV 0]) ∧ OpsAt w' v l ∧ Below w.heap.size w w' := by
  have hmf : ∀ (fn : Fn) (first cap : Array Value) (w : World), (Instr.makeFunc fn first cap).run Tryd.prog w = .ok (.func fn first cap) w := fun _ _ _ _ => rfl
  have C := fun W => reads_yes (W := W) hn hs
  clear hn
  go_enter_defers Tryd.func31, Tryd.ntmps31
  go_wp2_with fail
  refine (C _).mono ?_
  rintro e w2 ⟨p, n, cc, rfl, hk, hb2⟩
  obtain ⟨he, hbw, hsz⟩ := one_block hb2
  have HK : Hid (∀ W : World, (∀ k, w.heap.size + 1 ≤ k → k < w2.heap.size → W.heap[k]? = w2.heap[k]?) → OpsAt W (.slice p n cc) l) := by
    intro W hW
    refine hk W (fun k h1 h2 => hW k ?_ h2)
    simp at h1; omega
  have HE : Hid (w2.heap[w.heap.size]? = some (.cells #[.nilIface] 31 (0, 0))) := he
  have HB : Hid (Below w.heap.size w w2) := hbw
  have r6 : w2.cell? ⟨w.heap.size, 0, none⟩ = some .nilIface := cell_of he rfl
  have f6 : w2.frozen? ⟨w.heap.size, 0, none⟩ = false := free_of he
  clear hb2 C hk he hbw hsz
  go_wp2_with fail
  obtain ⟨w4, hw4⟩ : ∃ w4, w4 = w2.setCell ⟨w.heap.size, 0, none⟩ .nilIface := ⟨_, rfl⟩
  have k2 : w4.heap[w.heap.size]? = some (.cells #[.nilIface] 31 (0, 0)) := by
    rw [hw4]; exact setCell_heap (cur := #[.nilIface]) HE.out
  have k3 : Below w.heap.size w w4 := by
    rw [hw4]; exact HB.out.setCell (p := ⟨w.heap.size, 0, none⟩) (by simp) _
  have k4 : ∀ k, w.heap.size + 1 ≤ k → w4.heap[k]? = w2.heap[k]? := by
    intro k hk
    rw [hw4, set_block _ _ _ _ (by simp; omega)]
  rw [← hw4]
  clear hw4 r6 f6
  refine leaves_cons (f := 62) (args := #[.pointer (some ⟨w.heap.size, 0, none⟩)]) (by simp) (by simp [go_sem]) ?_
  refine (idle_unp w.heap.size _ w4 k2).mono ?_
  rintro e u' w5 ⟨rfl, rfl, hw5⟩
  have h2 : w5.heap[w.heap.size]? = some (.cells #[.nilIface] 31 (0, 0)) := by
    rw [hw5]; exact setCell_heap (cur := #[.nilIface]) k2
  have h3 : Below w.heap.size w w5 := by
    rw [hw5]; exact k3.setCell (p := ⟨w.heap.size, 0, none⟩) (by simp) _
  have h4 : OpsAt w5 (.slice p n cc) l := by
    refine HK.out w5 (fun k hk _ => ?_)
    rw [hw5, set_block _ _ _ _ (by simp; omega)]
    exact k4 k hk
  have r6 : w5.cell? ⟨w.heap.size, 0, none⟩ = some .nilIface := cell_of h2 rfl
  clear hw5
  refine ⟨.tuple #[.slice p n cc, errV 0], ?_, _, rfl, h4, h3⟩
  simp [results, Tryd.results31, go_sem, asAddr, Result.andThen, r6]
  rfl
theorem unpack_says : UnpackSays := by
  intro s w hs
  cases hn : unpB s.toList with
  | none =>
    have e : unpE s = 2 := by unfold unpE; rw [hn]; rfl
    rw [e]
    exact unpack_none s w hs hn
  | some l =>
    have e : unpE s = 0 := by unfold unpE; rw [hn]; rfl
    rw [e]
    exact unpack_some s w l hs hn

end Vn
end Go.Proofs.YtcmoajlcmeimiaaDoor
