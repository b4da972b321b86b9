/- What Decode answers. -/
import Derived.Test.YtcmoajlcmeimiaaDoorVk
namespace Go.Proofs.YtcmoajlcmeimiaaDoor
namespace Vl
set_option linter.unusedVariables false
open Go.ChangeShapes Go.WideShapes Go.ChangeAt Go.RowKit Cm Ka Kb Na Om Oa Oz Oc Og Oi Ov Va Vb Vc Vd Ve Vf Vg Vh Vi Vj Vk
open La (bel bel_drew errV_zero errV_ne own_ge own_grow own_below)

theorem two_blocks {w w2 : World} {A B : Array Value} {t u : TypeId} (hb : Below ((w.alloc (.cells A t)).alloc (.cells B u)).heap.size ((w.alloc (.cells A t)).alloc (.cells B u)) w2) :
    w2.heap[w.heap.size]? = some (.cells A t (0, 0)) ∧ w2.heap[w.heap.size + 1]? = some (.cells B u (0, 0)) ∧ Below w.heap.size w w2 ∧ w.heap.size + 2 ≤ w2.heap.size := by
  refine ⟨?_, ?_, bel (((Below.refl _ w).alloc (Nat.le_refl _) _).alloc (by simp) _) hb, ?_⟩
  · rw [hb.block _ (by simp; omega)]
    have := heap_alloc_old (w.alloc (.cells A t)) (.cells B u) (show w.heap.size < _ by simp)
    exact this.trans (heap_alloc_new w _)
  · rw [hb.block _ (by simp)]
    have := heap_alloc_new (w.alloc (.cells A t)) (.cells B u)
    rwa [show (w.alloc (.cells A t)).heap.size = w.heap.size + 1 by simp] at this
  · have := hb.size
    simp at this
    omega
theorem read_no {s : ByteArray} {W : World} (hn : decB s.toList = none) (hs : s.size ≤ maxLen) : Calls Tryd.prog 60 #[.string s] W fun e w' => e = .panicked SynP ∧ Below W.heap.size W w' := by
  refine (readOp_any s W hs).mono ?_
  rintro e w' (⟨_, h2, h3⟩ | ⟨o, u, h1, _⟩)
  · exact ⟨h2, h3⟩
  · rw [hn] at h1; cases h1
theorem read_yes {s : ByteArray} {W : World} {o : Ox} (hn : decB s.toList = some o) (hs : s.size ≤ maxLen) : Calls Tryd.prog 60 #[.string s] W fun e w' => ∃ p n c, e = .returned (opV o (.slice p n c)) ∧ Kept W.heap.size w' (opV o (.slice p n c)) o ∧ Below W.heap.size W w' := by
  refine (readOp_any s W hs).mono ?_
  rintro e w' (⟨h1, _⟩ | ⟨o2, u, h1, h2, h3, h4⟩)
  · rw [hn] at h1; cases h1
  · rw [hn] at h1
    injection h1 with h1
    subst h1
    obtain ⟨v, hv, hd⟩ := h3.now
    obtain ⟨p, c, hv2, _⟩ := hd
    subst hv2
    subst hv
    exact ⟨_, _, _, h2, h3, h4⟩
set_option maxRecDepth 100000 in
set_option maxHeartbeats 2000000 in
theorem decode_none (s : ByteArray) (w : World) (hs : s.size ≤ maxLen) (hn : decB s.toList = none) :
    Calls Tryd.prog 26 #[.string s] w fun e w' => ∃ u, e = .returned (.tuple #[u, errV 2]) ∧ OpV w' u oz ∧ Below w.heap.size w w' := by
  have hmf : ∀ (fn : Fn) (first cap : Array Value) (w : World), (Instr.makeFunc fn first cap).run Tryd.prog w = .ok (.func fn first cap) w := fun _ _ _ _ => rfl
  have C := fun W => read_no (W := W) hn hs
  clear hn
  go_enter_defers Tryd.func26, Tryd.ntmps26
  go_wp2_with fail
  refine (C _).mono ?_
  rintro e w2 ⟨rfl, hb2⟩
  obtain ⟨hr, he, hbw, _⟩ := two_blocks hb2
  clear hb2 C
  go_wp2_with fail
  refine leaves_cons (f := 58) (args := #[.pointer (some ⟨w.heap.size + 1, 0, none⟩)]) (by simp) (by simp [go_sem]) ?_
  refine (panics_dec (w.heap.size + 1) _ [] w2 he).mono ?_
  rintro e u' w3 ⟨rfl, rfl, hw3⟩
  have h1 : w3.heap[w.heap.size]? = some (.cells #[.int .i64 0, .int .i64 0, .int .i64 0, .string ⟨#[]⟩, .int .i64 0, .slice none 0 0] 53 (0, 0)) := by
    rw [hw3, set_block _ _ _ _ (by simp)]; exact hr
  have h2 : w3.heap[w.heap.size + 1]? = some (.cells #[.iface 74 (.int .i64 2)] 31 (0, 0)) := by
    rw [hw3]; exact setCell_heap (cur := #[.nilIface]) he
  have hb3 : Below w.heap.size w w3 := by
    rw [hw3]; exact hbw.setCell (p := ⟨w.heap.size + 1, 0, none⟩) (by simp) _
  have r0 : w3.cell? ⟨w.heap.size, 0, none⟩ = some (.int .i64 0) := cell_of h1 rfl
  have r1 : w3.cell? ⟨w.heap.size, 1, none⟩ = some (.int .i64 0) := cell_of h1 rfl
  have r2 : w3.cell? ⟨w.heap.size, 2, none⟩ = some (.int .i64 0) := cell_of h1 rfl
  have r3 : w3.cell? ⟨w.heap.size, 3, none⟩ = some (.string ⟨#[]⟩) := cell_of h1 rfl
  have r4 : w3.cell? ⟨w.heap.size, 4, none⟩ = some (.int .i64 0) := cell_of h1 rfl
  have r5 : w3.cell? ⟨w.heap.size, 5, none⟩ = some (.slice none 0 0) := cell_of h1 rfl
  have r6 : w3.cell? ⟨w.heap.size + 1, 0, none⟩ = some (.iface 74 (.int .i64 2)) := cell_of h2 rfl
  clear hw3
  refine ⟨.tuple #[opV oz (.slice none 0 0), errV 2], ?_, _, rfl, ⟨_, rfl, DtsAt.nil _⟩, hb3⟩
  simp [results, Tryd.results26, opV, oz, go_sem, asAddr, Result.andThen, r0, r1, r2, r3, r4, r5, r6]
  exact ⟨rfl, rfl⟩
set_option maxRecDepth 100000 in
set_option maxHeartbeats 2000000 in
theorem decode_some (s : ByteArray) (w : World) (o : Ox) (hs : s.size ≤ maxLen) (hn : decB s.toList = some o) :
    Calls Tryd.prog 26 #[.string s] w fun e w' => ∃ u, e = .returned (.tuple #[u, errV 0]) ∧ OpV w' u o ∧ Below w.heap.size w w' := by
  have hmf : ∀ (fn : Fn) (first cap : Array Value) (w : World), (Instr.makeFunc fn first cap).run Tryd.prog w = .ok (.func fn first cap) w := fun _ _ _ _ => rfl
  have C := fun W => read_yes (W := W) hn hs
  obtain ⟨⟨a, b⟩, t, P, c, sn⟩ := o
  unfold opV at C
  simp only at C
  clear hn
  go_enter_defers Tryd.func26, Tryd.ntmps26
  go_wp2_with fail
  refine (C _).mono ?_
  rintro e w2 ⟨p, n, cc, rfl, hk, hb2⟩
  obtain ⟨hr, he, hbw, hsz⟩ := two_blocks hb2
  have HK : Hid (∀ W : World, (∀ k, w.heap.size + 2 ≤ k → k < w2.heap.size → W.heap[k]? = w2.heap[k]?) → OpV W (opV ((a, b), t, P, c, sn) (.slice p n cc)) ((a, b), t, P, c, sn)) := by
    intro W hW
    refine hk W (fun k h1 h2 => hW k ?_ h2)
    simp at h1; omega
  have HR : Hid (w2.heap[w.heap.size]? = some (.cells #[.int .i64 0, .int .i64 0, .int .i64 0, .string ⟨#[]⟩, .int .i64 0, .slice none 0 0] 53 (0, 0))) := hr
  have HE : Hid (w2.heap[w.heap.size + 1]? = some (.cells #[.nilIface] 31 (0, 0))) := he
  have HB : Hid (Below w.heap.size w w2) := hbw
  have HZ : Hid (w.heap.size + 2 ≤ w2.heap.size) := hsz
  have r0 : w2.cell? ⟨w.heap.size, 0, none⟩ = some (.int .i64 0) := cell_of hr rfl
  have r1 : w2.cell? ⟨w.heap.size, 1, none⟩ = some (.int .i64 0) := cell_of hr rfl
  have r2 : w2.cell? ⟨w.heap.size, 2, none⟩ = some (.int .i64 0) := cell_of hr rfl
  have r3 : w2.cell? ⟨w.heap.size, 3, none⟩ = some (.string ⟨#[]⟩) := cell_of hr rfl
  have r4 : w2.cell? ⟨w.heap.size, 4, none⟩ = some (.int .i64 0) := cell_of hr rfl
  have r5 : w2.cell? ⟨w.heap.size, 5, none⟩ = some (.slice none 0 0) := cell_of hr rfl
  have f0 : w2.frozen? ⟨w.heap.size, 0, none⟩ = false := free_of hr
  have f1 : w2.frozen? ⟨w.heap.size, 1, none⟩ = false := free_of hr
  have f2 : w2.frozen? ⟨w.heap.size, 2, none⟩ = false := free_of hr
  have f3 : w2.frozen? ⟨w.heap.size, 3, none⟩ = false := free_of hr
  have f4 : w2.frozen? ⟨w.heap.size, 4, none⟩ = false := free_of hr
  have f5 : w2.frozen? ⟨w.heap.size, 5, none⟩ = false := free_of hr
  have r6 : w2.cell? ⟨w.heap.size + 1, 0, none⟩ = some .nilIface := cell_of he rfl
  have f6 : w2.frozen? ⟨w.heap.size + 1, 0, none⟩ = false := free_of he
  clear hb2 C hk hr he hbw hsz
  go_wp2_with fail
  obtain ⟨w4, hw4⟩ : ∃ w4, w4 = (((((((w2.setCell ⟨w.heap.size, 0, none⟩ (.int .i64 a)).setCell ⟨w.heap.size, 1, none⟩ (.int .i64 b)).setCell ⟨w.heap.size, 2, none⟩ (.int .i64 t)).setCell ⟨w.heap.size, 3, none⟩ (.string P)).setCell ⟨w.heap.size, 4, none⟩ (.int .i64 c)).setCell ⟨w.heap.size, 5, none⟩ (.slice p n cc)).setCell ⟨w.heap.size + 1, 0, none⟩ .nilIface) := ⟨_, rfl⟩
  have k1 : w4.heap[w.heap.size]? = some (.cells #[.int .i64 a, .int .i64 b, .int .i64 t, .string P, .int .i64 c, .slice p n cc] 53 (0, 0)) := by
    rw [hw4, set_block _ _ _ _ (by simp)]
    exact setCell_heap (setCell_heap (setCell_heap (setCell_heap (setCell_heap (setCell_heap HR.out)))))
  have k2 : w4.heap[w.heap.size + 1]? = some (.cells #[.nilIface] 31 (0, 0)) := by
    rw [hw4]
    refine setCell_heap (cur := #[.nilIface]) ?_
    rw [set_block _ _ _ _ (by simp), set_block _ _ _ _ (by simp), set_block _ _ _ _ (by simp), set_block _ _ _ _ (by simp), set_block _ _ _ _ (by simp), set_block _ _ _ _ (by simp)]
    exact HE.out
  have k3 : Below w.heap.size w w4 := by
    rw [hw4]; exact (six6_below HB.out (Nat.le_refl _) _ _ _ _ _ _).setCell (p := ⟨w.heap.size + 1, 0, none⟩) (by simp) _
  have k4 : ∀ k, w.heap.size + 2 ≤ k → w4.heap[k]? = w2.heap[k]? := by
    intro k hk
    rw [hw4, set_block _ _ _ _ (by simp; omega)]
    exact six6_block _ _ _ _ _ _ _ _ _ (by omega)
  rw [← hw4]
  clear hw4 r0 r1 r2 r3 r4 r5 r6 f0 f1 f2 f3 f4 f5 f6
  refine leaves_cons (f := 58) (args := #[.pointer (some ⟨w.heap.size + 1, 0, none⟩)]) (by simp) (by simp [go_sem]) ?_
  refine (idle_dec (w.heap.size + 1) _ w4 k2).mono ?_
  rintro e u' w5 ⟨rfl, rfl, hw5⟩
  have h1 : w5.heap[w.heap.size]? = some (.cells #[.int .i64 a, .int .i64 b, .int .i64 t, .string P, .int .i64 c, .slice p n cc] 53 (0, 0)) := by
    rw [hw5, set_block _ _ _ _ (by simp)]; exact k1
  have h2 : w5.heap[w.heap.size + 1]? = some (.cells #[.nilIface] 31 (0, 0)) := by
    rw [hw5]; exact setCell_heap (cur := #[.nilIface]) k2
  have h3 : Below w.heap.size w w5 := by
    rw [hw5]; exact k3.setCell (p := ⟨w.heap.size + 1, 0, none⟩) (by simp) _
  have h4 : OpV w5 (opV ((a, b), t, P, c, sn) (.slice p n cc)) ((a, b), t, P, c, sn) := by
    refine HK.out w5 (fun k hk _ => ?_)
    rw [hw5, set_block _ _ _ _ (by simp; omega)]
    exact k4 k hk
  have r0 : w5.cell? ⟨w.heap.size, 0, none⟩ = some (.int .i64 a) := cell_of h1 rfl
  have r1 : w5.cell? ⟨w.heap.size, 1, none⟩ = some (.int .i64 b) := cell_of h1 rfl
  have r2 : w5.cell? ⟨w.heap.size, 2, none⟩ = some (.int .i64 t) := cell_of h1 rfl
  have r3 : w5.cell? ⟨w.heap.size, 3, none⟩ = some (.string P) := cell_of h1 rfl
  have r4 : w5.cell? ⟨w.heap.size, 4, none⟩ = some (.int .i64 c) := cell_of h1 rfl
  have r5 : w5.cell? ⟨w.heap.size, 5, none⟩ = some (.slice p n cc) := cell_of h1 rfl
  have r6 : w5.cell? ⟨w.heap.size + 1, 0, none⟩ = some .nilIface := cell_of h2 rfl
  clear hw5
  refine ⟨.tuple #[opV ((a, b), t, P, c, sn) (.slice p n cc), errV 0], ?_, _, rfl, h4, h3⟩
  simp [results, Tryd.results26, opV, go_sem, asAddr, Result.andThen, r0, r1, r2, r3, r4, r5, r6]
  rfl
theorem decode_says : DecodeSays := by
  intro s w hs
  cases hn : decB s.toList with
  | none =>
    have e : decE s = 2 := by unfold decE; rw [hn]; rfl
    rw [e]
    exact decode_none s w hs hn
  | some o =>
    have e : decE s = 0 := by unfold decE; rw [hn]; rfl
    rw [e]
    exact decode_some s w o hs hn

end Vl
end Go.Proofs.YtcmoajlcmeimiaaDoor
