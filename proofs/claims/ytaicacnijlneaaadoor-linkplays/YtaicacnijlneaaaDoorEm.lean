/- Package link: an end in memory; New, Left, Tick, Got, Send. -/
import Derived.Test.YtaicacnijlneaaaDoorEg
import Derived.Deep.RegionLaw
import Derived.Deep.RegionHeld3
namespace Go.Proofs.YtaicacnijlneaaaDoor
namespace Em
set_option linter.unusedVariables false
set_option linter.unusedSimpArgs false
open Go.ChangeShapes Go.WideShapes Go.ChangeAt Go.RowKit Ka Kb Ec Ef Eg

theorem Hid.mk' {p : Prop} (h : p) : Hid p := h
abbrev eight (a b : Int) (u : Value) (k s t : Int) (g : Value) (o : Bool) : Array Value := #[.int .i64 a, .int .i64 b, u, .int .i64 k, .int .i64 s, .int .i64 t, g, .bool o]
/- an end's block, and its two rows of texts -/
structure Raw (w : World) (X : Nat) (a b : Int) (u : Value) (k s t : Int) (g : Value) (o : Bool) (lu lg : List ByteArray) : Prop where
  blk : w.heap[X]? = some (.cells (eight a b u k s t g o) 47)
  ru : RowT 0 w u lu
  rg : RowT 0 w g lg
  off : ∀ k, u.ownBlock = some k → g.ownBlock ≠ some k
abbrev EndMem (w : World) (X : Nat) (u g : Value) (s : Ln) : Prop := Raw w X s.win s.wait u s.acked s.said (min s.ticks s.wait : Nat) g s.owes (s.all.drop s.acked) s.got
def Fs (X : Nat) (u g : Value) (k : Nat) : Prop := k = X ∨ u.ownBlock = some k ∨ g.ownBlock = some k
def At (w : World) (X : Nat) (s : Ln) (F : Nat → Prop) : Prop := Inv s ∧ ∃ u g, EndMem w X u g s ∧ ∀ k, F k ↔ Fs X u g k
section
variable {w w' : World} {X : Nat} {a b k s t : Int} {u g : Value} {o : Bool} {lu lg : List ByteArray}
theorem Raw.lt (h : Raw w X a b u k s t g o lu lg) : ∀ k, Fs X u g k → k < w.heap.size := by
  rintro k (e | e | e)
  · rw [e]; exact (Array.getElem?_eq_some_iff.1 h.blk).1
  · exact (own_lt h.ru k e).1
  · exact (own_lt h.rg k e).1
theorem Raw.stay (h : Raw w X a b u k s t g o lu lg) (hs : Stay (Fs X u g) w w') : Raw w' X a b u k s t g o lu lg :=
  ⟨by rw [hs X (Or.inl rfl)]; exact h.blk, own_stay h.ru fun k e => hs k (Or.inr (Or.inl e)), own_stay h.rg fun k e => hs k (Or.inr (Or.inr e)), h.off⟩
theorem Raw.below (h : Raw w X a b u k s t g o lu lg) (hb : Below w.heap.size w w') : Raw w' X a b u k s t g o lu lg := h.stay fun k hk => hb.block k (h.lt k hk)
theorem Raw.heap (h : Raw w X a b u k s t g o lu lg) (hb : w'.heap = w.heap) : Raw w' X a b u k s t g o lu lg := h.stay fun k hk => by rw [hb]
end
theorem wrap_in {x : Int} (h1 : -1000000 ≤ x) (h2 : x ≤ 1000000) : IntKind.i64.wrap x = x := by rw [IntKind.wrap_i64]; omega
/- a row of texts is no end -/
theorem no_end {w : World} {X : Nat} {v : Value} {n : Nat} {xs : List Value} {cs : Array Value} (h : w.ownsRow 0 9 1 v n xs) (hX : w.heap[X]? = some (.cells cs 47)) : ∀ k, v.ownBlock = some k → k ≠ X := fun k hk e => by
  obtain ⟨_, cur, hc⟩ := own_lt h k hk
  rw [e, hX] at hc
  injection hc with hc
  injection hc with _ hc _
  exact absurd hc (by decide)
/- a cell that is no row's is another one -/
theorem Raw.num {w : World} {X i : Nat} {a b k s t a' b' k' s' t' : Int} {u g v : Value} {o o' : Bool} {lu lg : List ByteArray} (h : Raw w X a b u k s t g o lu lg) (hc : (eight a b u k s t g o).setIfInBounds i v = eight a' b' u k' s' t' g o') : Raw (w.setCell ⟨X, i, none⟩ v) X a' b' u k' s' t' g o' lu lg :=
  ⟨by rw [set_heap h.blk, hc], own_stay h.ru fun k hk => set_block _ _ _ _ (no_end h.ru h.blk k hk), own_stay h.rg fun k hk => set_block _ _ _ _ (no_end h.rg h.blk k hk), h.off⟩
/- its first row is another one -/
theorem Raw.set_u {w w1 : World} {X : Nat} {a b k s t : Int} {u u' g : Value} {o : Bool} {lu lu' lg : List ByteArray} (h : Raw w X a b u k s t g o lu lg) (hc : Chg (fun k => u.ownBlock = some k) w w1) (hr : RowT 0 w1 u' lu') (hl : ∀ k, u'.ownBlock = some k → u.ownBlock = some k ∨ w.heap.size ≤ k) :
    Raw (w1.setCell ⟨X, 2, none⟩ u') X a b u' k s t g o lu' lg ∧ Chg (Fs X u g) w (w1.setCell ⟨X, 2, none⟩ u') ∧ ∀ k, Fs X u' g k → Fs X u g k ∨ w.heap.size ≤ k := by
  have hX : X < w.heap.size := h.lt X (Or.inl rfl)
  have hb1 : w1.heap[X]? = some (.cells (eight a b u k s t g o) 47) := by rw [hc.block X hX (fun e => no_end h.ru h.blk X e rfl)]; exact h.blk
  refine ⟨⟨?_, own_stay hr fun k hk => set_block _ _ _ _ (no_end hr hb1 k hk), own_stay h.rg fun k hk => ?_, fun k h1 h2 => ?_⟩, Chg.setCell (F := Fs X u g) (hc.mono fun g e => Or.inr (Or.inl e)) (p := ⟨X, 2, none⟩) (Or.inl rfl) _, ?_⟩
  · rw [set_heap hb1]; rfl
  · rw [set_block _ _ _ _ (no_end h.rg h.blk k hk)]
    exact hc.block k (own_lt h.rg k hk).1 (fun e => h.off k e hk)
  · rcases hl k h1 with e | e
    · exact h.off k e h2
    · have := (own_lt h.rg k h2).1; omega
  · rintro k (e | e | e)
    · exact Or.inl (Or.inl e)
    · rcases hl k e with e | e
      · exact Or.inl (Or.inr (Or.inl e))
      · exact Or.inr e
    · exact Or.inl (Or.inr (Or.inr e))
theorem Raw.set_g {w w1 : World} {X : Nat} {a b k s t : Int} {u g g' : Value} {o : Bool} {lu lg lg' : List ByteArray} (h : Raw w X a b u k s t g o lu lg) (hc : Chg (fun k => g.ownBlock = some k) w w1) (hr : RowT 0 w1 g' lg') (hl : ∀ k, g'.ownBlock = some k → g.ownBlock = some k ∨ w.heap.size ≤ k) :
    Raw (w1.setCell ⟨X, 6, none⟩ g') X a b u k s t g' o lu lg' ∧ Chg (Fs X u g) w (w1.setCell ⟨X, 6, none⟩ g') ∧ ∀ k, Fs X u g' k → Fs X u g k ∨ w.heap.size ≤ k := by
  have hX : X < w.heap.size := h.lt X (Or.inl rfl)
  have hb1 : w1.heap[X]? = some (.cells (eight a b u k s t g o) 47) := by rw [hc.block X hX (fun e => no_end h.rg h.blk X e rfl)]; exact h.blk
  refine ⟨⟨?_, own_stay h.ru fun k hk => ?_, own_stay hr fun k hk => set_block _ _ _ _ (no_end hr hb1 k hk), fun k h1 h2 => ?_⟩, Chg.setCell (F := Fs X u g) (hc.mono fun g e => Or.inr (Or.inr e)) (p := ⟨X, 6, none⟩) (Or.inl rfl) _, ?_⟩
  · rw [set_heap hb1]; rfl
  · rw [set_block _ _ _ _ (no_end h.ru h.blk k hk)]
    exact hc.block k (own_lt h.ru k hk).1 (fun e => h.off k hk e)
  · rcases hl k h2 with e | e
    · exact h.off k h1 e
    · have := (own_lt h.ru k h1).1; omega
  · rintro k (e | e | e)
    · exact Or.inl (Or.inl e)
    · exact Or.inl (Or.inr (Or.inl e))
    · rcases hl k e with e | e
      · exact Or.inl (Or.inr (Or.inr e))
      · exact Or.inr e
theorem At.lt {w : World} {X : Nat} {s : Ln} {F : Nat → Prop} (h : At w X s F) : ∀ k, F k → k < w.heap.size := by obtain ⟨_, u, g, m, hF⟩ := h; exact fun k hk => m.lt k ((hF k).1 hk)
theorem At.stay {w w' : World} {X : Nat} {s : Ln} {F : Nat → Prop} (h : At w X s F) (hs : Stay F w w') (hz : w.heap.size ≤ w'.heap.size) : At w' X s F := by
  obtain ⟨hi, u, g, m, hF⟩ := h
  exact ⟨hi, u, g, m.stay fun k hk => hs k ((hF k).2 hk), hF⟩
/- what a call leaves -/
def Left' (w : World) (X : Nat) (F : Nat → Prop) (s' : Ln) (w' : World) : Prop := ∃ F', At w' X s' F' ∧ Chg F w w' ∧ ∀ g, F' g → F g ∨ w.heap.size ≤ g
theorem left_mk {w w' : World} {X : Nat} {F : Nat → Prop} {u g u' g' : Value} {s' : Ln} (hF : ∀ k, F k ↔ Fs X u g k) (hi : Inv s') (h : EndMem w' X u' g' s') (hc : Chg (Fs X u g) w w') (hl : ∀ k, Fs X u' g' k → Fs X u g k ∨ w.heap.size ≤ k) : Left' w X F s' w' :=
  ⟨Fs X u' g', ⟨hi, u', g', h, fun k => Iff.rfl⟩, hc.mono fun k e => (hF k).2 e, fun k e => (hl k e).imp (hF k).2 id⟩
theorem left_same {w w' : World} {X : Nat} {F : Nat → Prop} {s : Ln} (h : At w X s F) (hb : Below w.heap.size w w') : Left' w X F s w' :=
  ⟨F, h.stay (fun g hg => hb.block g (h.lt g hg)) hb.size, Chg.ofBelow hb F, fun g e => Or.inl e⟩

theorem new_bad (a b : Int) (w : World) (h : a < 1 ∨ 16 < a ∨ b < 1 ∨ 20 < b) : Calls Tryd.prog 4 #[.int .i64 a, .int .i64 b] w fun e w' => e = .returned (.tuple #[.pointer none, .iface 45 (.int .i64 1)]) ∧ w' = w := by
  by_cases h1 : a < 1
  · clear h
    go_enter Tryd.func4, Tryd.ntmps4
    go_wp2
    go_ret2
    exact ⟨rfl, rfl⟩
  · by_cases h2 : 16 < a
    · clear h
      go_enter Tryd.func4, Tryd.ntmps4
      go_wp2
      go_ret2
      exact ⟨rfl, rfl⟩
    · by_cases h3 : b < 1
      · clear h
        go_enter Tryd.func4, Tryd.ntmps4
        go_wp2
        go_ret2
        exact ⟨rfl, rfl⟩
      · have h4 : 20 < b := by omega
        clear h
        go_enter Tryd.func4, Tryd.ntmps4
        go_wp2
        go_ret2
        exact ⟨rfl, rfl⟩
theorem new_good (a b : Int) (w : World) (h : ¬ (a < 1 ∨ 16 < a ∨ b < 1 ∨ 20 < b)) : Calls Tryd.prog 4 #[.int .i64 a, .int .i64 b] w fun e w' => e = .returned (.tuple #[ptr w.heap.size, .nilIface]) ∧ w' = w.alloc (.cells #[.int .i64 a, .int .i64 b, .slice none 0 0, .int .i64 0, .int .i64 0, .int .i64 0, .slice none 0 0, .bool false] 47) := by
  have h1 : ¬ a < 1 := by omega
  have h2 : ¬ 16 < a := by omega
  have h3 : ¬ b < 1 := by omega
  have h4 : ¬ 20 < b := by omega
  clear h
  go_enter Tryd.func4, Tryd.ntmps4
  go_wp2
  go_ret2
  exact ⟨rfl, rfl⟩
theorem end_new (a b : Int) (w : World) : Calls Tryd.prog 4 #[.int .i64 a, .int .i64 b] w fun e w' => ((newE a b ≠ 0 ∧ e = .returned (.tuple #[.pointer none, errV (newE a b)])) ∨ (newE a b = 0 ∧ ∃ X F, e = .returned (.tuple #[ptr X, .nilIface]) ∧ At w' X (Ec.new a.toNat b.toNat) F ∧ ∀ g, F g → w.heap.size ≤ g)) ∧ Below w.heap.size w w' := by
  by_cases h : a < 1 ∨ 16 < a ∨ b < 1 ∨ 20 < b
  · have e1 : newE a b = 1 := by unfold newE; rw [if_pos h]
    refine (new_bad a b w h).mono ?_
    rintro e w' ⟨rfl, rfl⟩
    rw [e1, errV_ne (by decide)]
    exact ⟨Or.inl ⟨by decide, rfl⟩, Below.refl _ _⟩
  · have e1 : newE a b = 0 := by unfold newE; rw [if_neg h]
    refine (new_good a b w h).mono ?_
    rintro e w' ⟨rfl, rfl⟩
    have ea : ((a.toNat : Nat) : Int) = a := by omega
    have eb : ((b.toNat : Nat) : Int) = b := by omega
    refine ⟨Or.inr ⟨e1, w.heap.size, Fs w.heap.size (.slice none 0 0) (.slice none 0 0), rfl, ⟨inv_new (by rw [ea, eb]; exact e1), .slice none 0 0, .slice none 0 0, ⟨?_, ⟨rfl, Or.inl ⟨rfl, rfl⟩⟩, ⟨rfl, Or.inl ⟨rfl, rfl⟩⟩, fun k hk => by cases hk⟩, fun k => Iff.rfl⟩, ?_⟩, (Below.refl _ w).alloc (Nat.le_refl _) _⟩
    · have h9 := heap_alloc_new w (.cells #[.int .i64 a, .int .i64 b, .slice none 0 0, .int .i64 0, .int .i64 0, .int .i64 0, .slice none 0 0, .bool false] 47)
      rw [h9, show (Ec.new a.toNat b.toNat).win = a.toNat from rfl, show (Ec.new a.toNat b.toNat).wait = b.toNat from rfl, ea, eb, show min (Ec.new a.toNat b.toNat).ticks b.toNat = 0 from Nat.zero_min _]
      rfl
    · rintro g (e | e | e)
      · omega
      · cases e
      · cases e

theorem end_left (X : Nat) (s : Ln) (F : Nat → Prop) (w : World) (h : At w X s F) (hf : Fit s) : Calls Tryd.prog 15 #[ptr X] w fun e w' => e = .returned (.int .i64 (Ec.left s)) ∧ Below w.heap.size w w' := by
  obtain ⟨_, u, g, m, _⟩ := h
  obtain ⟨p, N, c, rfl, hN⟩ := own_shape m.ru
  have HL : Hid (N = Ec.left s) := by unfold Hid left; rw [hN.out, List.length_drop]
  have c2 := blk_cell m.blk (i := 2) (u := .slice p N c) rfl
  clear m hN
  go_enter Tryd.func15, Tryd.ntmps15
  go_wp2
  go_ret
  exact ⟨by rw [← HL.out]; rfl, Below.refl _ _⟩

set_option maxHeartbeats 1000000 in
theorem tick_raw (X : Nat) (t q : Nat) (w : World) (c5 : w.cell? ⟨X, 5, none⟩ = some (.int .i64 t)) (c1 : w.cell? ⟨X, 1, none⟩ = some (.int .i64 q)) (fr : w.frozen? ⟨X, 5, none⟩ = false) (ht : t ≤ 100) (hq : q ≤ 100) :
    Calls Tryd.prog 10 #[ptr X] w fun e w' => e = .returned (.tuple #[]) ∧ w' = (w.setCell ⟨X, 5, none⟩ (.int .i64 (min (t + 1) q : Nat))).drew := by
  have HT : Hid ((if (q : Int) < (t : Int) + 1 then (q : Int) else (t : Int) + 1) = ((min (t + 1) q : Nat) : Int)) := by unfold Hid; split <;> omega
  have hw : IntKind.i64.wrap ((t : Int) + 1) = (t : Int) + 1 := wrap_in (by omega) (by omega)
  generalize ((min (t + 1) q : Nat) : Int) = z at HT ⊢
  go_enter Tryd.func10, Tryd.ntmps10
  go_wp2_with fail
  go_region_law (fail)
  all_goals
    go_end0
    exact ⟨rfl, by rw [HT.out]⟩
theorem end_tick (X : Nat) (s : Ln) (F : Nat → Prop) (w : World) (h : At w X s F) (hf : Fit s) : Calls Tryd.prog 10 #[ptr X] w fun e w' => (∃ v, e = .returned v) ∧ ∃ F', At w' X (Ec.tick s) F' ∧ Chg F w w' ∧ ∀ g, F' g → F g ∨ w.heap.size ≤ g := by
  obtain ⟨hi, u, g, m, hF⟩ := h
  have hx2 := hi.x2
  refine (tick_raw X (min s.ticks s.wait) s.wait w (blk_cell m.blk (i := 5) rfl) (blk_cell m.blk (i := 1) rfl) (blk_free m.blk) (by omega) (by omega)).mono ?_
  rintro e w' ⟨rfl, rfl⟩
  have e1 : min (min s.ticks s.wait + 1) s.wait = min (s.ticks + 1) s.wait := by omega
  rw [e1]
  have hn : EndMem (w.setCell ⟨X, 5, none⟩ (.int .i64 (min (s.ticks + 1) s.wait : Nat))) X u g (Ec.tick s) := m.num rfl
  exact ⟨⟨_, rfl⟩, left_mk hF (inv_tick hi) (hn.heap rfl) ((Chg.refl (Fs X u g) w).setCell (p := ⟨X, 5, none⟩) (Or.inl rfl) _ |>.trans (Chg.ofBelow (Below.refl _ _).drew _)) (fun k e => Or.inl e)⟩

/- slices.Clone of texts -/
set_option maxHeartbeats 1000000 in
theorem clone_some (b n c : Nat) (l : List ByteArray) (w : World) (h : RowT 0 w (.slice (some ⟨b, 0, none⟩) n c) l) (hl : l.length = n) (hn : n ≤ 1048576) :
    Calls Tryd.prog 19 #[.slice (some ⟨b, 0, none⟩) n c] w fun e w' => ∃ v, e = .returned v ∧ RowT w.heap.size w' v l ∧ Below w.heap.size w w' := by
  obtain ⟨i0, hi, hz0, hz1, hz2⟩ := info_parts infoS
  have HN : Hid (∀ j u, (l.map Value.string)[j]? = some u → (w.alloc (.cells #[] 9)).cell? ((⟨b, 0, none⟩ : Addr).add j) = some u) := by
    intro j u hu
    have h1 := h.cells (g := b) rfl j u hu
    rw [World.cell?_alloc_old _ _ _ (Nat.ne_of_lt (World.block_lt_of_cell? _ _ h1))]
    exact h1
  have HL : Hid (l.length = n) := hl
  have HO : Hid ((w.alloc (.cells #[] 9)).ownsRow w.heap.size 9 1 (.slice (some ⟨w.heap.size, 0, none⟩) 0 0) 0 []) :=
    ⟨rfl, Or.inr ⟨w.heap.size, 0, #[], rfl, Nat.le_refl _, heap_alloc_new w _, Nat.le_refl _, by unfold maxLen; omega, rfl, rfl⟩⟩
  have heq : ∀ (a : Addr) (n c : Nat) (w : World), Sem.run Tryd.prog (binOp .eql 23 (.slice (some a) n c) (.slice none 0 0)) w = .ok (.bool false) w := fun _ _ _ _ => by kernel_rfl
  clear h hl
  go_enter Tryd.func19, Tryd.ntmps19
  go_wp2_with (at_builtin; refine wpList_append_own_at _ rfl (.tmp 5) (.tmp 6) 23 rfl w.heap.size 9 i0 (.string ByteArray.empty) 1 16 Tryd.underlying23 hi hz0 hz1 hz2 rfl (by decide) (.slice (some ⟨w.heap.size, 0, none⟩) 0 0) 0 [] rfl HO.out ⟨b, 0, none⟩ n c (l.map Value.string) rfl (by rw [List.length_map, HL.out, Nat.mul_one]) HN.out (by intro u hu; obtain ⟨x, _, rfl⟩ := List.mem_map.1 hu; rfl) (by unfold maxLen; omega) (by omega) (by simp) ?_; intro v' w1 hown' hgrow _ hat; have HOW := Hid.mk' hown'; have HGR : Hid (Below w.heap.size w w1) := ((Below.refl _ w).alloc (Nat.le_refl _) (.cells #[] 9)).grown hgrow (by simp) (by intro j hj; simp [Value.ownBlock] at hj; omega); clear hown' hgrow hat)
  go_ret
  refine ⟨_, rfl, ?_, HGR.out⟩
  have h9 := HOW.out
  rw [Nat.zero_add, List.nil_append, ← HL.out] at h9
  exact h9
theorem clone_none (w : World) (heq : ∀ (w : World), Sem.run Tryd.prog (binOp .eql 23 (.slice none 0 0) (.slice none 0 0)) w = .ok (.bool true) w := fun _ => by kernel_rfl) : Calls Tryd.prog 19 #[.slice none 0 0] w fun e w' => e = .returned (.slice none 0 0) ∧ w' = w := by
  go_enter Tryd.func19, Tryd.ntmps19
  go_wp2
  go_ret
  exact ⟨rfl, rfl⟩
theorem clone_any (v : Value) (l : List ByteArray) (w : World) (h : RowT 0 w v l) (hn : l.length ≤ 1048576) :
    Calls Tryd.prog 19 #[v] w fun e w' => ∃ v, e = .returned v ∧ RowT w.heap.size w' v l ∧ Below w.heap.size w w' := by
  rcases h.2 with ⟨e, e0⟩ | ⟨g, cap, cur, e, hg, hc, h1, h2, h3, h4⟩
  · subst e
    have : l = [] := List.eq_nil_of_length_eq_zero e0
    subst this
    refine (clone_none w).mono ?_
    rintro e w' ⟨rfl, rfl⟩
    exact ⟨_, rfl, ⟨rfl, Or.inl ⟨rfl, rfl⟩⟩, Below.refl _ _⟩
  · subst e
    exact clone_some g l.length cap l w h rfl hn
theorem end_got (X : Nat) (s : Ln) (F : Nat → Prop) (w : World) (h : At w X s F) (hf : Fit s) : Calls Tryd.prog 14 #[ptr X] w fun e w' => ∃ p n c, e = .returned (.slice p n c) ∧ TxJ (New w.heap.size w') w' (.slice p n c) s.got ∧ Below w.heap.size w w' := by
  obtain ⟨_, u, g, m, _⟩ := h
  have hg := hf.2.1
  have C := clone_any g s.got w m.rg (by omega)
  have c6 := blk_cell m.blk (i := 6) (u := g) rfl
  obtain ⟨p, N, c, rfl, hN⟩ := own_shape m.rg
  clear m hN hf hg
  go_enter Tryd.func14, Tryd.ntmps14
  go_wp2_with fail
  refine C.mono ?_
  rintro e w1 ⟨v1, rfl, hr1, hb1⟩
  obtain ⟨p1, n1, c1, rfl, _⟩ := own_shape hr1
  have HR := Hid.mk' hr1
  have HB := Hid.mk' hb1
  clear hr1 hb1
  go_wp2_with fail
  go_ret
  exact ⟨_, _, _, rfl, (TxJ.own HR.out).mono fun g hg => ⟨own_ge HR.out g hg, (own_lt HR.out g hg).1⟩, HB.out⟩

theorem at_new {v v' : Value} {w W : World} (hat : v'.ownBlock = v.ownBlock ∨ v'.ownBlock = some W.heap.size) (hz : w.heap.size ≤ W.heap.size) : ∀ k, v'.ownBlock = some k → v.ownBlock = some k ∨ w.heap.size ≤ k := by
  intro k hk
  rcases hat with e | e
  · left; rw [← e]; exact hk
  · right; rw [hk] at e; injection e with e; rw [e]; exact hz
/- Send -/
theorem send_full (X : Nat) (d : ByteArray) (w : World) (p : Option Addr) (n c : Nat) (c2 : w.cell? ⟨X, 2, none⟩ = some (.slice p n c)) (hd : d.size ≤ maxLen) (h : 200 < d.size ∨ 100 ≤ n) :
    Calls Tryd.prog 6 #[ptr X, .string d] w fun e w' => e = .returned (.iface 45 (.int .i64 4)) ∧ w' = w := by
  have hdm : (d.size : Int) ≤ 9223372036854775807 := by unfold maxLen at hd; omega
  by_cases h1 : 200 < d.size
  · have h1z : (200 : Int) < d.size := by omega
    clear h h1
    go_enter Tryd.func6, Tryd.ntmps6
    go_wp2
    go_ret
    exact ⟨rfl, rfl⟩
  · have h1z : ¬ (200 : Int) < d.size := by omega
    have h2z : (100 : Int) ≤ n := by omega
    clear h h1
    go_enter Tryd.func6, Tryd.ntmps6
    go_wp2
    go_ret
    exact ⟨rfl, rfl⟩
theorem text_new (w : World) (d : ByteArray) : ∀ j y, [Value.string d][j]? = some y → (w.alloc (.cells #[.string d] 9)).cell? ((⟨w.heap.size, 0, none⟩ : Addr).add j) = some y := by
  intro j y hu
  have h2 := heap_alloc_new w (.cells #[.string d] 9)
  rw [Addr.add_lit, Nat.zero_add]
  simp only [World.cell?, h2]
  simpa using hu
set_option maxHeartbeats 2000000 in
theorem send_room (X : Nat) (d : ByteArray) (w : World) (a b k s t : Int) (u g : Value) (o : Bool) (lu lg : List ByteArray) (m : Raw w X a b u k s t g o lu lg) (hd : d.size ≤ 200) (h : lu.length < 100) :
    Calls Tryd.prog 6 #[ptr X, .string d] w fun e w' => e = .returned .nilIface ∧ ∃ u', Raw w' X a b u' k s t g o (lu ++ [d]) lg ∧ Chg (Fs X u g) w w' ∧ ∀ k, Fs X u' g k → Fs X u g k ∨ w.heap.size ≤ k := by
  obtain ⟨i0, hi, hz0, hz1, hz2⟩ := info_parts infoS
  obtain ⟨p, n, c, rfl, hn⟩ := own_shape m.ru
  have HN := Hid.mk' hn.out
  have c2 := blk_cell m.blk (i := 2) (u := .slice p n c) rfl
  have hdz : ¬ (200 : Int) < d.size := by omega
  have hnz : ¬ (100 : Int) ≤ n := by have := hn.out; omega
  have hn9 : n < 100 := by have := hn.out; omega
  have HM := Hid.mk' m
  have HBA : Hid (Below w.heap.size w (w.alloc (.cells #[.string d] 9))) := (Below.refl _ w).alloc (Nat.le_refl _) _
  have HOA : Hid ((w.alloc (.cells #[.string d] 9)).ownsRow 0 9 1 (.slice p n c) n (lu.map Value.string)) := by
    have h9 := own_below m.ru HBA.out
    rw [← hn.out] at h9
    exact h9
  have HTN := Hid.mk' (text_new w d)
  clear m hn hd h
  go_enter Tryd.func6, Tryd.ntmps6
  go_wp2_with (at_builtin; refine wpList_append_own_at _ rfl (.tmp 21) (.tmp 23) 23 rfl 0 9 i0 (.string ByteArray.empty) 1 16 Tryd.underlying23 hi hz0 hz1 hz2 rfl (by decide) (.slice p n c) n (lu.map Value.string) rfl HOA.out ⟨w.heap.size, 0, none⟩ 1 1 [.string d] rfl rfl HTN.out (by intro u hu; rw [List.mem_singleton.1 hu]; rfl) (by unfold maxLen; omega) (by omega) (Nat.zero_le _) ?_; intro v' w1 hown' hgrow _ hat; obtain ⟨p9, n9, c9, rfl, _⟩ := own_shape hown'; have HR : Hid (RowT 0 w1 (.slice p9 n9 c9) (lu ++ [d])) := own_appT (b := [d]) HN.out.symm rfl hown'; have HC : Hid (Chg (fun k => (Value.slice p n c).ownBlock = some k) w w1) := (Chg.ofBelow HBA.out _).trans (Chg.grown hgrow (fun g e => e)); have hb9 : w1.heap[X]? = some (.cells (eight a b (.slice p n c) k s t g o) 47) := (HC.out.block X (HM.out.lt X (Or.inl rfl)) (fun e => no_end HM.out.ru HM.out.blk X e rfl)).trans HM.out.blk; have q9 := blk_cell hb9 (i := 2) (u := .slice p n c) rfl; have fq9 := blk_free hb9 (i := 2); have HL : Hid (∀ k, (Value.slice p9 n9 c9).ownBlock = some k → (Value.slice p n c).ownBlock = some k ∨ w.heap.size ≤ k) := at_new hat HBA.out.size; clear hown' hgrow hat hb9)
  go_ret
  obtain ⟨r1, r2, r3⟩ := HM.out.set_u HC.out HR.out HL.out
  exact ⟨rfl, _, r1, r2, r3⟩
theorem end_send (X : Nat) (s : Ln) (F : Nat → Prop) (d : ByteArray) (w : World) (h : At w X s F) (hf : Fit s) (hd : d.size ≤ maxLen) : Calls Tryd.prog 6 #[ptr X, .string d] w fun e w' => e = .returned (errV (sendE s d)) ∧ ∃ F', At w' X (sendS s d) F' ∧ Chg F w w' ∧ ∀ g, F' g → F g ∨ w.heap.size ≤ g := by
  have h0 := h
  obtain ⟨hi, u, g, m, hF⟩ := h
  have hlen : (s.all.drop s.acked).length = left s := by rw [List.length_drop]; rfl
  by_cases h9 : 200 < d.size ∨ 100 ≤ left s
  · have e1 : sendE s d = 4 := by unfold sendE; rw [if_pos h9]
    have e2 : sendS s d = s := by unfold sendS; rw [e1, if_pos (by decide)]
    obtain ⟨p, n, c, rfl, hn⟩ := own_shape m.ru
    refine (send_full X d w p n c (blk_cell m.blk (i := 2) rfl) hd (by rw [hn.out, hlen]; exact h9)).mono ?_
    rintro e w' ⟨rfl, rfl⟩
    rw [e1, e2, errV_ne (by decide)]
    exact ⟨rfl, left_same h0 (Below.refl _ _)⟩
  · have e1 : sendE s d = 0 := by unfold sendE; rw [if_neg h9]
    have e2 : sendS s d = { s with all := s.all ++ [d] } := by unfold sendS; rw [e1, if_neg (by decide)]
    have hi2 : Inv (sendS s d) := inv_send hi
    rw [e2] at hi2
    refine (send_room X d w _ _ _ _ _ u g _ _ _ m (by omega) (by rw [hlen]; omega)).mono ?_
    rintro e w' ⟨rfl, u', r1, r2, r3⟩
    rw [e1, e2]
    refine ⟨rfl, left_mk hF hi2 ?_ r2 r3⟩
    have e3 : (s.all ++ [d]).drop s.acked = s.all.drop s.acked ++ [d] := by
      rw [List.drop_append_of_le_length]
      have := hi.ak; have := hi.sd; omega
    show Raw w' X s.win s.wait u' s.acked s.said (min s.ticks s.wait : Nat) g s.owes ((s.all ++ [d]).drop s.acked) s.got
    rw [e3]; exact r1

end Em
end Go.Proofs.YtaicacnijlneaaaDoor
