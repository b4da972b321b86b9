/- The reference's End in memory; its Hear. -/
import Derived.Test.YtaicacnijlneaaaDoorEo
namespace Go.Proofs.YtaicacnijlneaaaDoor
namespace Et
set_option linter.unusedVariables false
set_option linter.unusedSimpArgs false
open Go.ChangeShapes Go.WideShapes Go.ChangeAt Go.RowKit Ka Kb Ec Ef Eg En Eo
open Em (wrap_in at_new text_new Hid.mk' eight)

/- an end's block, and its two rows of texts -/
structure Raw (w : World) (X : Nat) (a b : Int) (u : Value) (k s t : Int) (g : Value) (o : Bool) (lu lg : List ByteArray) : Prop where
  blk : w.heap[X]? = some (.cells (eight a b u k s t g o) 33)
  ru : RowT 0 w u lu
  rg : RowT 0 w g lg
  off : ∀ k, u.ownBlock = some k → g.ownBlock ≠ some k
def Fs (X : Nat) (u g : Value) (k : Nat) : Prop := k = X ∨ u.ownBlock = some k ∨ g.ownBlock = some k
section
variable {w w' : World} {X : Nat} {a b k s t : Int} {u g : Value} {o : Bool} {lu lg : List ByteArray}
theorem Raw.lt (h : Raw w X a b u k s t g o lu lg) : ∀ k, Fs X u g k → k < w.heap.size := by
  rintro k (e | e | e)
  · rw [e]; exact (Array.getElem?_eq_some_iff.1 h.blk).1
  · exact (own_lt h.ru k e).1
  · exact (own_lt h.rg k e).1
theorem Raw.stay (h : Raw w X a b u k s t g o lu lg) (hs : Stay (Fs X u g) w w') : Raw w' X a b u k s t g o lu lg :=
  ⟨by rw [hs X (Or.inl rfl)]; exact h.blk, own_stay h.ru fun k e => hs k (Or.inr (Or.inl e)), own_stay h.rg fun k e => hs k (Or.inr (Or.inr e)), h.off⟩
theorem Raw.below (h : Raw w X a b u k s t g o lu lg) (hb : Below w.heap.size w w') : Raw w' X a b u k s t g o lu lg := h.stay fun k hk => hb.block k (h.lt k hk)
theorem Raw.heap (h : Raw w X a b u k s t g o lu lg) (hb : w'.heap = w.heap) : Raw w' X a b u k s t g o lu lg := h.stay fun k hk => by rw [hb]
end
/- a row of texts is no end -/
theorem no_end {w : World} {X : Nat} {v : Value} {n : Nat} {xs : List Value} {cs : Array Value} (h : w.ownsRow 0 9 1 v n xs) (hX : w.heap[X]? = some (.cells cs 33)) : ∀ k, v.ownBlock = some k → k ≠ X := fun k hk e => by
  obtain ⟨_, cur, hc⟩ := own_lt h k hk
  rw [e, hX] at hc
  injection hc with hc
  injection hc with _ hc _
  exact absurd hc (by decide)
/- a cell that is no row's is another one -/
theorem Raw.num {w : World} {X i : Nat} {a b k s t a' b' k' s' t' : Int} {u g v : Value} {o o' : Bool} {lu lg : List ByteArray} (h : Raw w X a b u k s t g o lu lg) (hc : (eight a b u k s t g o).setIfInBounds i v = eight a' b' u k' s' t' g o') : Raw (w.setCell ⟨X, i, none⟩ v) X a' b' u k' s' t' g o' lu lg :=
  ⟨by rw [set_heap h.blk, hc], own_stay h.ru fun k hk => set_block _ _ _ _ (no_end h.ru h.blk k hk), own_stay h.rg fun k hk => set_block _ _ _ _ (no_end h.rg h.blk k hk), h.off⟩
/- its first row is another one -/
theorem Raw.set_u {w w1 : World} {X : Nat} {a b k s t : Int} {u u' g : Value} {o : Bool} {lu lu' lg : List ByteArray} (h : Raw w X a b u k s t g o lu lg) (hc : Chg (fun k => u.ownBlock = some k) w w1) (hr : RowT 0 w1 u' lu') (hl : ∀ k, u'.ownBlock = some k → u.ownBlock = some k ∨ w.heap.size ≤ k) :
    Raw (w1.setCell ⟨X, 2, none⟩ u') X a b u' k s t g o lu' lg ∧ Chg (Fs X u g) w (w1.setCell ⟨X, 2, none⟩ u') ∧ ∀ k, Fs X u' g k → Fs X u g k ∨ w.heap.size ≤ k := by
  have hX : X < w.heap.size := h.lt X (Or.inl rfl)
  have hb1 : w1.heap[X]? = some (.cells (eight a b u k s t g o) 33) := by rw [hc.block X hX (fun e => no_end h.ru h.blk X e rfl)]; exact h.blk
  refine ⟨⟨?_, own_stay hr fun k hk => set_block _ _ _ _ (no_end hr hb1 k hk), own_stay h.rg fun k hk => ?_, fun k h1 h2 => ?_⟩, Chg.setCell (F := Fs X u g) (hc.mono fun g e => Or.inr (Or.inl e)) (p := ⟨X, 2, none⟩) (Or.inl rfl) _, ?_⟩
  · rw [set_heap hb1]; rfl
  · rw [set_block _ _ _ _ (no_end h.rg h.blk k hk)]
    exact hc.block k (own_lt h.rg k hk).1 (fun e => h.off k e hk)
  · rcases hl k h1 with e | e
    · exact h.off k e h2
    · have := (own_lt h.rg k h2).1; omega
  · rintro k (e | e | e)
    · exact Or.inl (Or.inl e)
    · rcases hl k e with e | e
      · exact Or.inl (Or.inr (Or.inl e))
      · exact Or.inr e
    · exact Or.inl (Or.inr (Or.inr e))
theorem Raw.set_g {w w1 : World} {X : Nat} {a b k s t : Int} {u g g' : Value} {o : Bool} {lu lg lg' : List ByteArray} (h : Raw w X a b u k s t g o lu lg) (hc : Chg (fun k => g.ownBlock = some k) w w1) (hr : RowT 0 w1 g' lg') (hl : ∀ k, g'.ownBlock = some k → g.ownBlock = some k ∨ w.heap.size ≤ k) :
    Raw (w1.setCell ⟨X, 6, none⟩ g') X a b u k s t g' o lu lg' ∧ Chg (Fs X u g) w (w1.setCell ⟨X, 6, none⟩ g') ∧ ∀ k, Fs X u g' k → Fs X u g k ∨ w.heap.size ≤ k := by
  have hX : X < w.heap.size := h.lt X (Or.inl rfl)
  have hb1 : w1.heap[X]? = some (.cells (eight a b u k s t g o) 33) := by rw [hc.block X hX (fun e => no_end h.rg h.blk X e rfl)]; exact h.blk
  refine ⟨⟨?_, own_stay h.ru fun k hk => ?_, own_stay hr fun k hk => set_block _ _ _ _ (no_end hr hb1 k hk), fun k h1 h2 => ?_⟩, Chg.setCell (F := Fs X u g) (hc.mono fun g e => Or.inr (Or.inr e)) (p := ⟨X, 6, none⟩) (Or.inl rfl) _, ?_⟩
  · rw [set_heap hb1]; rfl
  · rw [set_block _ _ _ _ (no_end h.ru h.blk k hk)]
    exact hc.block k (own_lt h.ru k hk).1 (fun e => h.off k hk e)
  · rcases hl k h2 with e | e
    · exact h.off k h1 e
    · have := (own_lt h.ru k h1).1; omega
  · rintro k (e | e | e)
    · exact Or.inl (Or.inl e)
    · exact Or.inl (Or.inr (Or.inl e))
    · rcases hl k e with e | e
      · exact Or.inl (Or.inr (Or.inr e))
      · exact Or.inr e
abbrev REnd (w : World) (M : Nat) (u g : Value) (s : Ln) : Prop := Raw w M s.win s.wait u s.acked s.said s.ticks g s.owes s.all s.got
def RAt (w : World) (M : Nat) (s : Ln) (G : Nat → Prop) : Prop := ∃ u g, REnd w M u g s ∧ ∀ k, G k ↔ Fs M u g k
theorem RAt.lt {w : World} {M : Nat} {s : Ln} {G : Nat → Prop} (h : RAt w M s G) : ∀ k, G k → k < w.heap.size := by obtain ⟨u, g, m, hF⟩ := h; exact fun k hk => m.lt k ((hF k).1 hk)
theorem RAt.stay {w w' : World} {M : Nat} {s : Ln} {G : Nat → Prop} (h : RAt w M s G) (hs : Stay G w w') : RAt w' M s G := by
  obtain ⟨u, g, m, hF⟩ := h
  exact ⟨u, g, m.stay fun k hk => hs k ((hF k).2 hk), hF⟩
theorem RAt.below {w w' : World} {M : Nat} {s : Ln} {G : Nat → Prop} (h : RAt w M s G) (hb : Below w.heap.size w w') : RAt w' M s G := h.stay fun k hk => hb.block k (h.lt k hk)
def RLeft (w : World) (M : Nat) (G : Nat → Prop) (s' : Ln) (w' : World) : Prop := ∃ G', RAt w' M s' G' ∧ Chg G w w' ∧ ∀ g, G' g → G g ∨ w.heap.size ≤ g
theorem rleft_mk {w w' : World} {M : Nat} {G : Nat → Prop} {u g u' g' : Value} {s' : Ln} (hF : ∀ k, G k ↔ Fs M u g k) (h : REnd w' M u' g' s') (hc : Chg (Fs M u g) w w') (hl : ∀ k, Fs M u' g' k → Fs M u g k ∨ w.heap.size ≤ k) : RLeft w M G s' w' :=
  ⟨Fs M u' g', ⟨u', g', h, fun k => Iff.rfl⟩, hc.mono fun k e => (hF k).2 e, fun k e => (hl k e).imp (hF k).2 id⟩
theorem rleft_same {w w' : World} {M : Nat} {G : Nat → Prop} {s : Ln} (h : RAt w M s G) (hb : Below w.heap.size w w') : RLeft w M G s w' :=
  ⟨G, h.below hb, Chg.ofBelow hb G, fun g e => Or.inl e⟩

set_option maxHeartbeats 2000000 in
theorem r_low (X : Nat) (q : Int) (d : ByteArray) (w : World) (a b k s t : Int) (u g : Value) (o : Bool) (lu lg : List ByteArray) (m : Raw w X a b u k s t g o lu lg) (h : q < 0) :
    Calls Tryd.prog 11 #[ptr X, frV true q d] w fun e w' => e = .returned (.int .i64 1) ∧ Below w.heap.size w w' := by
  have m1 := m.below (below_al w (frO true q d))
  have c4 := blk_cell m1.blk (i := 4) (u := .int .i64 s) rfl
  have c3 := blk_cell m1.blk (i := 3) (u := .int .i64 k) rfl
  have f3 := blk_free m1.blk (i := 3)
  have b0 := blk_cell (heap_alloc_new w (frO true q d)) (i := 0) (u := .bool true) rfl
  have b1 := blk_cell (heap_alloc_new w (frO true q d)) (i := 1) (u := .int .i64 q) rfl
  have b2 := blk_cell (heap_alloc_new w (frO true q d)) (i := 2) (u := .string d) rfl
  have HB := Hid.mk' (below_al w (frO true q d))
  have hq : decide (q < 0) = true := decide_eq_true h
  clear m m1 h
  go_enter Tryd.func11, Tryd.ntmps11
  go_wp2_with fail
  go_quiet (fail)
  go_wp2_with fail
  go_ret
  exact ⟨rfl, bel_drew HB.out _⟩
set_option maxHeartbeats 2000000 in
theorem r_high (X : Nat) (q : Int) (d : ByteArray) (w : World) (a b k s t : Int) (u g : Value) (o : Bool) (lu lg : List ByteArray) (m : Raw w X a b u k s t g o lu lg) (h1 : ¬ q < 0) (h2 : s < q) :
    Calls Tryd.prog 11 #[ptr X, frV true q d] w fun e w' => e = .returned (.int .i64 1) ∧ Below w.heap.size w w' := by
  have m1 := m.below (below_al w (frO true q d))
  have c4 := blk_cell m1.blk (i := 4) (u := .int .i64 s) rfl
  have c3 := blk_cell m1.blk (i := 3) (u := .int .i64 k) rfl
  have f3 := blk_free m1.blk (i := 3)
  have b0 := blk_cell (heap_alloc_new w (frO true q d)) (i := 0) (u := .bool true) rfl
  have b1 := blk_cell (heap_alloc_new w (frO true q d)) (i := 1) (u := .int .i64 q) rfl
  have b2 := blk_cell (heap_alloc_new w (frO true q d)) (i := 2) (u := .string d) rfl
  have HB := Hid.mk' (below_al w (frO true q d))
  have hq : decide (q < 0) = false := decide_eq_false h1
  have hq2 : decide (s < q) = true := decide_eq_true h2
  clear m m1 h1 h2
  go_enter Tryd.func11, Tryd.ntmps11
  go_wp2_with fail
  go_quiet (fail)
  go_wp2_with fail
  go_ret
  exact ⟨rfl, bel_drew HB.out _⟩
set_option maxHeartbeats 2000000 in
theorem r_shape (X : Nat) (q : Int) (d : ByteArray) (w : World) (a b k s t : Int) (u g : Value) (o : Bool) (lu lg : List ByteArray) (m : Raw w X a b u k s t g o lu lg) (h1 : ¬ q < 0) (h2 : ¬ s < q) (h3 : d.size ≠ 0) :
    Calls Tryd.prog 11 #[ptr X, frV true q d] w fun e w' => e = .returned (.int .i64 3) ∧ Below w.heap.size w w' := by
  have m1 := m.below (below_al w (frO true q d))
  have c4 := blk_cell m1.blk (i := 4) (u := .int .i64 s) rfl
  have c3 := blk_cell m1.blk (i := 3) (u := .int .i64 k) rfl
  have f3 := blk_free m1.blk (i := 3)
  have b0 := blk_cell (heap_alloc_new w (frO true q d)) (i := 0) (u := .bool true) rfl
  have b1 := blk_cell (heap_alloc_new w (frO true q d)) (i := 1) (u := .int .i64 q) rfl
  have b2 := blk_cell (heap_alloc_new w (frO true q d)) (i := 2) (u := .string d) rfl
  have HB := Hid.mk' (below_al w (frO true q d))
  have hq : decide (q < 0) = false := decide_eq_false h1
  have hq2 : decide (s < q) = false := decide_eq_false h2
  have hne := ne_toList h3
  clear m m1 h1 h2 h3
  go_enter Tryd.func11, Tryd.ntmps11
  go_wp2_with fail
  go_quiet (fail)
  go_wp2_with fail
  go_ret
  exact ⟨rfl, bel_drew HB.out _⟩
set_option maxHeartbeats 2000000 in
theorem r_old (X : Nat) (q : Int) (d : ByteArray) (w : World) (a b k s t : Int) (u g : Value) (o : Bool) (lu lg : List ByteArray) (m : Raw w X a b u k s t g o lu lg) (h1 : ¬ q < 0) (h2 : ¬ s < q) (h3 : ¬ k < q) :
    Calls Tryd.prog 11 #[ptr X, frV true q e0] w fun e w' => e = .returned (.int .i64 0) ∧ Below w.heap.size w w' := by
  have m1 := m.below (below_al w (frO true q e0))
  have c4 := blk_cell m1.blk (i := 4) (u := .int .i64 s) rfl
  have c3 := blk_cell m1.blk (i := 3) (u := .int .i64 k) rfl
  have f3 := blk_free m1.blk (i := 3)
  have b0 := blk_cell (heap_alloc_new w (frO true q e0)) (i := 0) (u := .bool true) rfl
  have b1 := blk_cell (heap_alloc_new w (frO true q e0)) (i := 1) (u := .int .i64 q) rfl
  have b2 := blk_cell (heap_alloc_new w (frO true q e0)) (i := 2) (u := .string e0) rfl
  have HB := Hid.mk' (below_al w (frO true q e0))
  have hq : decide (q < 0) = false := decide_eq_false h1
  have hq2 : decide (s < q) = false := decide_eq_false h2
  have hq3 : decide (k < q) = false := decide_eq_false h3
  have he0 := e0_empty
  clear m m1 h1 h2 h3
  go_enter Tryd.func11, Tryd.ntmps11
  go_wp2_with fail
  go_quiet (fail)
  go_wp2_with fail
  go_quiet (fail)
  go_wp2_with fail
  go_ret
  exact ⟨rfl, bel_drew (bel_drew HB.out _) _⟩
set_option maxHeartbeats 2000000 in
theorem r_new (X : Nat) (q : Int) (d : ByteArray) (w : World) (a b k s t : Int) (u g : Value) (o : Bool) (lu lg : List ByteArray) (m : Raw w X a b u k s t g o lu lg) (h1 : ¬ q < 0) (h2 : ¬ s < q) (h3 : k < q) :
    Calls Tryd.prog 11 #[ptr X, frV true q e0] w fun e w' => e = .returned (.int .i64 0) ∧ Raw w' X a b u q s t g o lu lg ∧ Chg (Fs X u g) w w' := by
  have m1 := m.below (below_al w (frO true q e0))
  have c4 := blk_cell m1.blk (i := 4) (u := .int .i64 s) rfl
  have c3 := blk_cell m1.blk (i := 3) (u := .int .i64 k) rfl
  have f3 := blk_free m1.blk (i := 3)
  have b0 := blk_cell (heap_alloc_new w (frO true q e0)) (i := 0) (u := .bool true) rfl
  have b1 := blk_cell (heap_alloc_new w (frO true q e0)) (i := 1) (u := .int .i64 q) rfl
  have b2 := blk_cell (heap_alloc_new w (frO true q e0)) (i := 2) (u := .string e0) rfl
  have HB := Hid.mk' (below_al w (frO true q e0))
  have hq : decide (q < 0) = false := decide_eq_false h1
  have hq2 : decide (s < q) = false := decide_eq_false h2
  have hq3 : decide (k < q) = true := decide_eq_true h3
  have he0 := e0_empty
  have HM1 := Hid.mk' m1
  clear m m1 h1 h2 h3
  go_enter Tryd.func11, Tryd.ntmps11
  go_wp2_with fail
  go_quiet (fail)
  go_wp2_with fail
  go_quiet (fail)
  go_wp2_with fail
  go_ret
  refine ⟨rfl, (HM1.out.heap (w' := World.drewN _ _) rfl).num rfl, Chg.setCell (F := Fs X u g) (Chg.ofBelow (bel_drew HB.out _) _) (p := ⟨X, 3, none⟩) (Or.inl rfl) _⟩
set_option maxHeartbeats 2000000 in
theorem r_dlow (X : Nat) (q : Int) (d : ByteArray) (w : World) (a b k s t : Int) (u g : Value) (o : Bool) (lu lg : List ByteArray) (m : Raw w X a b u k s t g o lu lg) (h : q < 1) :
    Calls Tryd.prog 11 #[ptr X, frV false q d] w fun e w' => e = .returned (.int .i64 1) ∧ Below w.heap.size w w' := by
  have m1 := m.below (below_al w (frO false q d))
  have c4 := blk_cell m1.blk (i := 4) (u := .int .i64 s) rfl
  have c3 := blk_cell m1.blk (i := 3) (u := .int .i64 k) rfl
  have f3 := blk_free m1.blk (i := 3)
  have b0 := blk_cell (heap_alloc_new w (frO false q d)) (i := 0) (u := .bool false) rfl
  have b1 := blk_cell (heap_alloc_new w (frO false q d)) (i := 1) (u := .int .i64 q) rfl
  have b2 := blk_cell (heap_alloc_new w (frO false q d)) (i := 2) (u := .string d) rfl
  have HB := Hid.mk' (below_al w (frO false q d))
  clear m m1
  go_enter Tryd.func11, Tryd.ntmps11
  go_wp2_with fail
  go_ret
  exact ⟨rfl, HB.out⟩
set_option maxHeartbeats 2000000 in
theorem r_long (X : Nat) (q : Int) (d : ByteArray) (w : World) (a b k s t : Int) (u g : Value) (o : Bool) (lu lg : List ByteArray) (m : Raw w X a b u k s t g o lu lg) (h : ¬ q < 1) (hd : 200 < d.size) (hdm : d.size ≤ maxLen) :
    Calls Tryd.prog 11 #[ptr X, frV false q d] w fun e w' => e = .returned (.int .i64 4) ∧ Below w.heap.size w w' := by
  have m1 := m.below (below_al w (frO false q d))
  have c4 := blk_cell m1.blk (i := 4) (u := .int .i64 s) rfl
  have c3 := blk_cell m1.blk (i := 3) (u := .int .i64 k) rfl
  have f3 := blk_free m1.blk (i := 3)
  have b0 := blk_cell (heap_alloc_new w (frO false q d)) (i := 0) (u := .bool false) rfl
  have b1 := blk_cell (heap_alloc_new w (frO false q d)) (i := 1) (u := .int .i64 q) rfl
  have b2 := blk_cell (heap_alloc_new w (frO false q d)) (i := 2) (u := .string d) rfl
  have HB := Hid.mk' (below_al w (frO false q d))
  have hdz : (200 : Int) < d.size := by omega
  have hdm2 : (d.size : Int) ≤ 9223372036854775807 := by unfold maxLen at hdm; omega
  clear m m1 hd hdm
  go_enter Tryd.func11, Tryd.ntmps11
  go_wp2_with fail
  go_ret
  exact ⟨rfl, HB.out⟩
set_option maxHeartbeats 2000000 in
theorem r_other (X : Nat) (q : Int) (d : ByteArray) (w : World) (a b k s t : Int) (u g : Value) (o : Bool) (lu lg : List ByteArray) (m : Raw w X a b u k s t g o lu lg) (h : ¬ q < 1) (hd : d.size ≤ 200) (hq : q ≠ (lg.length : Int) + 1) (hl : lg.length ≤ 1000) :
    Calls Tryd.prog 11 #[ptr X, frV false q d] w fun e w' => e = .returned (.int .i64 0) ∧ Raw w' X a b u k s t g true lu lg ∧ Chg (Fs X u g) w w' := by
  obtain ⟨p, n, c, rfl, hn⟩ := own_shape m.rg
  have m1 := m.below (below_al w (frO false q d))
  have c4 := blk_cell m1.blk (i := 4) (u := .int .i64 s) rfl
  have c3 := blk_cell m1.blk (i := 3) (u := .int .i64 k) rfl
  have f3 := blk_free m1.blk (i := 3)
  have b0 := blk_cell (heap_alloc_new w (frO false q d)) (i := 0) (u := .bool false) rfl
  have b1 := blk_cell (heap_alloc_new w (frO false q d)) (i := 1) (u := .int .i64 q) rfl
  have b2 := blk_cell (heap_alloc_new w (frO false q d)) (i := 2) (u := .string d) rfl
  have HB := Hid.mk' (below_al w (frO false q d))
  have c6 := blk_cell m1.blk (i := 6) (u := .slice p n c) rfl
  have c7 := blk_cell m1.blk (i := 7) (u := .bool o) rfl
  have f7 := blk_free m1.blk (i := 7)
  have hdz : ¬ (200 : Int) < d.size := by omega
  have hn9 : n ≤ 1000 := by rw [hn.out]; exact hl
  have hqe : (q == (n : Int) + 1) = false := by rw [hn.out]; simpa using hq
  have hwr : IntKind.i64.wrap ((n : Int) + 1) = (n : Int) + 1 := wrap_in (by omega) (by omega)
  have HM1 := Hid.mk' m1
  clear m m1 hl hn hq hd
  go_enter Tryd.func11, Tryd.ntmps11
  go_wp2_with fail
  go_quiet (fail)
  go_wp2_with fail
  go_ret
  refine ⟨rfl, (HM1.out.heap (w' := World.drewN _ _) rfl).num rfl, Chg.setCell (F := Fs X u (.slice p n c)) (Chg.ofBelow (bel_drew HB.out _) _) (p := ⟨X, 7, none⟩) (Or.inl rfl) _⟩
set_option maxHeartbeats 2000000 in
theorem r_next (X : Nat) (q : Int) (d : ByteArray) (w : World) (a b k s t : Int) (u g : Value) (o : Bool) (lu lg : List ByteArray) (m : Raw w X a b u k s t g o lu lg) (hd : d.size ≤ 200) (hq : q = (lg.length : Int) + 1) (hl : lg.length ≤ 1000) :
    Calls Tryd.prog 11 #[ptr X, frV false q d] w fun e w' => e = .returned (.int .i64 0) ∧ ∃ g', Raw w' X a b u k s t g' true lu (lg ++ [d]) ∧ Chg (Fs X u g) w w' ∧ ∀ k, Fs X u g' k → Fs X u g k ∨ w.heap.size ≤ k := by
  obtain ⟨p, n, c, rfl, hn⟩ := own_shape m.rg
  have m1 := m.below (below_al w (frO false q d))
  have c4 := blk_cell m1.blk (i := 4) (u := .int .i64 s) rfl
  have c3 := blk_cell m1.blk (i := 3) (u := .int .i64 k) rfl
  have f3 := blk_free m1.blk (i := 3)
  have b0 := blk_cell (heap_alloc_new w (frO false q d)) (i := 0) (u := .bool false) rfl
  have b1 := blk_cell (heap_alloc_new w (frO false q d)) (i := 1) (u := .int .i64 q) rfl
  have b2 := blk_cell (heap_alloc_new w (frO false q d)) (i := 2) (u := .string d) rfl
  have HB := Hid.mk' (below_al w (frO false q d))
  have c6 := blk_cell m1.blk (i := 6) (u := .slice p n c) rfl
  have h : ¬ q < 1 := by omega
  have hdz : ¬ (200 : Int) < d.size := by omega
  have hn9 : n ≤ 1000 := by rw [hn.out]; exact hl
  have hqe : (q == (n : Int) + 1) = true := by rw [hn.out, hq]; simp
  have hwr : IntKind.i64.wrap ((n : Int) + 1) = (n : Int) + 1 := wrap_in (by omega) (by omega)
  have HM1 := Hid.mk' m1
  have HL : Hid (lg.length ≤ 1000) := hl
  have HNW := Hid.mk' (heap_alloc_new w (frO false q d))
  clear m m1 hl hn hq hd
  go_enter Tryd.func11, Tryd.ntmps11
  go_wp2_with fail
  go_quiet (fail)
  go_wp2_with fail
  generalize hw3 : World.drewN _ _ = w3
  have HB3 : Hid (Below w.heap.size w w3) := by rw [Hid, ← hw3]; exact bel_drew HB.out _
  have HM3 : Hid (Raw w3 X a b u k s t (.slice p n c) o lu lg) := by rw [Hid, ← hw3]; exact HM1.out.heap rfl
  have HN3 : Hid (w3.heap[w.heap.size]? = some (frO false q d)) := by rw [Hid, ← hw3]; exact HNW.out
  have y6 := blk_cell HM3.out.blk (i := 6) (u := .slice p n c) rfl
  have y2 := blk_cell HN3.out (i := 2) (u := .string d) rfl
  have HBB : Hid (∀ O, Below w3.heap.size w3 (w3.alloc O).drew) := fun O => ((Below.refl _ w3).alloc (Nat.le_refl _) O).drew
  have HMA : Hid (∀ O, Raw (w3.alloc O).drew X a b u k s t (.slice p n c) o lu lg) := fun O => HM3.out.below (HBB.out O)
  have q8 := fun O => blk_cell (HMA.out O).blk (i := 6) (u := .slice p n c) rfl
  have q7 : ∀ O, (w3.alloc O).cell? ⟨X, 6, none⟩ = some (.slice p n c) := q8
  clear hw3 c3 c4 c6 f3 b0 b1 b2 hqe hwr
  go_region_law (
    (refine step_putT (by rfl) (.tmp 54) (.tmp 57) (by rfl) (.slice p n c) lg d (by rfl) w3.heap.size (by rfl) (by have := HL.out; omega) ((HMA.out _).rg) (heap_alloc_new w3 _) ?_; intro v9 w9 hr9 hg9 hl9; obtain ⟨p9, n9, c9, rfl, _⟩ := own_shape hr9; have HC9 : Hid (Chg (fun k => (Value.slice p n c).ownBlock = some k) w3 w9) := (Chg.ofBelow (HBB.out _) _).trans (Chg.grown hg9 (fun g e => e)); have hbk9 := (HC9.out.block X (HM3.out.lt X (Or.inl rfl)) (fun e => no_end HM3.out.rg HM3.out.blk X e rfl)).trans HM3.out.blk; have q9 := blk_cell hbk9 (i := 6) (u := .slice p n c) rfl; have fq9 := blk_free hbk9 (i := 6); have HR9 := Hid.mk' hr9; have HL9 : Hid (∀ k, (Value.slice p9 n9 c9).ownBlock = some k → (Value.slice p n c).ownBlock = some k ∨ w3.heap.size ≤ k) := at_new hl9 (HBB.out _).size; clear hr9 hg9 hl9 hbk9))
  all_goals
    generalize hw10 : World.setCell w9 _ _ = w10
    obtain ⟨r1, r2, r3⟩ := HM3.out.set_g HC9.out HR9.out HL9.out
    rw [hw10] at r1 r2
    have z7 := blk_cell r1.blk (i := 7) (u := .bool o) rfl
    have fz7 := blk_free r1.blk (i := 7)
    have HR10 := Hid.mk' r1
    have HC10 := Hid.mk' r2
    have HF10 := Hid.mk' r3
    clear hw10 r1 r2 r3 q9 fq9
    go_wp2_with fail
    go_ret
    refine ⟨rfl, .slice p9 n9 c9, HR10.out.num rfl, Chg.setCell (F := Fs X u (.slice p n c)) ((Chg.ofBelow HB3.out _).trans HC10.out) (p := ⟨X, 7, none⟩) (Or.inl rfl) _, fun k hk => (HF10.out k hk).imp id (fun e => Nat.le_trans HB3.out.size e)⟩

theorem rhear_any (M : Nat) (s : Ln) (G : Nat → Prop) (f1 : Bool) (q : Int) (d : ByteArray) (w : World) (h : RAt w M s G) (hi : Inv s) (hf : Fit s) (hd : d.size ≤ maxLen) : Calls Tryd.prog 11 #[ptr M, .agg #[.bool f1, .int .i64 q, .string d]] w fun e w' => e = .returned (.int .i64 (hearE s (f1, q, d))) ∧ RLeft w M G (hearS s (f1, q, d)) w' := by
  have h0 := h
  obtain ⟨u, g, m, hF⟩ := h
  have hf2 := hf.2.1
  have hak := hi.ak
  have stays : ∀ n : Int, n ≠ 0 → hearE s (f1, q, d) = n → hearS s (f1, q, d) = s := fun n hn e => by unfold hearS; rw [e, if_pos hn]
  have back : ∀ n : Int, n ≠ 0 → hearE s (f1, q, d) = n → Calls Tryd.prog 11 #[ptr M, frV f1 q d] w (fun e w' => e = .returned (.int .i64 n) ∧ Below w.heap.size w w') → Calls Tryd.prog 11 #[ptr M, .agg #[.bool f1, .int .i64 q, .string d]] w fun e w' => e = .returned (.int .i64 (hearE s (f1, q, d))) ∧ RLeft w M G (hearS s (f1, q, d)) w' := by
    intro n hn he C
    refine C.mono ?_
    rintro e w' ⟨rfl, hb⟩
    rw [stays n hn he, he]
    exact ⟨rfl, rleft_same h0 hb⟩
  cases f1 with
  | true =>
    by_cases h1 : q < 0
    · exact back 1 (by decide) (by unfold hearE; rw [if_pos rfl, if_pos (Or.inl h1)]) (r_low M q d w _ _ _ _ _ u g _ _ _ m h1)
    · by_cases h2 : (s.said : Int) < q
      · exact back 1 (by decide) (by unfold hearE; rw [if_pos rfl, if_pos (Or.inr h2)]) (r_high M q d w _ _ _ _ _ u g _ _ _ m h1 h2)
      · by_cases h3 : d.size = 0
        · have hd0 : d = e0 := by
            obtain ⟨D⟩ := d
            have : D = #[] := Array.eq_empty_of_size_eq_zero h3
            rw [this]; rfl
          subst hd0
          have he : hearE s (true, q, e0) = 0 := by unfold hearE; rw [if_pos rfl, if_neg (by intro e; rcases e with e | e; exact h1 e; exact h2 e), if_neg (by simpa using h3)]
          have hS : hearS s (true, q, e0) = { s with acked := max s.acked q.toNat } := by unfold hearS; rw [he, if_neg (by decide)]; rfl
          rw [hS, he]
          by_cases h4 : (s.acked : Int) < q
          · have hmx : max s.acked q.toNat = q.toNat := by omega
            refine (r_new M q e0 w _ _ _ _ _ u g _ _ _ m h1 h2 h4).mono ?_
            rintro e w' ⟨rfl, r1, r2⟩
            refine ⟨rfl, rleft_mk hF (u' := u) (g' := g) ?_ r2 (fun k e => Or.inl e)⟩
            show Raw w' M s.win s.wait u (max s.acked q.toNat : Nat) s.said s.ticks g s.owes s.all s.got
            rw [hmx, show ((q.toNat : Nat) : Int) = q by omega]
            exact r1
          · have hmx : max s.acked q.toNat = s.acked := by omega
            rw [hmx]
            refine (r_old M q e0 w _ _ _ _ _ u g _ _ _ m h1 h2 h4).mono ?_
            rintro e w' ⟨rfl, hb⟩
            exact ⟨rfl, rleft_same h0 hb⟩
        · exact back 3 (by decide) (by unfold hearE; rw [if_pos rfl, if_neg (by intro e; rcases e with e | e; exact h1 e; exact h2 e), if_pos h3]) (r_shape M q d w _ _ _ _ _ u g _ _ _ m h1 h2 h3)
  | false =>
    by_cases h1 : q < 1
    · exact back 1 (by decide) (by unfold hearE; rw [if_neg (show ¬ (false = true) by decide), if_pos h1]) (r_dlow M q d w _ _ _ _ _ u g _ _ _ m h1)
    · by_cases h2 : 200 < d.size
      · exact back 4 (by decide) (by unfold hearE; rw [if_neg (show ¬ (false = true) by decide), if_neg h1, if_pos h2]) (r_long M q d w _ _ _ _ _ u g _ _ _ m h1 h2 hd)
      · have he : hearE s (false, q, d) = 0 := by unfold hearE; rw [if_neg (show ¬ (false = true) by decide), if_neg h1, if_neg h2]
        have hS : hearS s (false, q, d) = { s with got := if q = (s.got.length : Int) + 1 then s.got ++ [d] else s.got, owes := true } := by unfold hearS; rw [he, if_neg (by decide)]; rfl
        rw [hS, he]
        by_cases h3 : q = (s.got.length : Int) + 1
        · rw [if_pos h3]
          refine (r_next M q d w _ _ _ _ _ u g _ _ _ m (by omega) h3 (by omega)).mono ?_
          rintro e w' ⟨rfl, g', r1, r2, r3⟩
          exact ⟨rfl, rleft_mk hF r1 r2 r3⟩
        · rw [if_neg h3]
          refine (r_other M q d w _ _ _ _ _ u g _ _ _ m h1 (by omega) h3 (by omega)).mono ?_
          rintro e w' ⟨rfl, r1, r2⟩
          exact ⟨rfl, rleft_mk hF r1 r2 (fun k e => Or.inl e)⟩

end Et
end Go.Proofs.YtaicacnijlneaaaDoor
