/- Package log: a log in memory; New, Doc, Bytes, Safe, Fail, and what a step does. -/
import Derived.Test.YtgefpcchcegcpaaGreatDoorTp
import Derived.Test.YtgefpcchcegcpaaGreatDoorTh
import Derived.Test.YtgefpcchcegcpaaGreatDoorIm
import Derived.Deep.RegionLaw
import Derived.Deep.RegionHeld3
namespace Go.Proofs.YtgefpcchcegcpaaGreatDoor
namespace Tr
set_option linter.unusedVariables false
set_option linter.unusedSimpArgs false
open Go.ChangeShapes Go.WideShapes Go.ChangeAt Go.RowKit Cm Ka Kb Na Om Oa Oz Oc Og Oi Hm Ia Ic Ie Ih Tg Th Tp
open La (bel bel_drew errV_zero errV_ne own_ge own_grow own_below Lies)

theorem Hid.mk' {p : Prop} (h : p) : Hid p := h
def failO (tg : Int) : Option Nat := if tg < 0 then none else some tg.toNat
abbrev five (D : Nat) (vb : Value) (sf tg : Int) (sp : Bool) : Array Value := #[.pointer (some ⟨D, 0, none⟩), vb, .int .i64 sf, .int .i64 tg, .bool sp]
abbrev LgB (w : World) (X D : Nat) (vb : Value) (sf tg : Int) (sp : Bool) : Prop := w.heap[X]? = some (.cells (five D vb sf tg sp) 62)
structure LAt (w : World) (X D : Nat) (vb : Value) (tg : Int) (s : Lg) (Fd : Nat → Prop) (bs : List UInt8) : Prop where
  blk : LgB w X D vb s.safe tg s.stopped
  ok : Ok s
  byt : Bs s bs
  fail : s.fail = failO tg
  top : tg < 9223372036854775808
  doc : DocAt w D (Tg.doc s) Fd
  row : Row w 0 vb bs
  off : ¬ Fd X
  ofr : ∀ g, vb.ownBlock = some g → g ≠ X ∧ ¬ Fd g
def Fs (X : Nat) (vb : Value) (Fd : Nat → Prop) (g : Nat) : Prop := g = X ∨ Fd g ∨ vb.ownBlock = some g
def At (w : World) (X : Nat) (s : Lg) (F : Nat → Prop) : Prop := ∃ D vb tg Fd bs, LAt w X D vb tg s Fd bs ∧ ∀ g, F g ↔ Fs X vb Fd g
section
variable {w w' : World} {X D : Nat} {vb : Value} {tg : Int} {s : Lg} {Fd F : Nat → Prop} {bs : List UInt8}
theorem LAt.ltX (h : LAt w X D vb tg s Fd bs) : X < w.heap.size := (Array.getElem?_eq_some_iff.1 h.blk).1
theorem LAt.lt (h : LAt w X D vb tg s Fd bs) : ∀ g, Fs X vb Fd g → g < w.heap.size := by
  rintro g (e | e | e)
  · rw [e]; exact h.ltX
  · exact h.doc.lt g e
  · exact (own_lt h.row g e).1
theorem LAt.stay (h : LAt w X D vb tg s Fd bs) (hs : Stay (Fs X vb Fd) w w') (hz : w.heap.size ≤ w'.heap.size) : LAt w' X D vb tg s Fd bs :=
  ⟨by unfold LgB; rw [hs X (Or.inl rfl)]; exact h.blk, h.ok, h.byt, h.fail, h.top, h.doc.stay (fun g e => hs g (Or.inr (Or.inl e))) hz, own_stay h.row fun g e => hs g (Or.inr (Or.inr e)), h.off, h.ofr⟩
theorem LAt.below (h : LAt w X D vb tg s Fd bs) (hb : Below w.heap.size w w') : LAt w' X D vb tg s Fd bs := h.stay (fun g hg => hb.block g (h.lt g hg)) hb.size
theorem At.lt (h : At w X s F) : ∀ g, F g → g < w.heap.size := by obtain ⟨D, vb, tg, Fd, bs, m, hF⟩ := h; exact fun g hg => m.lt g ((hF g).1 hg)
theorem At.stay (h : At w X s F) (hs : Stay F w w') (hz : w.heap.size ≤ w'.heap.size) : At w' X s F := by
  obtain ⟨D, vb, tg, Fd, bs, m, hF⟩ := h
  exact ⟨D, vb, tg, Fd, bs, m.stay (fun g hg => hs g ((hF g).2 hg)) hz, hF⟩
theorem At.below (h : At w X s F) (hb : Below w.heap.size w w') : At w' X s F := h.stay (fun g hg => hb.block g (h.lt g hg)) hb.size
theorem At.ok (h : At w X s F) : Ok s := by obtain ⟨D, vb, tg, Fd, bs, m, hF⟩ := h; exact m.ok
/- a block of bytes is no log -/
theorem row_ne {bs : List UInt8} (h : Row w 0 vb bs) {cs : Array Value} (hX : w.heap[X]? = some (.cells cs 62)) : ∀ g, vb.ownBlock = some g → g ≠ X := fun g hg e => by
  obtain ⟨_, cur, hc⟩ := own_lt h g hg
  rw [e, hX] at hc
  injection hc with hc
  injection hc with _ hc _
  exact absurd hc (by decide)
end
/- what a call leaves -/
def Left' (w : World) (X : Nat) (F : Nat → Prop) (s' : Lg) (w' : World) : Prop := ∃ F', At w' X s' F' ∧ Chg F w w' ∧ ∀ g, F' g → F g ∨ w.heap.size ≤ g
theorem left_same {w w' : World} {X : Nat} {F : Nat → Prop} {s : Lg} (h : At w X s F) (hb : Below w.heap.size w w') : Left' w X F s w' := ⟨F, h.below hb, Chg.ofBelow hb F, fun g e => Or.inl e⟩
theorem left_mk {w w' : World} {X D' : Nat} {F : Nat → Prop} {vb vb' : Value} {tg' : Int} {s' : Lg} {Fd Fd' : Nat → Prop} {bs' : List UInt8} (hF : ∀ g, F g ↔ Fs X vb Fd g) (h : LAt w' X D' vb' tg' s' Fd' bs') (hc : Chg F w w') (hl : ∀ g, Fs X vb' Fd' g → F g ∨ w.heap.size ≤ g) : Left' w X F s' w' :=
  ⟨Fs X vb' Fd', ⟨D', vb', tg', Fd', bs', h, fun g => Iff.rfl⟩, hc, hl⟩
/- the log's own block alone was written: safe, how many steps, whether it has stopped -/
theorem LAt.set {w w1 : World} {X D : Nat} {vb : Value} {tg tg' sf' : Int} {sp' : Bool} {s s' : Lg} {Fd : Nat → Prop} {bs : List UInt8} (h : LAt w X D vb tg s Fd bs) (hc : Chg (fun g => g = X) w w1) (hb : LgB w1 X D vb sf' tg' sp') (h1 : s'.safe = sf') (h2 : s'.stopped = sp') (h3 : s'.fail = failO tg') (h4 : tg' < 9223372036854775808) (ho : s'.ops = s.ops) (he : s'.ends = s.ends) (hy : s'.bytes = s.bytes) (hok : Ok s') : LAt w1 X D vb tg' s' Fd bs := by
  refine ⟨by rw [h1, h2]; exact hb, hok, h.byt.same ho he hy, h3, h4, ?_, own_stay h.row fun g e => hc.block g (own_lt h.row g e).1 (h.ofr g e).1, h.off, h.ofr⟩
  have hd : Tg.doc s' = Tg.doc s := by unfold Tg.doc; rw [ho]
  rw [hd]
  exact h.doc.chg hc (fun g e1 e2 => h.off (e2 ▸ e1))

/- a new one -/
set_option maxRecDepth 100000 in
set_option maxHeartbeats 1000000 in
theorem new_any (w : World) : Calls Tryz.prog 5 #[] w fun e w' => ∃ X F, e = .returned (ptr X) ∧ At w' X Tg.new F ∧ (∀ g, F g → w.heap.size ≤ g) ∧ Below w.heap.size w w' := by
  have C := Il.new_any w
  go_enter Tryz.func5, Tryz.ntmps5
  go_wp2_with fail
  refine C.mono ?_
  rintro e w2 ⟨D, Fd, rfl, hd, hf, hb⟩
  have H2 : Hid (DocAt w2 D d0 Fd ∧ (∀ g, Fd g → w.heap.size ≤ g) ∧ Below w.heap.size w w2) := ⟨hd, hf, hb⟩
  clear hd hf hb C
  go_wp2_with fail
  go_ret
  obtain ⟨hd, hf, hb⟩ := H2.out
  have hbn : Below w2.heap.size w2 (w2.alloc (.cells #[.pointer (some ⟨D, 0, none⟩), .slice none 0 0, .int .i64 0, .int .i64 (-1), .bool false] 62)) := (Below.refl _ _).alloc (Nat.le_refl _) _
  refine ⟨w2.heap.size, Fs w2.heap.size (.slice none 0 0) Fd, rfl, ⟨D, .slice none 0 0, -1, Fd, [], ⟨heap_alloc_new w2 _, ok_new, Bs.new, rfl, by decide, hd.below hbn, Row.nil _ _, fun e => by have := hd.lt _ e; omega, fun g e => by cases e⟩, fun g => Iff.rfl⟩, ?_, bel hb hbn⟩
  rintro g (e | e | e)
  · have := hb.size; omega
  · exact hf g e
  · cases e
theorem doc_any (X : Nat) (s : Lg) (F : Nat → Prop) (w : World) (h : At w X s F) : Calls Tryz.prog 11 #[ptr X] w fun e w' => ∃ D Fd, e = .returned (ptr D) ∧ DocAt w' D (Tg.doc s) Fd ∧ (∀ g, Fd g → F g) ∧ Below w.heap.size w w' := by
  obtain ⟨D, vb, tg, Fd, bs, m, hF⟩ := h
  have H : Hid (DocAt w D (Tg.doc s) Fd ∧ ∀ g, Fd g → F g) := ⟨m.doc, fun g e => (hF g).2 (Or.inr (Or.inl e))⟩
  have c0 := blk_cell m.blk (i := 0) (u := .pointer (some ⟨D, 0, none⟩)) rfl
  clear m hF
  go_enter Tryz.func11, Tryz.ntmps11
  go_wp2_with fail
  go_ret
  exact ⟨D, Fd, rfl, H.out.1, H.out.2, Below.refl _ _⟩
theorem bytes_any (X : Nat) (s : Lg) (F : Nat → Prop) (w : World) (h : At w X s F) (hf : Fit s) : Calls Tryz.prog 13 #[ptr X] w fun e w' => e = .returned (.int .i64 s.bytes) ∧ Below w.heap.size w w' := by
  obtain ⟨D, vb, tg, Fd, bs, m, hF⟩ := h
  obtain ⟨p, n, c, rfl, hn⟩ := m.row.shape
  have HN : Hid ((n : Int) = s.bytes) := by rw [Hid, hn.out, m.byt.len]
  have c1 := blk_cell m.blk (i := 1) (u := .slice p n c) rfl
  clear m hF hn hf
  go_enter Tryz.func13, Tryz.ntmps13
  go_wp2_with fail
  go_ret
  exact ⟨by rw [HN.out]; rfl, Below.refl _ _⟩
theorem safe_any (X : Nat) (s : Lg) (F : Nat → Prop) (w : World) (h : At w X s F) (hf : Fit s) : Calls Tryz.prog 14 #[ptr X] w fun e w' => e = .returned (.int .i64 s.safe) ∧ Below w.heap.size w w' := by
  obtain ⟨D, vb, tg, Fd, bs, m, hF⟩ := h
  have c2 := blk_cell m.blk (i := 2) (u := .int .i64 s.safe) rfl
  clear m hF hf
  go_enter Tryz.func14, Tryz.ntmps14
  go_wp2_with fail
  go_ret
  exact ⟨rfl, Below.refl _ _⟩
theorem fail_any (X : Nat) (s : Lg) (F : Nat → Prop) (n : Int) (w : World) (h : At w X s F) (hn : n < 9223372036854775808) : Calls Tryz.prog 7 #[ptr X, .int .i64 n] w fun e w' => e = .returned (.tuple #[]) ∧ Left' w X F (failS s n) w' := by
  obtain ⟨D, vb, tg, Fd, bs, m, hF⟩ := h
  have HM := Hid.mk' m
  have HF := Hid.mk' hF
  have HN := Hid.mk' hn
  have c3 := blk_cell m.blk (i := 3) (u := .int .i64 tg) rfl
  have f3 := blk_free m.blk (i := 3)
  clear m hF hn
  go_enter Tryz.func7, Tryz.ntmps7
  go_wp2_with fail
  go_end0
  have hc : Chg (fun g => g = X) w (w.setCell ⟨X, 3, none⟩ (.int .i64 n)) := (Chg.refl (fun g => g = X) w).setCell (p := ⟨X, 3, none⟩) rfl _
  have hb : LgB (w.setCell ⟨X, 3, none⟩ (.int .i64 n)) X D vb s.safe n s.stopped := by unfold LgB; rw [set_heap HM.out.blk]; rfl
  refine ⟨rfl, left_mk HF.out (HM.out.set (s' := failS s n) hc hb rfl rfl rfl HN.out rfl rfl rfl (ok_fail HM.out.ok n)) (hc.mono fun g e => (HF.out g).2 (Or.inl e)) fun g e => Or.inl ((HF.out g).2 e)⟩

/- a step -/
def tgN (tg : Int) : Int := if 0 < tg then tg - 1 else tg
def stB (tg : Int) : Bool := decide (tg = 0)
theorem stop_fail {tg : Int} : failO tg = some 0 ↔ tg = 0 := by
  unfold failO
  split
  · constructor
    · intro e; cases e
    · intro e; omega
  · constructor
    · intro e; injection e with e; omega
    · intro e; rw [e]; rfl
theorem less_fail {tg : Int} (h : tg ≠ 0) : less (failO tg) = failO (tgN tg) := by
  unfold failO tgN less
  by_cases h1 : tg < 0
  · rw [if_pos h1, if_neg (show ¬ 0 < tg by omega), if_pos h1]; rfl
  · rw [if_neg h1, if_pos (show 0 < tg by omega), if_neg (show ¬ tg - 1 < 0 by omega)]
    show some (tg.toNat - 1) = some (tg - 1).toNat
    rw [show tg.toNat - 1 = (tg - 1).toNat by omega]
abbrev StPost (w : World) (X D : Nat) (vb : Value) (sf tg : Int) (e : Ending) (w' : World) : Prop := e = .returned (.bool (stB tg)) ∧ LgB w' X D vb sf (tgN tg) (stB tg) ∧ Chg (fun g => g = X) w w'
theorem stops_pos (X D : Nat) (vb : Value) (sf tg : Int) (w : World) (h : LgB w X D vb sf tg false) (ht : tg < 9223372036854775808) (hp : 0 < tg) : Calls Tryz.prog 25 #[ptr X] w fun e w' => e = .returned (.bool false) ∧ w' = w.setCell ⟨X, 3, none⟩ (.int .i64 (tg - 1)) := by
  have c3 := blk_cell h (i := 3) (u := .int .i64 tg) rfl
  have f3 := blk_free h (i := 3)
  have hw : IntKind.i64.wrap (tg - 1) = tg - 1 := by rw [IntKind.wrap_i64]; omega
  clear h
  go_enter Tryz.func25, Tryz.ntmps25
  go_wp2_with fail
  go_ret
  exact ⟨rfl, rfl⟩
theorem stops_no (X D : Nat) (vb : Value) (sf tg : Int) (w : World) (h : LgB w X D vb sf tg false) (hp : tg < 0) : Calls Tryz.prog 25 #[ptr X] w fun e w' => e = .returned (.bool false) ∧ w' = w.setCell ⟨X, 4, none⟩ (.bool false) := by
  have c3 := blk_cell h (i := 3) (u := .int .i64 tg) rfl
  have c4 := blk_cell h (i := 4) (u := .bool false) rfl
  have f4 := blk_free h (i := 4)
  have h1 : ¬ 0 < tg := by omega
  have h2 : (tg == 0) = false := by simp; omega
  clear h hp
  go_enter Tryz.func25, Tryz.ntmps25
  go_wp2_with fail
  go_ret
  exact ⟨rfl, rfl⟩
theorem stops_yes (X D : Nat) (vb : Value) (sf : Int) (w : World) (h : LgB w X D vb sf 0 false) : Calls Tryz.prog 25 #[ptr X] w fun e w' => e = .returned (.bool true) ∧ w' = w.setCell ⟨X, 4, none⟩ (.bool true) := by
  have c3 := blk_cell h (i := 3) (u := .int .i64 0) rfl
  have c4 := blk_cell h (i := 4) (u := .bool false) rfl
  have f4 := blk_free h (i := 4)
  clear h
  go_enter Tryz.func25, Tryz.ntmps25
  go_wp2_with fail
  go_ret
  exact ⟨rfl, rfl⟩
theorem stops_any (X D : Nat) (vb : Value) (sf tg : Int) (w : World) (h : LgB w X D vb sf tg false) (ht : tg < 9223372036854775808) : Calls Tryz.prog 25 #[ptr X] w (StPost w X D vb sf tg) := by
  have hc : ∀ i v, Chg (fun g => g = X) w (w.setCell ⟨X, i, none⟩ v) := fun i v => (Chg.refl (fun g => g = X) w).setCell (p := ⟨X, i, none⟩) rfl _
  rcases Int.lt_trichotomy tg 0 with e | e | e
  · have e1 : stB tg = false := decide_eq_false (by omega)
    have e2 : tgN tg = tg := if_neg (by omega)
    refine (stops_no X D vb sf tg w h e).mono ?_
    rintro e w' ⟨rfl, rfl⟩
    exact ⟨by rw [e1], by rw [e1, e2]; unfold LgB; rw [set_heap h]; rfl, hc _ _⟩
  · subst e
    refine (stops_yes X D vb sf w h).mono ?_
    rintro e w' ⟨rfl, rfl⟩
    exact ⟨rfl, by unfold LgB; rw [set_heap h]; rfl, hc _ _⟩
  · have e1 : stB tg = false := decide_eq_false (by omega)
    have e2 : tgN tg = tg - 1 := if_pos e
    refine (stops_pos X D vb sf tg w h ht e).mono ?_
    rintro e w' ⟨rfl, rfl⟩
    exact ⟨by rw [e1], by rw [e1, e2]; unfold LgB; rw [set_heap h]; rfl, hc _ _⟩

end Tr
end Go.Proofs.YtgefpcchcegcpaaGreatDoor
