/- What New, Book, Marks, Known and Text answer. -/
import Derived.Test.YtgefpcchcegcpaaGreatDoorIk
namespace Go.Proofs.YtgefpcchcegcpaaGreatDoor
namespace Il
set_option linter.unusedVariables false
open Go.ChangeShapes Go.WideShapes Go.ChangeAt Go.RowKit Cm Ka Kb Na Om Oa Oz Oc Og Oi Hm Ia Ib Ic Idc Ie If Ig Ih Ii Ij Ik
open La (bel bel_drew errV_zero errV_ne own_ge own_grow own_below Lies)
open Lj (BookAt BookNew)

set_option maxHeartbeats 1000000 in
theorem leaf_clone (ad : Addr) (n c : Nat) (l : List Bm.Leaf) (w : World) (hl : l.length = n) (hn2 : n ≤ 1048576) (hc : ∀ j u, (La.flat l)[j]? = some u → w.cell? (ad.add j) = some u) :
    Calls Tryz.prog 38 #[.slice (some ad) n c] w fun e w' => ∃ v, e = .returned v ∧ w'.ownsRow w.heap.size 86 3 v n (La.flat l) ∧ Below w.heap.size w w' := by
  obtain ⟨i0, hi, hz0, hz1, hz2⟩ := info_parts Lh.infoLeaf
  have HN : Hid (∀ j u, (La.flat l)[j]? = some u → (w.alloc (.cells #[] 86)).cell? (ad.add j) = some u) := by
    intro j u hu
    exact keep_cell ((Below.refl _ w).alloc (Nat.le_refl _) _) (hc j u hu)
  have HL : Hid (l.length = n) := hl
  have HO : Hid ((w.alloc (.cells #[] 86)).ownsRow w.heap.size 86 3 (.slice (some ⟨w.heap.size, 0, none⟩) 0 0) 0 []) :=
    ⟨rfl, Or.inr ⟨w.heap.size, 0, #[], rfl, Nat.le_refl _, heap_alloc_new w _, Nat.le_refl _, by unfold maxLen; omega, rfl, rfl⟩⟩
  have heq : ∀ (a : Addr) (n c : Nat) (w : World), Sem.run Tryz.prog (binOp .eql 50 (.slice (some a) n c) (.slice none 0 0)) w = .ok (.bool false) w := fun _ _ _ _ => by kernel_rfl
  clear hc hl
  go_enter Tryz.func38, Tryz.ntmps38
  go_wp2_with (at_builtin; refine wpList_append_own_at _ rfl (.tmp 5) (.tmp 6) 50 rfl w.heap.size 86 i0 (.agg #[.string ⟨#[]⟩, .int .i64 0, .bool false]) 3 32 Tryz.underlying50 hi hz0 hz1 hz2 rfl (by decide) (.slice (some ⟨w.heap.size, 0, none⟩) 0 0) 0 [] rfl HO.out ad n c (La.flat l) rfl (by rw [La.flat_length, HL.out]) HN.out (La.flat_one l) (by unfold maxLen; omega) (by omega) (by simp) ?_; intro v' w1 hown' hgrow _ hat; have HOW : Hid (w1.ownsRow w.heap.size 86 3 v' n (La.flat l)) := (by have h9 := hown'; rw [Nat.zero_add, List.nil_append] at h9; exact h9); have HGR : Hid (Below w.heap.size w w1) := ((Below.refl _ w).alloc (Nat.le_refl _) (.cells #[] 86)).grown hgrow (by simp) (by intro j hj; simp [Value.ownBlock] at hj; omega); clear hown' hgrow hat)
  go_ret
  exact ⟨_, rfl, HOW.out, HGR.out⟩
theorem leaf_clone_none (w : World) :
    Calls Tryz.prog 38 #[.slice none 0 0] w fun e w' => e = .returned (.slice none 0 0) ∧ w' = w := by
  have heq : ∀ (w : World), Sem.run Tryz.prog (binOp .eql 50 (.slice none 0 0) (.slice none 0 0)) w = .ok (.bool true) w := fun _ => by kernel_rfl
  go_enter Tryz.func38, Tryz.ntmps38
  go_wp2
  go_ret
  exact ⟨rfl, rfl⟩
theorem book_clone (v : Value) (l : List Bm.Leaf) (w : World) (h : BookAt w v l) (hn : l.length ≤ 1048576) :
    Calls Tryz.prog 38 #[v] w fun e w' => ∃ v', e = .returned v' ∧ BookNew w.heap.size w' v' l ∧ Below w.heap.size w w' := by
  obtain ⟨q, c, rfl, hlf, hc, hcm, hqc⟩ := h
  cases q with
  | none =>
    have hc0 := hqc rfl
    subst hc0
    have hl0 : l = [] := List.eq_nil_of_length_eq_zero (by omega)
    subst hl0
    refine (leaf_clone_none w).mono ?_
    rintro e w' ⟨rfl, rfl⟩
    exact ⟨_, rfl, BookNew.nil _ _, Below.refl _ _⟩
  | some ad =>
    refine (leaf_clone ad l.length c l w rfl hn (fun j u hu => ?_)).mono ?_
    · rcases hlf with e0 | ⟨b, o, hp2, hcs⟩
      · subst e0; simp [La.flat] at hu
      · injection hp2 with hp2
        subst hp2
        rw [Addr.add_lit]; exact La.at_flat hcs j u hu
    · rintro e w' ⟨v', rfl, h1, h2⟩
      exact ⟨v', rfl, ⟨Lj.own_at h1, Lies.own h1⟩, h2⟩
theorem marks_clone (v : Value) (l : List Mk) (w : World) (h : MksAt w v l) (hn : l.length ≤ 1048576) :
    Calls Tryz.prog 39 #[v] w fun e w' => ∃ v', e = .returned v' ∧ MksNew w.heap.size w' v' l ∧ Below w.heap.size w w' := by
  obtain ⟨q, c, rfl, hlf, hc, hcm, hqc⟩ := h
  cases q with
  | none =>
    have hc0 := hqc rfl
    subst hc0
    have hl0 : l = [] := List.eq_nil_of_length_eq_zero (by omega)
    subst hl0
    refine (Nn.clone_none w).mono ?_
    rintro e w' ⟨rfl, rfl⟩
    exact ⟨_, rfl, MksNew.nil _ _, Below.refl _ _⟩
  | some ad =>
    refine (Nf.clone_any ad l.length c l w rfl hn (fun j u hu => ?_)).mono ?_
    · rcases hlf with e0 | ⟨b, o, hp2, hcs⟩
      · subst e0; simp [flat] at hu
      · injection hp2 with hp2
        subst hp2
        rw [Addr.add_lit]; exact at_flat hcs j u hu
    · rintro e w' ⟨v', rfl, h1, h2⟩
      exact ⟨v', rfl, ⟨own_mks h1, La.Lies.own h1⟩, h2⟩

theorem few_book {S : Dq} (I : Inv S) : S.book.length ≤ 300 := (Bm.bookE_zero.1 I.book).1
theorem few_marks {S : Dq} (I : Inv S) : S.marks.length ≤ 40 := (marksE_zero.1 I.marks).1
theorem book_get (D : Nat) (S : Dq) (F : Nat → Prop) (w : World) (h : DocAt w D S F) :
    Calls Tryz.prog 19 #[.pointer (some ⟨D, 0, none⟩)] w fun e w' => ∃ v', e = .returned v' ∧ BookNew w.heap.size w' v' S.book ∧ Below w.heap.size w w' := by
  obtain ⟨m, G, rfl, ok, hF⟩ := h
  have d0 := blk_cell ok.mem.blk (i := 0) (u := m.vb) rfl
  have C := book_clone m.vb S.book w ok.mem.book (by have := few_book ok.inv; omega)
  obtain ⟨pb, nb, cb, hvb⟩ : ∃ p n c, m.vb = .slice p n c := by obtain ⟨p, c, e, _⟩ := ok.mem.book; exact ⟨_, _, _, e⟩
  obtain ⟨D, hD⟩ : ∃ D, D = m.D := ⟨_, rfl⟩
  rw [hvb] at d0 C
  rw [← hD] at d0
  rw [← hD]
  clear ok hF hvb hD
  go_enter Tryz.func19, Tryz.ntmps19
  go_wp2_with fail
  refine C.mono ?_
  rintro e w2 ⟨v2, rfl, hk, hb⟩
  have HK : Hid (BookNew w.heap.size w2 v2 S.book ∧ Below w.heap.size w w2) := ⟨hk, hb⟩
  clear hk hb C
  go_wp2_with fail
  go_ret
  exact ⟨_, rfl, HK.out.1, HK.out.2⟩
theorem marks_get (D : Nat) (S : Dq) (F : Nat → Prop) (w : World) (h : DocAt w D S F) :
    Calls Tryz.prog 21 #[.pointer (some ⟨D, 0, none⟩)] w fun e w' => ∃ v', e = .returned v' ∧ MksNew w.heap.size w' v' S.marks ∧ Below w.heap.size w w' := by
  obtain ⟨m, G, rfl, ok, hF⟩ := h
  have d0 := blk_cell ok.mem.blk (i := 1) (u := m.vm) rfl
  have C := marks_clone m.vm S.marks w ok.mem.marks (by have := few_marks ok.inv; omega)
  obtain ⟨pb, nb, cb, hvb⟩ : ∃ p n c, m.vm = .slice p n c := by obtain ⟨p, c, e, _⟩ := ok.mem.marks; exact ⟨_, _, _, e⟩
  obtain ⟨D, hD⟩ : ∃ D, D = m.D := ⟨_, rfl⟩
  rw [hvb] at d0 C
  rw [← hD] at d0
  rw [← hD]
  clear ok hF hvb hD
  go_enter Tryz.func21, Tryz.ntmps21
  go_wp2_with fail
  refine C.mono ?_
  rintro e w2 ⟨v2, rfl, hk, hb⟩
  have HK : Hid (MksNew w.heap.size w2 v2 S.marks ∧ Below w.heap.size w w2) := ⟨hk, hb⟩
  clear hk hb C
  go_wp2_with fail
  go_ret
  exact ⟨_, rfl, HK.out.1, HK.out.2⟩
theorem known_get (D : Nat) (S : Dq) (F : Nat → Prop) (w : World) (h : DocAt w D S F) :
    Calls Tryz.prog 23 #[.pointer (some ⟨D, 0, none⟩)] w fun e w' => ∃ v', e = .returned v' ∧ KnAt w' v' S.known ∧ Lies w.heap.size v' ∧ Below w.heap.size w w' := by
  obtain ⟨m, G, rfl, ok, hF⟩ := h
  have d0 := blk_cell ok.mem.blk (i := 2) (u := m.vk) rfl
  have hl8 := ok.inv.klen
  obtain ⟨q, c, hvk, hin⟩ := ok.mem.known
  obtain ⟨b, o, rfl, hcs⟩ := hin.some (by intro e; rw [e] at hl8; simp at hl8)
  have C := Dc.clone_cells b o S.known.length c S.known w rfl (by omega) (by omega) hcs
  obtain ⟨D, hD⟩ : ∃ D, D = m.D := ⟨_, rfl⟩
  obtain ⟨n, hn⟩ : ∃ n, n = S.known.length := ⟨_, rfl⟩
  have HN : Hid (n = S.known.length) := hn
  rw [hvk, ← hn, ← hD] at d0
  rw [← hn] at C
  rw [← hD]
  have HL8 : Hid (S.known.length = 8) := hl8
  clear ok hF hvk hD hin hcs hl8 hn
  go_enter Tryz.func23, Tryz.ntmps23
  go_wp2_with fail
  refine C.mono ?_
  rintro e w2 ⟨g, cap, rfl, hg, hcs, _, hb⟩
  have HK : Hid (w.heap.size ≤ g ∧ (∀ j, j < S.known.length → w2.cell? ⟨g, 0 + j, none⟩ = some (.int .i64 (S.known.getD j 0))) ∧ Below w.heap.size w w2) := ⟨hg, by rw [← HN.out]; exact hcs, hb⟩
  clear hg hcs hb C
  go_wp2_with fail
  go_ret
  exact ⟨_, rfl, ⟨_, cap, by rw [← HN.out]; rfl, Or.inr ⟨g, 0, rfl, HK.out.2.1⟩⟩, Lies.at HK.out.1, HK.out.2.2⟩
theorem text_get (D : Nat) (S : Dq) (F : Nat → Prop) (w : World) (h : DocAt w D S F) :
    Calls Tryz.prog 12 #[.pointer (some ⟨D, 0, none⟩)] w fun e w' => e = .returned (.string (Lf.textR S.book)) ∧ Below w.heap.size w w' := by
  obtain ⟨m, G, rfl, ok, hF⟩ := h
  have d0 := blk_cell ok.mem.blk (i := 0) (u := m.vb) rfl
  obtain ⟨q, c, hvb, hin, hc1, hc2, _⟩ := ok.mem.book
  have C := Lf.text_any q S.book.length c S.book w rfl hin (small_book ok.inv.book) (by omega)
  obtain ⟨D, hD⟩ : ∃ D, D = m.D := ⟨_, rfl⟩
  obtain ⟨n, hn⟩ : ∃ n, n = S.book.length := ⟨_, rfl⟩
  obtain ⟨ee, hee⟩ : ∃ ee, ee = errV (Bm.bookE S.book) := ⟨_, rfl⟩
  obtain ⟨tx, htx⟩ : ∃ tx, tx = Lf.textR S.book := ⟨_, rfl⟩
  rw [hvb, ← hn, ← hD] at d0
  rw [← hn, ← hee, ← htx] at C
  rw [← hD, ← htx]
  clear ok hF hvb hD hin hn hee htx hc1 hc2
  go_enter Tryz.func12, Tryz.ntmps12
  go_wp2_with fail
  refine C.mono ?_
  rintro e w2 ⟨rfl, hb⟩
  have HB : Hid (Below w.heap.size w w2) := hb
  clear hb C
  go_wp2_with fail
  go_ret
  exact ⟨rfl, HB.out⟩

/- a new doc -/
theorem new_doc {w w1 : World} (ho : w1.ownsRow w.heap.size 3 1 (.slice (some ⟨w.heap.size, 0, none⟩) 8 8) 8 (List.replicate 8 (.int .i64 0))) (hb : Below w.heap.size w w1) :
    ∃ F, DocAt ((w1.alloc (.map #[] 0)).alloc (.cells #[.slice none 0 0, .slice none 0 0, .slice (some ⟨w.heap.size, 0, none⟩) 8 8, .slice none 0 0, .map (some w1.heap.size)] 74)) (w1.heap.size + 1) d0 F ∧ (∀ g, F g → w.heap.size ≤ g) ∧
      Below w.heap.size w ((w1.alloc (.map #[] 0)).alloc (.cells #[.slice none 0 0, .slice none 0 0, .slice (some ⟨w.heap.size, 0, none⟩) 8 8, .slice none 0 0, .map (some w1.heap.size)] 74)) := by
  have hz : (w1.alloc (.map #[] 0)).heap.size = w1.heap.size + 1 := by simp
  have hlt : w.heap.size < w1.heap.size := (own_lt ho w.heap.size rfl).1
  have hD := heap_alloc_new (w1.alloc (.map #[] 0)) (.cells #[.slice none 0 0, .slice none 0 0, .slice (some ⟨w.heap.size, 0, none⟩) 8 8, .slice none 0 0, .map (some w1.heap.size)] 74)
  rw [hz] at hD
  have hbb : Below w1.heap.size w1 ((w1.alloc (.map #[] 0)).alloc (.cells #[.slice none 0 0, .slice none 0 0, .slice (some ⟨w.heap.size, 0, none⟩) 8 8, .slice none 0 0, .map (some w1.heap.size)] 74)) := ((Below.refl _ w1).alloc (Nat.le_refl _) _).alloc (by simp) _
  have hB : MapAt ((w1.alloc (.map #[] 0)).alloc (.cells #[.slice none 0 0, .slice none 0 0, .slice (some ⟨w.heap.size, 0, none⟩) 8 8, .slice none 0 0, .map (some w1.heap.size)] 74)) w1.heap.size [] := MapAt.below (make_map w1) ((Below.refl _ _).alloc (Nat.le_refl _) _)
  have ho2 := own_below ho hbb
  have hkn : KnAt ((w1.alloc (.map #[] 0)).alloc (.cells #[.slice none 0 0, .slice none 0 0, .slice (some ⟨w.heap.size, 0, none⟩) 8 8, .slice none 0 0, .map (some w1.heap.size)] 74)) (.slice (some ⟨w.heap.size, 0, none⟩) 8 8) (List.replicate 8 0) := by
    refine ⟨some ⟨w.heap.size, 0, none⟩, 8, rfl, Or.inr ⟨w.heap.size, 0, rfl, fun j hj => ?_⟩⟩
    have hj8 : j < 8 := by simpa using hj
    have := ho2.cells (g := w.heap.size) rfl j (.int .i64 0) (by rw [List.getElem?_replicate, if_pos hj8])
    rw [Addr.add_lit] at this
    rw [this, List.getD_eq_getElem?_getD, List.getElem?_replicate, if_pos hj8]; rfl
  let m : Mem := ⟨w1.heap.size + 1, .slice none 0 0, .slice none 0 0, .slice (some ⟨w.heap.size, 0, none⟩) 8 8, .slice none 0 0, w1.heap.size, []⟩
  have hwr : ∀ g, Wr m g → g = w1.heap.size + 1 ∨ g = w1.heap.size := by
    rintro g (e | e | e | ⟨x, hx, e⟩)
    · exact Or.inl e
    · exact Or.inr e
    · cases e
    · cases hx
  refine ⟨fun g => (g = w.heap.size) ∨ Wr m g, ⟨m, fun g => g = w.heap.size, rfl, ⟨⟨hD, Lj.BookAt.nil _, In.nil _, MksAt.nil _, In.nil _, hkn, fun a n c e _ => (by injection e with e; injection e with e; rw [← e]), ⟨[], rfl, World.ownsRow_nil _ _ _ _, fun y hy => (by cases hy)⟩, hB, fun x hx => (by cases hx), List.Pairwise.nil, fun g hg => ?_, fun g hg e => ?_⟩, inv_zero, fun d p hd hk => ?_, fun x hx => (by cases hx)⟩, fun g => Iff.rfl⟩, fun g hg => ?_, hb.trans ⟨hbb.os, hbb.tape, hbb.output, hbb.size, fun k hk => hbb.block k (by omega)⟩⟩
  · have hg2 : g = w.heap.size := hg
    rw [hg2]; exact Nat.lt_of_lt_of_le hlt hbb.size
  · have hg2 : g = w.heap.size := hg
    rcases hwr g e with e | e <;> omega
  · show p ∈ [] ↔ _
    unfold d0 saw
    simp
  · rcases hg with e | e
    · omega
    · rcases hwr g e with e | e <;> omega
theorem made8 : (madeCells (Value.int .i64 0).cells (8 * 1)).toList = List.replicate 8 (.int .i64 0) := by kernel_rfl
set_option maxRecDepth 100000 in
set_option maxHeartbeats 1000000 in
theorem new_any (w : World) : Calls Tryz.prog 24 #[] w fun e w' => ∃ D F, e = .returned (.pointer (some ⟨D, 0, none⟩)) ∧ DocAt w' D d0 F ∧ (∀ g, F g → w.heap.size ≤ g) ∧ Below w.heap.size w w' := by
  have hmm := @run_makeMap Tryz.prog
  obtain ⟨i0, hi, hz0, hz1, hz2⟩ := info_parts Za.infoInt
  go_enter Tryz.func24, Tryz.ntmps24
  go_wp2_with (at_make; refine wpList_make_full _ rfl (.const (.int .i64 8)) (.const (.int .i64 8)) 41 rfl w.heap.size 3 i0 (.int .i64 0) 1 Tryz.underlying41 hi hz0 hz1 .i64 .i64 8 8 8 rfl rfl rfl rfl (by rw [hz2]; omega) (by unfold maxLen; omega) (Nat.le_refl _) ?_; intro w1 hown hgrow; have HO : Hid (w1.ownsRow w.heap.size 3 1 (.slice (some ⟨w.heap.size, 0, none⟩) 8 8) 8 (List.replicate 8 (.int .i64 0))) := (made8 ▸ hown); have HB : Hid (Below w.heap.size w w1) := ⟨hgrow.os, hgrow.tape, hgrow.output, hgrow.size, fun k hk => hgrow.block k hk (by intro e; cases e)⟩; clear hown hgrow)
  go_ret
  obtain ⟨F, r1, r2, r3⟩ := new_doc HO.out HB.out
  exact ⟨_, F, rfl, r1, r2, r3⟩

end Il
end Go.Proofs.YtgefpcchcegcpaaGreatDoor
