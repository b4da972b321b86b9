/- NetTypes' mathematics: nodes that only type; as many letters are seen in the end as were typed. No program is named here. -/
import Derived.Test.YtlmdchpbpgcfmaaGreatDoorH1
import Derived.Test.YtlmdchpbpgcfmaaGreatDoorUo
namespace Go.Proofs.YtlmdchpbpgcfmaaGreatDoor
namespace He
set_option linter.unusedVariables false
open Cm Om Hm Um Aa Ab Ja Hc

theorem ord_nd {S : Dq} (O : Ord S) : S.ops.Nodup := (List.pairwise_map.1 (seq_nodup O.seq)).imp (fun h e => h (by rw [e]))
theorem places_nd {l : List Bm.Leaf} (h : Bm.Rise l) : (l.map (·.1)).Nodup :=
  List.pairwise_map.2 (h.imp fun {x y} hl e => by rw [e, Bm.less_irrefl] at hl; cases hl)
theorem leaf_op {S : Dq} (I : Inv S) {x : Bm.Leaf} (hx : x ∈ S.book) : ∃ o ∈ S.ops, o.2.2.1 = x.1 := by
  obtain ⟨_, hl, hr⟩ := Bm.bookE_zero.1 I.book
  have e := Bm.leafAt_mem hr hx
  by_cases h0 : x.2.1 = 0
  · have h9 := hl x hx
    unfold Bm.leafE at h9
    have hs : x.2.2 = true := by
      cases h8 : x.2.2
      · exfalso
        split at h9
        · next h7 => exact h7 h9
        · split at h9
          · cases h9
          · rw [if_pos ⟨h0, h8⟩] at h9; cases h9
      · rfl
    obtain ⟨o, ho, _, h2⟩ := I.st' x.1 (by rw [e]; exact hs)
    exact ⟨o, ho, h2⟩
  · obtain ⟨o, ho, _, h2⟩ := I.wr' x.1 (by rw [e]; exact h0)
    exact ⟨o, ho, h2⟩
/- no more leafs than ops -/
theorem book_le {S : Dq} (I : Inv S) : S.book.length ≤ S.ops.length := by
  have hr := (Bm.bookE_zero.1 I.book).2.2
  have h := List.Nodup.length_le_of_subset (places_nd hr) (l₂ := S.ops.map (·.2.2.1)) (fun p hp => by
    obtain ⟨x, hx, rfl⟩ := List.mem_map.1 hp
    obtain ⟨o, ho, e⟩ := leaf_op I hx
    exact List.mem_map.2 ⟨o, ho, e⟩)
  rwa [List.length_map, List.length_map] at h
/- writes alone, each at a place of its own -/
structure Wd (S : Dq) : Prop where
  wr : ∀ o ∈ S.ops, o.2.1 = 1
  pl : ∀ a ∈ S.ops, ∀ b ∈ S.ops, a.2.2.1 = b.2.2.1 → a = b
theorem op_leaf {S : Dq} (I : Inv S) {o : Ox} (ho : o ∈ S.ops) (h1 : o.2.1 = 1) : ∃ x ∈ S.book, x.1 = o.2.2.1 ∧ x.2.1 ≠ 0 := by
  have hr := (Bm.bookE_zero.1 I.book).2.2
  have h := I.wr o ho h1
  have hl := (lawOf_zero.1 (opE_zero.1 (I.right o ho)).2.2.2).1 h1
  cases hh : Bm.has S.book o.2.2.1.toList with
  | false =>
    exfalso
    unfold Bm.leafAt at h
    rw [hh] at h
    have h9 : (0 : Int) = o.2.2.2.1 := h
    omega
  | true =>
    obtain ⟨m1, m2⟩ := Bm.leafAt_has hr hh
    exact ⟨_, m1, m2, by rw [h]; omega⟩
theorem wd_text {S : Dq} (I : Inv S) (O : Ord S) (h : Wd S) : (seenP S.book).length = S.ops.length := by
  obtain ⟨_, hl, hr⟩ := Bm.bookE_zero.1 I.book
  have hseen : ∀ x ∈ S.book, Bm.isS x = true := fun x hx => by
    have e := Bm.leafAt_mem hr hx
    have hs : x.2.2 = false := by
      cases h8 : x.2.2
      · rfl
      · obtain ⟨o, ho, h2, _⟩ := I.st' x.1 (by rw [e]; exact h8)
        rw [h.wr o ho] at h2; cases h2
    have h0 : x.2.1 ≠ 0 := fun h0 => by
      have h9 := hl x hx
      unfold Bm.leafE at h9
      split at h9
      · next h7 => exact h7 h9
      · split at h9
        · cases h9
        · rw [if_pos ⟨h0, hs⟩] at h9; cases h9
    unfold Bm.isS
    rw [hs]
    simpa using h0
  have e1 : seenP S.book = S.book.map (·.1) := by unfold seenP; rw [List.filter_eq_self.2 hseen]
  have hnd : (S.ops.map (·.2.2.1)).Nodup := by
    refine List.pairwise_map.2 ((ord_nd O).imp_of_mem fun {a b} ha hb hne e => hne (h.pl a ha b hb e))
  have hp : (S.book.map (·.1)).Perm (S.ops.map (·.2.2.1)) := by
    refine (List.perm_ext_iff_of_nodup (places_nd hr) hnd).2 fun p => ⟨fun hp => ?_, fun hp => ?_⟩
    · obtain ⟨x, hx, rfl⟩ := List.mem_map.1 hp
      obtain ⟨o, ho, e⟩ := leaf_op I hx
      exact List.mem_map.2 ⟨o, ho, e⟩
    · obtain ⟨o, ho, rfl⟩ := List.mem_map.1 hp
      obtain ⟨x, hx, e, _⟩ := op_leaf I ho (h.wr o ho)
      exact List.mem_map.2 ⟨x, hx, e⟩
  rw [e1, hp.length_eq, List.length_map]
/- all ops of the first k nodes -/
def allO (N : Nt) : Nat → List Ox
  | 0 => []
  | k + 1 => allO N k ++ (dq N k).ops
structure Typ (N : Nt) : Prop where
  gl : Gl N
  us : N.us = []
  wd : ∀ i, i < N.ds.length → Wd (dq N i)
  who : ∀ i, i < N.ds.length → ∀ o ∈ (dq N i).ops, o.1.1 = (i : Int) + 1
  few : ∀ i, i < N.ds.length → (dq N i).ops.length ≤ 20
theorem allO_mem {N : Nt} : ∀ {k : Nat} {o : Ox}, o ∈ allO N k ↔ ∃ i, i < k ∧ o ∈ (dq N i).ops
  | 0, o => ⟨(fun h => by cases h), fun ⟨i, hi, _⟩ => by omega⟩
  | k + 1, o => by
    show o ∈ allO N k ++ (dq N k).ops ↔ _
    rw [List.mem_append, allO_mem]
    constructor
    · rintro (⟨i, hi, h⟩ | h)
      · exact ⟨i, by omega, h⟩
      · exact ⟨k, by omega, h⟩
    · rintro ⟨i, hi, h⟩
      by_cases e : i < k
      · exact Or.inl ⟨i, e, h⟩
      · obtain rfl : i = k := by omega
        exact Or.inr h
theorem allO_nd {N : Nt} (t : Typ N) : ∀ {k : Nat}, k ≤ N.ds.length → (allO N k).Nodup
  | 0, _ => List.nodup_nil
  | k + 1, h => by
    show (allO N k ++ (dq N k).ops).Nodup
    rw [List.nodup_append]
    refine ⟨allO_nd t (by omega), ord_nd (t.gl.inv k (by omega)).2, fun a ha b hb e => ?_⟩
    obtain ⟨i, hi, hm⟩ := allO_mem.1 ha
    have h1 := t.who i (by omega) a hm
    have h2 := t.who k (by omega) b hb
    rw [e, h2] at h1
    omega
theorem allO_few {N : Nt} (t : Typ N) : ∀ {k : Nat}, k ≤ N.ds.length → (allO N k).length ≤ 20 * k
  | 0, _ => Nat.le_refl _
  | k + 1, h => by
    show (allO N k ++ (dq N k).ops).length ≤ _
    rw [List.length_append]
    have h1 := allO_few t (k := k) (by omega)
    have h2 := t.few k (by omega)
    omega
theorem typ_nw {n : Nat} (hn : n ≤ 4) : Typ (nw n) := by
  have hd : ∀ i, dq (nw n) i = d0 := fun i => by
    unfold dq nw
    rw [List.getD_eq_getElem?_getD, List.getElem?_replicate]
    split <;> rfl
  refine ⟨gl_nw hn, rfl, fun i _ => ?_, fun i _ o ho => ?_, fun i _ => ?_⟩
  · rw [hd]; exact ⟨(fun o ho => by cases ho), fun a ha => by cases ha⟩
  · rw [hd] at ho; cases ho
  · rw [hd]; exact Nat.zero_le _
/- a letter more at a node's end -/
theorem typ_step {N : Nt} (t : Typ N) {i : Nat} (hi : i < N.ds.length) (hk : (dq N i).ops.length < 20) (c : Int) : evE N (1, i, (dq N i).ops.length, c) = 1 ∨ evE N (1, i, (dq N i).ops.length, c) = 8 ∨
    (evE N (1, i, (dq N i).ops.length, c) = 0 ∧ Typ (evS N (1, i, (dq N i).ops.length, c)) ∧ (evS N (1, i, (dq N i).ops.length, c)).ds.length = N.ds.length ∧ (dq (evS N (1, i, (dq N i).ops.length, c)) i).ops.length = (dq N i).ops.length + 1 ∧ ∀ j, j ≠ i → dq (evS N (1, i, (dq N i).ops.length, c)) j = dq N j) := by
  obtain ⟨I, O⟩ := t.gl.inv i hi
  have hw := t.wd i hi
  have htx := wd_text I O hw
  have h4 := t.gl.few
  obtain ⟨S, hS⟩ : ∃ S, S = dq N i := ⟨_, rfl⟩
  have o1 : ¬ out N.ds.length (i : Int) := by unfold out; omega
  have ee : evE N (1, i, S.ops.length, c) = if edE S ((i : Int) + 1) (1, i, S.ops.length, c) ≠ 0 then edE S ((i : Int) + 1) (1, i, S.ops.length, c) else runE S (edL S ((i : Int) + 1) (1, i, S.ops.length, c)) := by
    unfold evE
    show (if isEd 1 = true then _ else _) = _
    rw [if_pos (by decide)]
    show (if out N.ds.length (i : Int) then _ else _) = _
    rw [if_neg o1, hS]
    rfl
  have es : evS N (1, i, S.ops.length, c) = if edE S ((i : Int) + 1) (1, i, S.ops.length, c) ≠ 0 then N else { N with ds := N.ds.set i (runS S (edL S ((i : Int) + 1) (1, i, S.ops.length, c))) } := by
    unfold evS
    show (if isEd 1 = true then _ else _) = _
    rw [if_pos (by decide)]
    show (if out N.ds.length (i : Int) then _ else _) = _
    rw [if_neg o1, hS]
    rfl
  rw [← hS] at I O hw htx hk ⊢
  have ed : edE S ((i : Int) + 1) (1, i, S.ops.length, c) = if c < 32 ∨ 126 < c then 1 else insE S ((i : Int) + 1) (S.ops.length : Nat) (oneT c) := by
    unfold edE
    show (if (1 : Int) = 1 then _ else _) = _
    rw [if_pos rfl]
  by_cases hc : c < 32 ∨ 126 < c
  · rw [if_pos hc] at ed
    rw [ee, ed, if_pos (by decide)]
    exact Or.inl rfl
  · rw [if_neg hc] at ed
    have hwho : Pm.isWho ((i : Int) + 1) = true := by unfold Pm.isWho; simp; omega
    have hlt : okText (oneT c) = true := by
      unfold okText
      rw [one_list]
      simp only [List.all_cons, List.all_nil, Bool.and_true]
      rw [u8_let (by omega) (by omega)]
      unfold Bm.isL; simp; omega
    have hte : textE (oneT c) = 0 := textE_zero.2 ⟨by rw [one_size]; omega, hlt⟩
    have har : aroundE S.book ((S.ops.length : Nat) : Int) = 0 := aroundE_zero.2 ⟨by omega, by rw [htx]; omega⟩
    have hin : insE S ((i : Int) + 1) ((S.ops.length : Nat) : Int) (oneT c) = rowE (leftP S.book S.ops.length) (rightP S.book S.ops.length) ((i : Int) + 1) 1 := by
      unfold insE
      rw [if_neg (by rw [hwho]; decide), if_neg (by simpa using hte), if_neg (by simpa using har)]
      rfl
    have hrow : rowE (leftP S.book S.ops.length) (rightP S.book S.ops.length) ((i : Int) + 1) 1 = Pm.betErr (leftP S.book S.ops.length).toList (rightP S.book S.ops.length).toList ((i : Int) + 1) := row_go (k := 0) rfl
    have hsd : Pm.sides (leftP S.book S.ops.length).toList (rightP S.book S.ops.length).toList = 0 := sides_at I (by rw [htx]; exact Nat.le_refl _)
    rcases Pm.betErr_free hwho hsd with e0 | e8
    · have hz : edE S ((i : Int) + 1) (1, i, S.ops.length, c) = 0 := by rw [ed, hin, hrow, e0]
      have ok : InsOk S ((i : Int) + 1) ((S.ops.length : Nat) : Int) (oneT c) := insE_zero.1 (by rw [hin, hrow, e0])
      have el : edL S ((i : Int) + 1) (1, i, S.ops.length, c) = insL S ((i : Int) + 1) ((S.ops.length : Nat) : Int) (oneT c) := by unfold edL; rw [if_pos rfl]
      have hbl := book_le I
      obtain ⟨r1, r2⟩ := ins_text I ok (by rw [one_size]; omega) (by rw [one_size]; omega)
      obtain ⟨o, q1, q2, q3⟩ := edL_one hz
      rw [el] at q1
      rw [q1] at r1 r2
      have hko : kn S o.1.1 + 1 = o.1.2 := by rw [q2]
      have ha : apE S o = 0 := by
        by_cases h9 : apE S o = 0
        · exact h9
        · unfold runE at r1; rw [if_pos h9] at r1; exact r1
      have hnew := new_of hko ha
      have hrs : runS S [o] = apS S o := by unfold runS; rw [if_neg (by simpa using ha)]; rfl
      have hops : (apS S o).ops = S.ops ++ [o] := by unfold apS; rw [hnew, if_pos rfl]; rfl
      rw [if_neg (by simpa using hz), el, q1] at ee es
      rw [hrs] at es
      have hfr := (ins_fresh I.book ok (k := 0) (by rw [one_size]; omega)).2
      have ho1 : o = insO (leftP S.book S.ops.length) (rightP S.book S.ops.length) ((i : Int) + 1) (kn S ((i : Int) + 1)) (oneT c) 0 := by
        have h9 : insL S ((i : Int) + 1) ((S.ops.length : Nat) : Int) (oneT c) = [insO (leftP S.book S.ops.length) (rightP S.book S.ops.length) ((i : Int) + 1) (kn S ((i : Int) + 1)) (oneT c) 0] := rfl
        rw [h9] at q1
        injection q1 with q1 _
        exact q1.symm
      refine Or.inr (Or.inr ⟨by rw [ee]; exact r1, ?_, by rw [es]; exact List.length_set, ?_, fun j hj => ?_⟩)
      · rw [es]
        have hgl : Gl ⟨N.ds.set i (apS S o), N.us⟩ := by
          have := t.gl.add hi (o := o) (by rw [← hS]; exact hnew) (by rw [q2]) (fun h9 => by rw [q3 h9, q2])
          rwa [← hS] at this
        have hdq : ∀ j, dq ⟨N.ds.set i (apS S o), N.us⟩ j = if j = i then apS S o else dq N j := fun j => dq_set hi N.us
        have hlen : (⟨N.ds.set i (apS S o), N.us⟩ : Nt).ds.length = N.ds.length := List.length_set
        have hnp : ∀ a ∈ S.ops, a.2.2.1 ≠ o.2.2.1 := fun a ha9 e => by
          obtain ⟨x, hx, e1, _⟩ := op_leaf I ha9 (hw.wr a ha9)
          have hr := (Bm.bookE_zero.1 I.book).2.2
          have h9 : Bm.has S.book o.2.2.1.toList = true := (Bm.has_iff hr).2 ⟨x, hx, by rw [e1, e]⟩
          rw [ho1] at h9
          have h8 : Bm.has S.book (nthP (leftP S.book S.ops.length) (rightP S.book S.ops.length) ((i : Int) + 1) 1).toList = true := h9
          have h7 : Bm.has S.book (nthP (leftP S.book S.ops.length) (rightP S.book S.ops.length) ((i : Int) + 1) 1).toList = false := hfr
          rw [h7] at h8; cases h8
        refine ⟨hgl, t.us, fun j hj => ?_, fun j hj x hx => ?_, fun j hj => ?_⟩
        · rw [hlen] at hj
          rw [hdq]
          split
          · refine ⟨fun a ha9 => ?_, fun a ha9 b hb9 e => ?_⟩
            · rw [hops] at ha9
              rcases List.mem_append.1 ha9 with e9 | e9
              · exact hw.wr a e9
              · rw [List.mem_singleton.1 e9, ho1]; rfl
            · rw [hops] at ha9 hb9
              rcases List.mem_append.1 ha9 with e9 | e9 <;> rcases List.mem_append.1 hb9 with e8 | e8
              · exact hw.pl a e9 b e8 e
              · rw [List.mem_singleton.1 e8] at e; exact absurd e (hnp a e9)
              · rw [List.mem_singleton.1 e9] at e; exact absurd e.symm (hnp b e8)
              · rw [List.mem_singleton.1 e9, List.mem_singleton.1 e8]
          · exact t.wd j hj
        · rw [hlen] at hj
          rw [hdq] at hx
          split at hx
          · rename_i e
            rw [hops] at hx
            rcases List.mem_append.1 hx with e9 | e9
            · rw [hS] at e9; rw [e]; exact t.who i hi x e9
            · rw [List.mem_singleton.1 e9, q2, e]
          · exact t.who j hj x hx
        · rw [hlen] at hj
          rw [hdq]
          split
          · rw [hops, List.length_append, List.length_singleton]; omega
          · exact t.few j hj
      · rw [es]
        show (dq ⟨N.ds.set i (apS S o), N.us⟩ i).ops.length = _
        rw [dq_set hi, if_pos rfl, hops, List.length_append]; rfl
      · rw [es]
        show dq ⟨N.ds.set i (apS S o), N.us⟩ j = _
        rw [dq_set hi, if_neg hj]
    · rw [ee, ed, hin, hrow, e8, if_pos (by decide)]
      exact Or.inr (Or.inl rfl)

/- each has sent to each: there is room for all -/
theorem run_room : ∀ (L : List Ox) {S : Dq}, Inv S → (∀ o ∈ L, opE o = 0 ∧ o.2.1 = 1) → S.ops.length + L.length ≤ 200 → runE S L ≠ 4
  | [], S, I, _, _ => by intro h; cases h
  | o :: L, S, I, hL, hl => by
    obtain ⟨h0, h1⟩ := hL o (List.mem_cons_self ..)
    rw [List.length_cons] at hl
    unfold runE
    by_cases ha : apE S o = 0
    · rw [if_neg (by simpa using ha)]
      refine run_room L (inv_ap I) (fun x hx => hL x (List.mem_cons_of_mem _ hx)) ?_
      have : (apS S o).ops.length ≤ S.ops.length + 1 := by
        unfold apS
        split
        · show (S.ops ++ [o]).length ≤ _; rw [List.length_append]; exact Nat.le_refl _
        · omega
      omega
    · rw [if_pos ha]
      intro h4
      unfold apE at h4
      rw [if_neg (by simpa using h0)] at h4
      split at h4
      · cases h4
      · split at h4
        · cases h4
        · rw [if_neg (by omega)] at h4
          have hb := book_le I
          obtain ⟨e1, e2, e3, e4⟩ := opE_zero.1 h0
          have hw : Bm.withE S.book o.2.2.1 = 0 := Bm.withE_zero.2 ⟨I.book, e3⟩
          have hlt := (lawOf_zero.1 e4).1 h1
          have hL' : Bm.isL o.2.2.2.1 = true := by unfold Bm.isL; simp; omega
          unfold doE at h4
          rw [if_pos h1] at h4
          unfold Bm.writeE Bm.wrE at h4
          rw [if_neg (by simpa using hw), if_neg (by rw [hL']; decide)] at h4
          split at h4
          · cases h4
          · unfold Bm.putE at h4
            rw [if_neg (by omega)] at h4
            cases h4
theorem typ_all {N0 : Nt} {o : Ox} (h : Gop N0 o) : o ∈ allO N0 N0.ds.length := allO_mem.2 h
theorem typ_len {N0 N : Nt} (t : Typ N0) {a b : Nat} (s : Sent N0 N a b) {j : Nat} (hj : j < N.ds.length) : (dq N j).ops.length ≤ (allO N0 N0.ds.length).length ∧ (allO N0 N0.ds.length).length ≤ 80 := by
  refine ⟨List.Nodup.length_le_of_subset (ord_nd (s.gl.inv j hj).2) (fun o ho => typ_all ((s.gop o).1 ⟨j, hj, ho⟩)), ?_⟩
  have h1 := allO_few t (Nat.le_refl _)
  have h2 := t.gl.few
  omega
theorem typ_wr {N0 : Nt} (t : Typ N0) {o : Ox} (h : Gop N0 o) : o.2.1 = 1 := by
  obtain ⟨i, hi, hm⟩ := h
  exact (t.wd i hi).wr o hm
theorem typ_send {N0 N : Nt} (t : Typ N0) {a b : Nat} (s : Sent N0 N a b) {i j : Nat} (hi : i < N.ds.length) (hj : j < N.ds.length) : b1E (dq N i) (dq N j) = 0 := by
  rcases b1_err s.gl hi hj with e | e
  · exact e
  · exfalso
    obtain ⟨l1, l2⟩ := typ_len t s hi
    obtain ⟨l3, _⟩ := typ_len t s hj
    have h3 := lack_len (dq N i).ops (dq N j).known
    refine run_room (lackL (dq N i).ops (dq N j).known) (s.gl.inv j hj).1 (fun o ho => ⟨(s.gl.inv i hi).1.right o (lack_mem ho), typ_wr t ((s.gop o).1 ⟨i, hi, lack_mem ho⟩)⟩) (by omega) e
/- then all that was typed is seen -/
theorem typ_end {N0 N : Nt} (t : Typ N0) {a b : Nat} (s : Sent N0 N a b) (ha : N.ds.length ≤ a) {j : Nat} (hj : j < N.ds.length) : (seenP (dq N j).book).length = (allO N0 N0.ds.length).length := by
  obtain ⟨I, O⟩ := s.gl.inv j hj
  have hwd : Wd (dq N j) := ⟨fun o ho => typ_wr t ((s.gop o).1 ⟨j, hj, ho⟩), fun x hx y hy e => by
    have gx := (s.gop x).1 ⟨j, hj, hx⟩
    have gy := (s.gop y).1 ⟨j, hj, hy⟩
    have ex := t.gl.plc x gx (typ_wr t gx)
    have ey := t.gl.plc y gy (typ_wr t gy)
    rw [e] at ex
    have ew : x.1.1 = y.1.1 := by rw [← ex, ← ey]
    have ox := t.gl.own x gx
    have oy := t.gl.own y gy
    rw [ew] at ox
    obtain ⟨w1, w2⟩ := t.gl.who y gy
    exact (t.wd _ (by omega)).pl x ox y oy e⟩
  rw [wd_text I O hwd]
  refine Nat.le_antisymm (typ_len t s hj).1 (List.Nodup.length_le_of_subset (allO_nd t (Nat.le_refl _)) fun o ho => ?_)
  have hg : Gop N0 o := allO_mem.1 ho
  exact s.all o hg (by have h1 := (t.gl.who o hg).2; have h2 := s.len; omega) j hj

/- one op more at one node -/
theorem allO_step {N M : Nt} {i : Nat} (h1 : (dq M i).ops.length = (dq N i).ops.length + 1) (h2 : ∀ j, j ≠ i → dq M j = dq N j) : ∀ k, (allO M k).length = (allO N k).length + (if i < k then 1 else 0)
  | 0 => by rw [if_neg (by omega)]; rfl
  | k + 1 => by
    show (allO M k ++ (dq M k).ops).length = (allO N k ++ (dq N k).ops).length + _
    rw [List.length_append, List.length_append, allO_step h1 h2 k]
    by_cases e : k = i
    · subst e
      rw [h1, if_neg (by omega), if_pos (by omega)]; omega
    · rw [h2 k e]
      by_cases e2 : i < k
      · rw [if_pos e2, if_pos (by omega)]; omega
      · rw [if_neg e2, if_neg (by omega)]; omega
theorem allO_none {N : Nt} : ∀ k, (∀ i, i < k → (dq N i).ops = []) → (allO N k).length = 0
  | 0, _ => rfl
  | k + 1, h => by
    show (allO N k ++ (dq N k).ops).length = 0
    rw [List.length_append, allO_none k (fun i hi => h i (by omega)), h k (by omega)]; rfl
theorem dq_nw (n i : Nat) : dq (nw n) i = d0 := by
  unfold dq nw
  rw [List.getD_eq_getElem?_getD, List.getElem?_replicate]
  split <;> rfl

end He
end Go.Proofs.YtlmdchpbpgcfmaaGreatDoor
