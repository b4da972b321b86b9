
import Derived.Test.YtnbnniapllkjlaaGreatDoorBk
import Derived.Test.YtnbnniapllkjlaaGreatDoorAc
namespace Go.Proofs.YtnbnniapllkjlaaGreatDoor
namespace Bl
set_option linter.unusedVariables false
set_option linter.unusedSimpArgs false
open Go.ChangeShapes Go.WideShapes Go.ChangeAt Go.RowKit Cm Ka Kb Na Om Oa Oz Oc Og Oi Hm Ia Ic Ie Im Um Ba Bf Bg Bh Bi Bj Bk Iq Ac
open La (bel bel_drew own_below flat errV_ne errV_zero LeafsIn)
open Bm (Leaf none0 ahd has leafAt isL)
def UnPost (w : World) (k : Int) (L : List Ox) (e : Ending) (w' : World) : Prop := ∃ v, e = .returned (.tuple #[v, errV k]) ∧ (k = 0 → OpsJ (New w.heap.size w') (New w.heap.size w') w' v L) ∧ (k ≠ 0 → v = .slice none 0 0) ∧ Below w.heap.size w w'
theorem author_any (who : Int) (w : World) : Calls Tryz.prog 28 #[.int .i64 who] w fun e w' => e = .returned (.bool (Pm.isWho who)) ∧ w' = w := by
 by_cases h1 : 1 ≤ who
 ·by_cases h8 : who ≤ 8
  ·have HE : Hid (Pm.isWho who = true) := by unfold Hid Pm.isWho; simp [h1, h8]
   rw [HE.out]
   go_enter Tryz.func28, Tryz.ntmps28
   go_wp2
   go_ret
   exact ⟨rfl, rfl⟩
  ·have HE : Hid (Pm.isWho who = false) := by unfold Hid Pm.isWho; simp; omega
   rw [HE.out]
   go_enter Tryz.func28, Tryz.ntmps28
   go_wp2
   go_ret
   exact ⟨rfl, rfl⟩
 ·have HE : Hid (Pm.isWho who = false) := by unfold Hid Pm.isWho; simp; omega
  rw [HE.out]
  go_enter Tryz.func28, Tryz.ntmps28
  go_wp2
  go_ret
  exact ⟨rfl, rfl⟩
theorem book_own (D : Nat) (S : Dq) (F : Nat → Prop) (w : World) (h : DocAt w D S F) :
  Calls Tryz.prog 36 #[.pointer (some ⟨D, 0, none⟩)] w fun e w' => ∃ v', e = .returned v' ∧ w'.ownsRow w.heap.size 86 3 v' S.book.length (flat S.book) ∧ Below w.heap.size w w' := by
 obtain ⟨m, G, rfl, ok, hF⟩ := h
 have d0 := blk_cell ok.mem.blk (i := 0) (u := m.vb) rfl
 have C : Calls Tryz.prog 63 #[m.vb] w fun e w' => ∃ v', e = .returned v' ∧ w'.ownsRow w.heap.size 86 3 v' S.book.length (flat S.book) ∧ Below w.heap.size w w' := by
  obtain ⟨q, c, hv, hlf, hc, hcm, hqc⟩ := ok.mem.book
  rw [hv]
  cases q with
  | none =>
   have hc0 := hqc rfl
   subst hc0
   have hl0 : S.book = [] := List.eq_nil_of_length_eq_zero (by omega)
   rw [hl0]
   refine (Il.leaf_clone_none w).mono ?_
   rintro e w' ⟨rfl, rfl⟩
   exact ⟨_, rfl, ⟨rfl, Or.inl ⟨rfl, rfl⟩⟩, Below.refl _ _⟩
  | some ad =>
   refine (Il.leaf_clone ad S.book.length c S.book w rfl (by have := (Bm.bookE_zero.1 ok.inv.book).1; omega) (fun j u hu => ?_)).mono ?_
   ·rcases hlf with e0 | ⟨b, o, hp2, hcs⟩
    ·rw [e0] at hu; simp [La.flat] at hu
    ·injection hp2 with hp2
     subst hp2
     rw [Addr.add_lit]; exact La.at_flat hcs j u hu
   ·rintro e w' ⟨v', rfl, h1, h2⟩
    exact ⟨v', rfl, h1, h2⟩
 obtain ⟨pb, nb, cb, hvb⟩ : ∃ p n c, m.vb = .slice p n c := by obtain ⟨p, c, e, _⟩ := ok.mem.book; exact ⟨_, _, _, e⟩
 obtain ⟨D, hD⟩ : ∃ D, D = m.D := ⟨_, rfl⟩
 rw [hvb] at d0 C
 rw [← hD] at d0
 rw [← hD]
 clear ok hF hvb hD
 go_enter Tryz.func36, Tryz.ntmps36
 go_wp2_with fail
 refine C.mono ?_
 rintro e w2 ⟨v2, rfl, hk, hb⟩
 have HK : Hid (w2.ownsRow w.heap.size 86 3 v2 S.book.length (flat S.book) ∧ Below w.heap.size w w2) := ⟨hk, hb⟩
 clear hk hb C
 go_wp2_with fail
 go_ret
 exact ⟨_, rfl, HK.out.1, HK.out.2⟩
structure Us (w wr : World) (T M gk ck : Nat) (S : Dq) (who : Int) (K : List Oy) (n j k : Nat) (vb : Value) (B : List Leaf) (vL : Value) (L : List Oy) : Prop where
 tk : Tk w.heap.size wr T M who S.ops vb B
 kn : RowO wr gk ck K
 row : RowL w.heap.size wr vL L
 nil : ∀ y ∈ L, y.2 = .slice none 0 0 ∧ y.1.2.2.2.2 = []
 ap : vL.ownBlock ≠ some gk
 un : unP S who ((K.map (·.1)).take j).reverse k B (L.map (·.1)) = unP S who (K.map (·.1)).reverse n S.book []
 ln : k + L.length = n
 lb : B.length ≤ 300 + L.length
 bel : Below w.heap.size w wr
section
variable {w wr w1 w2 w3 : World} {T M gk ck : Nat} {S : Dq} {who : Int} {K : List Oy} {n j k : Nat} {vb vb' : Value} {B B' : List Leaf} {vL vL' : Value} {L : List Oy}
theorem cells_ne {w : World} {a b : Nat} {c1 c2 : Array Value} {t1 t2 : TypeId} {f1 f2 : Nat × Nat} (h1 : w.heap[a]? = some (.cells c1 t1 f1)) (h2 : w.heap[b]? = some (.cells c2 t2 f2)) (ht : t1 ≠ t2) : a ≠ b := fun e => by
 rw [e, h2] at h1
 injection h1 with h1
 injection h1 with _ h1 _
 exact ht h1.symm
theorem Us.below (h : Us w wr T M gk ck S who K n j k vb B vL L) (hb : Below wr.heap.size wr w1) : Us w w1 T M gk ck S who K n j k vb B vL L :=
 ⟨h.tk.below hb, h.kn.below hb, own_below h.row hb, h.nil, h.ap, h.un, h.ln, h.lb, La.bel h.bel hb⟩
theorem take_rev {l : List Ox} {j : Nat} (h : j < l.length) : (l.take (j + 1)).reverse = l.getD j oz :: (l.take j).reverse := by
 rw [List.take_succ_eq_append_getElem h, List.reverse_append, List.getD_eq_getElem?_getD, List.getElem?_eq_getElem h]; rfl
theorem Us.skip (h : Us w wr T M gk ck S who K n (j + 1) (k + 1) vb B vL L) (hj : j < (K.map (·.1)).length) (hk : kindP S ((K.map (·.1)).getD j oz) B = 0) : Us w wr T M gk ck S who K n j (k + 1) vb B vL L :=
 ⟨h.tk, h.kn, h.row, h.nil, h.ap, by rw [← h.un, take_rev hj, unP_skip hk], h.ln, h.lb, h.bel⟩
theorem Us.done (h : Us w wr T M gk ck S who K n j k vb B vL L) (hz : j = 0 ∨ k = 0) : unP S who (K.map (·.1)).reverse n S.book [] = (0, L.map (·.1), B) := by
 rw [← h.un]
 rcases hz with rfl | rfl
 ·rfl
 ·exact unP_none _ _ _ _ _
theorem Us.err (h : Us w wr T M gk ck S who K n (j + 1) (k + 1) vb B vL L) (hj : j < (K.map (·.1)).length) (hk : kindP S ((K.map (·.1)).getD j oz) B = 2) (hE : betE who ((K.map (·.1)).getD j oz) B ≠ 0) : (unP S who (K.map (·.1)).reverse n S.book []).1 = betE who ((K.map (·.1)).getD j oz) B := by
 rw [← h.un, take_rev hj, unP_wr hk, if_pos hE]
theorem tk_next (h : Tk w.heap.size wr T M who S.ops vb B) (hc : Chg (fun k => k = T ∨ vb.ownBlock = some k) wr w1) (hT : w1.heap[T]? = some (.cells #[.int .i64 who, vb', .map (some M)] 97)) (hO : w1.ownsRow w.heap.size 86 3 vb' B'.length (flat B')) (ho : Bf.Ok B') (hl : B'.length ≤ 1000) : Tk w.heap.size w1 T M who S.ops vb' B' := by
 refine ⟨hT, hO, h.map.stay (hc.block M h.map.lt ?_), ho, h.tlo, hl, Nat.le_trans h.bs hc.size⟩
 rintro (e | e)
 ·have q := h.blk
  rw [← e] at q
  exact h.map.noCells q
 ·obtain ⟨_, cur, hc9⟩ := own_lt h.book M e
  exact h.map.noCells hc9
theorem Us.push {x : Ox} (h : Us w wr T M gk ck S who K n (j + 1) (k + 1) vb B vL L) (hgk : w.heap.size ≤ gk) (h1 : Tk w.heap.size w1 T M who S.ops vb' B') (hc : Chg (fun k => k = T ∨ vb.ownBlock = some k) wr w1) (hb2 : Below w1.heap.size w1 w2)
  (hown : w3.ownsRow w.heap.size 33 6 vL' (L.length + 1) (flatO L ++ flatO [(x, .slice none 0 0)])) (hg : w2.grownBy w3 vL.ownBlock) (hat : vL'.ownBlock = vL.ownBlock ∨ vL'.ownBlock = some w2.heap.size) (hx : x.2.2.2.2 = [])
  (hu : unP S who ((K.map (·.1)).take j).reverse k B' (L.map (·.1) ++ [x]) = unP S who (K.map (·.1)).reverse n S.book []) (hlb : B'.length ≤ 300 + (L.length + 1)) : Us w w3 T M gk ck S who K n j k vb' B' vL' (L ++ [(x, .slice none 0 0)]) := by
 obtain ⟨kc, kc1, kc2, kc3⟩ := h.kn
 have hgl : gk < wr.heap.size := (Array.getElem?_eq_some_iff.1 kc1).1
 have hgk1 : w1.heap[gk]? = wr.heap[gk]? := hc.block gk hgl (by
  rintro (e | e)
  ·exact cells_ne kc1 h.tk.blk (by decide) e
  ·obtain ⟨_, cur, hc9⟩ := own_lt h.tk.book gk e
   exact cells_ne kc1 hc9 (by decide) rfl)
 have hgl1 : gk < w1.heap.size := Nat.lt_of_lt_of_le hgl hc.size
 have hkn3 : w3.heap[gk]? = wr.heap[gk]? := by
  rw [hg.block gk (Nat.lt_of_lt_of_le hgl1 hb2.size) (fun e => h.ap e.symm), hb2.block gk hgl1, hgk1]
 have hrow2 : RowL w.heap.size w2 vL L := by
  refine own_below (own_stay h.row fun q hq => hc.block q (own_lt h.row q hq).1 ?_) hb2
  obtain ⟨_, cur, hc9⟩ := own_lt h.row q hq
  rintro (e | e)
  ·exact cells_ne hc9 h.tk.blk (by decide) e
  ·obtain ⟨_, cur2, hc8⟩ := own_lt h.tk.book q e
   exact cells_ne hc9 hc8 (by decide) rfl
 have hno : ∀ q t cur f, w2.heap[q]? = some (.cells cur t f) → t ≠ 33 → some q ≠ vL.ownBlock := fun q t cur f hq ht e => by
  obtain ⟨_, cur9, hc9⟩ := own_lt hrow2 q e.symm
  exact cells_ne hq hc9 ht rfl
 have t2 := h1.below hb2
 have hTl : T < w2.heap.size := t2.lt
 have tk3 : Tk w.heap.size w3 T M who S.ops vb' B' := by
  refine ⟨by rw [hg.block T hTl (hno T _ _ _ t2.blk (by decide))]; exact t2.blk, own_stay t2.book fun q hq => ?_, t2.map.stay (hg.block M t2.map.lt fun e => ?_), h1.ok, h1.tlo, h1.len, Nat.le_trans t2.bs hg.size⟩
  ·obtain ⟨hql, cur, hc9⟩ := own_lt t2.book q hq
   exact hg.block q hql (hno q _ _ _ hc9 (by decide))
  ·obtain ⟨_, cur9, hc9⟩ := own_lt hrow2 M e.symm
   exact t2.map.noCells hc9
 refine ⟨tk3, ⟨kc, by rw [hkn3]; exact kc1, kc2, kc3⟩, ?_, ?_, ?_, ?_, ?_, ?_, ?_⟩
 ·show w3.ownsRow _ _ _ _ _ _
  rw [List.length_append, flatO_append]; exact hown
 ·intro y hy
  rcases List.mem_append.1 hy with hy | hy
  ·exact h.nil y hy
  ·rw [List.mem_singleton.1 hy]; exact ⟨rfl, hx⟩
 ·rcases hat with e | e
  ·rw [e]; exact h.ap
  ·rw [e]; intro e9; injection e9 with e9; have := hb2.size; omega
 ·rw [List.map_append]; exact hu
 ·have := h.ln; rw [List.length_append, List.length_singleton]; omega
 ·rw [List.length_append, List.length_singleton]; exact hlb
 ·have hbF : ∀ q, q = T ∨ vb.ownBlock = some q → w.heap.size ≤ q := by
   rintro q (e | e)
   ·rw [e]; exact h.tk.tlo
   ·exact La.own_ge h.tk.book q e
  have hb1 : Below w.heap.size w w1 := hc.below hbF h.bel h.tk.bs
  have hb3 : Below w.heap.size w w2 := La.bel hb1 hb2
  exact hb3.grown hg hb3.size (fun q hq => La.own_ge hrow2 q hq)
end
theorem known_len {S : Dq} (I : Inv S) {who : Int} (h1 : 1 ≤ who) (h8 : who ≤ 8) : kn S who = ((mine S who).length : Int) := I.kno who h1 h8
set_option maxRecDepth 100000 in
set_option maxHeartbeats 4000000 in
theorem undo_bad (D : Nat) (S : Dq) (who n : Int) (w : World) (h : Pm.isWho who = false ∨ n < 0 ∨ 200 < n) :
  Calls Tryz.prog 13 #[.pointer (some ⟨D, 0, none⟩), .int .i64 who, .int .i64 n] w (UnPost w (unE S who n) (unL S who n)) := by
 have hE : unE S who n = 1 := by unfold unE; rw [if_pos h]
 rw [hE]
 have C := author_any who w
 cases hw : Pm.isWho who with
 | false =>
  rw [hw] at C
  clear h hE hw
  go_enter Tryz.func13, Tryz.ntmps13
  go_wp2_with fail
  refine C.mono ?_
  rintro e w1 ⟨rfl, hw9⟩
  obtain rfl := hw9.symm
  go_wp2_with fail
  go_ret2
  exact ⟨_, rfl, fun h => absurd h (by decide), fun _ => rfl, Below.refl _ _⟩
 | true =>
  rw [hw] at C
  have tst : n < 0 ∨ (¬ n < 0 ∧ 200 < n) := by rcases h with e | e; (rw [hw] at e; cases e); omega
  clear h hE hw
  rcases tst with q1 | ⟨q1, q2⟩
  all_goals
   go_enter Tryz.func13, Tryz.ntmps13
   go_wp2_with fail
   refine C.mono ?_
   rintro e w1 ⟨rfl, hw9⟩
   obtain rfl := hw9.symm
   clear C
   go_wp2_with fail
   go_ret2
   exact ⟨_, rfl, fun h => absurd h (by decide), fun _ => rfl, Below.refl _ _⟩
set_option maxRecDepth 100000 in
set_option maxHeartbeats 8000000 in
theorem undo_go (D : Nat) (S : Dq) (F : Nat → Prop) (who : Int) (m : Nat) (w : World) (h : DocAt w D S F) (h1 : 1 ≤ who) (h8 : who ≤ 8) (hm : m ≤ 200) :
  Calls Tryz.prog 13 #[.pointer (some ⟨D, 0, none⟩), .int .i64 who, .int .i64 (m : Int)] w (UnPost w (unE S who m) (unL S who m)) := by
 have hwho : Pm.isWho who = true := by unfold Pm.isWho; simp [h1, h8]
 have C := author_any who w
 rw [hwho] at C
 have hcond : ¬ (Pm.isWho who = false ∨ (m : Int) < 0 ∨ 200 < (m : Int)) := by rw [hwho]; simp; omega
 obtain ⟨U, hU⟩ : ∃ U, unP S who (mine S who).reverse m S.book [] = U := ⟨_, rfl⟩
 have hE : unE S who m = endE U := by unfold unE; rw [if_neg hcond, Int.toNat_natCast, hU]
 have hL : unL S who m = U.2.1 := by unfold unL; rw [Int.toNat_natCast, hU]
 rw [hE, hL]
 have HU : Hid (unP S who (mine S who).reverse m S.book [] = U) := hU
 have HDB : Hid (∀ W, Below w.heap.size w W → DocAt W D S F) := fun W hb => h.below hb
 have HI : Hid (Inv S) := h.inv
 have HKL : Hid (kn S who = ((mine S who).length : Int)) := known_len h.inv h1 h8
 have hml : (mine S who).length ≤ 400 := Nat.le_trans (List.length_filter_le _ _) h.inv.few
 have q1 : ¬ (m : Int) < 0 := by omega
 have q2 : ¬ (200 : Int) < (m : Int) := by omega
 clear h hwho hcond hU hE hL
 go_enter Tryz.func13, Tryz.ntmps13
 go_wp2_with fail
 refine C.mono ?_
 rintro e w0 ⟨rfl, hw9⟩
 obtain rfl := hw9.symm
 clear C
 go_wp2_with fail
 refine (book_own D S F w (HDB.out w (Below.refl _ _))).mono ?_
 rintro e w1 ⟨vb, rfl, ho1, hb1⟩
 have HO1 : Hid (w1.ownsRow w.heap.size 86 3 vb S.book.length (flat S.book)) := ho1
 have HB1 : Hid (Below w.heap.size w w1) := hb1
 clear ho1 hb1
 go_wp2_with fail
 refine (ops_get D S F w1 (HDB.out w1 HB1.out)).mono ?_
 rintro e w2 ⟨v2, rfl, hn2, hb2⟩
 have HB2 : Hid (Below w.heap.size w w2) := bel HB1.out hb2
 have HO2 : Hid (w2.ownsRow w.heap.size 86 3 vb S.book.length (flat S.book)) := own_below HO1.out hb2
 have HN2 : Hid (OpsAt w2 v2 S.ops) := hn2.at
 clear hn2 hb2 HO1 HB1
 go_wp2_with fail
 refine (strikesAt_any v2 S.ops w2 HN2.out (by have := HI.out.few; omega)).mono ?_
 rintro e w3 ⟨M, rfl, hm3, hM3, hb3⟩
 have HB3 : Hid (Below w.heap.size w w3) := bel HB2.out hb3
 have HO3 : Hid (w3.ownsRow w.heap.size 86 3 vb S.book.length (flat S.book)) := own_below HO2.out hb3
 have HM3 : Hid (MapC w3 M S.ops) := hm3
 clear hm3 hb3 hM3 HO2 HN2 HB2
 obtain ⟨pb, nb, cb, rfl, _⟩ := own_shape HO3.out
 have HTK : Hid (Tk w.heap.size (w3.alloc (.cells #[.int .i64 who, .slice pb nb cb, .map (some M)] 97)) w3.heap.size M who S.ops (.slice pb nb cb) S.book) := by
  have hba : Below w3.heap.size w3 (w3.alloc (.cells #[.int .i64 who, .slice pb nb cb, .map (some M)] 97)) := (Below.refl _ _).alloc (Nat.le_refl _) _
  exact ⟨heap_alloc_new w3 _, own_below HO3.out hba, HM3.out.below hba, ok_book HI.out.book, HB3.out.size, by have := (Bm.bookE_zero.1 HI.out.book).1; omega, Nat.le_trans HB3.out.size hba.size⟩
 have HB4 : Hid (Below w.heap.size w (w3.alloc (.cells #[.int .i64 who, .slice pb nb cb, .map (some M)] 97))) := HB3.out.alloc HB3.out.size _
 go_wp2_with fail
 generalize hw4 : w3.alloc _ = w4
 rw [hw4] at HTK HB4
 generalize hT : w3.heap.size = T
 rw [hT] at HTK
 clear hw4 hT HO3 HM3 HB3
 refine (opsOf_any D S F who w4 (HDB.out w4 HB4.out)).mono ?_
 rintro e w5 ⟨v5, rfl, hn5, hb5⟩
 obtain ⟨gk, ck, K, rfl, hgk, hKm, hKr, hKc, hck, hKo⟩ := hn5
 have HKM : Hid (K.map (·.1) = mine S who) := hKm
 have HGK : Hid (w.heap.size ≤ gk) := Nat.le_trans HB4.out.size hgk
 have HKO : Hid (∀ y ∈ K, ∃ q n k, y.2 = .slice q n k) := fun y hy => by
  obtain ⟨q, c, e, _⟩ := own_dts (hKo y hy)
  exact ⟨_, _, _, e⟩
 have HUS : Hid (Us w w5 T M gk ck S who K m (mine S who).length m (.slice pb nb cb) S.book (.slice none 0 0) []) :=
  ⟨HTK.out.below hb5, hKr, ⟨rfl, Or.inl ⟨rfl, rfl⟩⟩, (fun y hy => by cases hy), (by intro e; cases e), by rw [← hKm, List.take_length]; rfl, by simp, by have := (Bm.bookE_zero.1 HI.out.book).1; simp; omega, bel HB4.out hb5⟩
 obtain ⟨l, hl⟩ : ∃ l, (mine S who).length = l := ⟨_, rfl⟩
 rw [hl] at hml HUS HKL hKc ⊢
 have HLL : Hid ((K.map (·.1)).length = l) := by rw [Hid, hKm]; exact hl
 have hKc' : l ≤ ck := hKc
 have HE : Hid (∀ L B vb (vL : Value) wr j k, Us w wr T M gk ck S who K m j k vb B vL L → (j = 0 ∨ k = 0) → U = (0, L.map (·.1), B)) := fun L B vb vL wr j k hu hz => by rw [← HU.out, ← HKM.out]; exact hu.done hz
 clear hb5 hgk hKm hKr hKo HTK HB4 hl hKc HDB
 go_wp2_with fail
 go_loopw [10, 11, 12, 13, 14] (fun vL vi _ _ _ wr => ∃ (j k : Nat) (vb : Value) (B : List Leaf) (L : List Oy), vi = .int .i64 ((j : Int) - 1) ∧ j ≤ l ∧ Hid (Us w wr T M gk ck S who K m j k vb B vL L)) (fun _ vi _ _ _ _ => (intOf vi + 1).toNat)
 case atStart => exact ⟨l, m, _, S.book, [], rfl, by omega, HUS⟩
 case round =>
  clear HUS
  obtain ⟨j, k, vb, B, L, rfl, hj, HZ⟩ := hrel
  obtain ⟨pL, nL, cL, rfl, hnL⟩ := own_shape HZ.out.row
  have HNL : Hid (nL = L.length) := hnL
  have hkm : k + nL = m := by have := HZ.out.ln; rw [HNL.out]; exact this
  clear hnL
  by_cases hend : j = 0 ∨ k = 0
  ·have HUE : Hid (U = (0, L.map (·.1), B)) := HE.out _ _ _ _ _ _ _ HZ.out hend
   have t8c := blk_cell HZ.out.tk.blk (i := 1) (u := vb) rfl
   obtain ⟨pv, nv, cv, rfl, hnv⟩ := own_shape HZ.out.tk.book
   have HNV : Hid (nv = B.length) := hnv
   have hnv1 : nv ≤ 1000 := by rw [HNV.out]; exact HZ.out.tk.len
   clear hnv HE
   have HPO : Hid (OpsJ (New w.heap.size wr) (New w.heap.size wr) wr (.slice pL nL cL) (L.map (·.1))) := OpsJ.own HZ.out.row fun y hy => by
    obtain ⟨e1, e2⟩ := HZ.out.nil y hy
    rw [e1, e2]; exact ⟨DtsAt.nil _, fun a n c e _ => by cases e⟩
   have HBE : Hid (Below w.heap.size w wr) := HZ.out.bel
   have ht : ¬ (0 : Int) ≤ (j : Int) - 1 ∨ ((0 : Int) ≤ (j : Int) - 1 ∧ ¬ (nL : Int) < (m : Int)) := by omega
   by_cases hfull : 300 < nv
   ·have hfz : (300 : Int) < nv := by omega
    have HFL : Hid (300 < B.length) := by rw [Hid, ← HNV.out]; exact hfull
    rcases ht with t1 | ⟨t1, t2⟩
    all_goals
     go_wp2_with fail
     go_ret2
     rw [HUE.out]
     refine ⟨_, by rw [end_full HFL.out]; rfl, fun e => ?_, fun _ => rfl, HBE.out⟩
     rw [end_full HFL.out] at e; exact absurd e (by decide)
   ·have hfz : ¬ (300 : Int) < nv := by omega
    have HFL : Hid (¬ 300 < B.length) := by rw [Hid, ← HNV.out]; exact hfull
    rcases ht with t1 | ⟨t1, t2⟩
    all_goals
     go_wp2_with fail
     go_ret2
     rw [HUE.out]
     refine ⟨_, by rw [end_ok HFL.out]; rfl, fun _ => HPO.out, fun e => ?_, HBE.out⟩
     rw [end_ok HFL.out] at e; exact absurd rfl e
  ·obtain ⟨j, rfl⟩ : ∃ j', j = j' + 1 := ⟨j - 1, by omega⟩
   obtain ⟨k, rfl⟩ : ∃ k', k = k' + 1 := ⟨k - 1, by omega⟩
   rw [show ((j + 1 : Nat) : Int) - 1 = (j : Int) by omega]
   clear HE
   have t1 : (0 : Int) ≤ (j : Int) := by omega
   have t2 : (nL : Int) < (m : Int) := by omega
   have hjz : (j : Int) < l := by omega
   have hjw : IntKind.i64.wrap ((j : Int) - 1) = (j : Int) - 1 := wrap_in (by omega) (by omega)
   have HJ : Hid (j < (K.map (·.1)).length) := by rw [Hid, HLL.out]; omega
   have hjk : j < K.length := by have := HJ.out; rwa [List.length_map] at this
   have hy := List.getElem?_eq_getElem hjk
   have hat := HZ.out.kn.at hy
   obtain ⟨qs, ns, cs, hvs⟩ := HKO.out _ (List.getElem_mem hjk)
   have HX : Hid ((K.map (·.1)).getD j oz = K[j].1) := by rw [Hid, List.getD_eq_getElem?_getD, List.getElem?_map, hy]; rfl
   obtain ⟨y, hye⟩ : ∃ y, K[j] = y := ⟨_, rfl⟩
   rw [hye] at hat hvs HX
   obtain ⟨⟨⟨xa, xb⟩, t, p, c0, ss⟩, vs⟩ := y
   dsimp only at hat hvs HX
   subst hvs
   have a0 := hat 0 _ rfl
   have a1 := hat 1 _ rfl
   have a2 := hat 2 _ rfl
   have a3 := hat 3 _ rfl
   have a4 := hat 4 _ rfl
   have a5 := hat 5 _ rfl
   rw [Nat.add_zero] at a0
   dsimp only at a0 a1 a2 a3 a4
   obtain ⟨g, hg, CT⟩ := back_any w.heap.size T M who S xa xb t p c0 ss (.slice qs ns cs) vb ⟨_, _, _, rfl⟩ B wr HZ.out.tk
   have HG : Hid (∀ k, k = T ∨ k = g → k = T ∨ vb.ownBlock = some k) := fun k hk => by rcases hk with e | e; exact Or.inl e; exact hg k e
   clear hat hy hye hg
   go_wp2_with fail
   refine CT.mono ?_
   clear CT a0 a1 a2 a3 a4 a5
   rintro e w1 (⟨hk, rfl, hb1⟩ | ⟨hk, rfl, ⟨v1, hT1, hO1⟩, hc1⟩ | ⟨hk, hE, rfl, hb1⟩ | ⟨hk, hE, rfl, ⟨v1, hT1, hO1⟩, hc1⟩)
   ·have HS : Hid (Us w w1 T M gk ck S who K m j (k + 1) vb B (.slice pL nL cL) L) := (HZ.out.skip HJ.out (by rw [HX.out]; exact hk)).below hb1
    have HS2 : Hid (Us w (w1.alloc (.cells #[.int .i64 0, .int .i64 0, .int .i64 0, .string ⟨#[]⟩, .int .i64 0, .slice none 0 0] 33)) T M gk ck S who K m j (k + 1) vb B (.slice pL nL cL) L) := HS.out.below ((Below.refl _ _).alloc (Nat.le_refl _) _)
    clear hk hb1 HS HZ
    unfold opZ
    go_wp2_with fail
    go_roundw
    case rel => exact ⟨j, k + 1, vb, B, L, rfl, by omega, HS2⟩
    case measure => first | (simp [intOf]; done) | (simp [intOf]; omega)
   ·have HOK : Hid (Bf.Ok (stB ((xa, xb), t, p, c0, ss) B) ∧ (stB ((xa, xb), t, p, c0, ss) B).length ≤ B.length + 1) := ⟨(st_ok HZ.out.tk.ok (kind_has (by rw [hk]; decide))).1, by rw [(st_ok HZ.out.tk.ok (kind_has (by rw [hk]; decide))).2]; omega⟩
    have HLB : Hid (B.length ≤ 300 + L.length) := HZ.out.lb
    have hLm : nL ≤ 200 := by omega
    have HTK : Hid (Tk w.heap.size w1 T M who S.ops v1 (stB ((xa, xb), t, p, c0, ss) B)) := tk_next HZ.out.tk (hc1.mono HG.out) hT1 hO1 HOK.out.1 (by have q1 := HOK.out.2; have q2 := HLB.out; have q3 := HNL.out; omega)
    have HC1 : Hid (Chg (fun k => k = T ∨ vb.ownBlock = some k) wr w1) := hc1.mono HG.out
    have hk9 := hk
    have HUN : Hid (unP S who ((K.map (·.1)).take j).reverse k (stB ((xa, xb), t, p, c0, ss) B) (L.map (·.1) ++ [((who, (l : Int) + (nL : Int) + 1), 2, p, 0, [])]) = unP S who (K.map (·.1)).reverse m S.book []) := by
     rw [Hid, ← HZ.out.un, take_rev HJ.out, HX.out, unP_st hk]
     congr 2
     unfold stO
     rw [HKL.out, List.length_map, HNL.out, show (l : Int) + 1 + (L.length : Int) = (l : Int) + (L.length : Int) + 1 by omega]
    clear hk hk9 hT1 hO1 hc1
    have hO9 : (w1.alloc (.cells #[.int .i64 0, .int .i64 0, .int .i64 2, .string p, .int .i64 0, .slice none 0 0] 33)).heap[w1.heap.size]? = some (.cells #[.int .i64 0, .int .i64 0, .int .i64 2, .string p, .int .i64 0, .slice none 0 0] 33) := heap_alloc_new w1 _
    have z0 := blk_cell hO9 (i := 0) (u := .int .i64 0) rfl
    have y0 := blk_free hO9 (i := 0)
    have z1 := blk_cell hO9 (i := 1) (u := .int .i64 0) rfl
    have y1 := blk_free hO9 (i := 1)
    have z2 := blk_cell hO9 (i := 2) (u := .int .i64 2) rfl
    have z3 := blk_cell hO9 (i := 3) (u := .string p) rfl
    have z4 := blk_cell hO9 (i := 4) (u := .int .i64 0) rfl
    have z5 := blk_cell hO9 (i := 5) (u := .slice none 0 0) rfl
    have HB9 : Hid (Below w1.heap.size w1 (w1.alloc (.cells #[.int .i64 who, .int .i64 ((l : Int) + (nL : Int) + 1), .int .i64 2, .string p, .int .i64 0, .slice none 0 0] 33))) := (Below.refl _ _).alloc (Nat.le_refl _) _
    have HB3 : Hid (Below w1.heap.size w1 ((w1.alloc (.cells #[.int .i64 who, .int .i64 ((l : Int) + (nL : Int) + 1), .int .i64 2, .string p, .int .i64 0, .slice none 0 0] 33)).alloc (.cells #[.int .i64 who, .int .i64 ((l : Int) + (nL : Int) + 1), .int .i64 2, .string p, .int .i64 0, .slice none 0 0] 33))) := HB9.out.alloc HB9.out.size _
    have HROW : Hid (((w1.alloc (.cells #[.int .i64 who, .int .i64 ((l : Int) + (nL : Int) + 1), .int .i64 2, .string p, .int .i64 0, .slice none 0 0] 33)).alloc (.cells #[.int .i64 who, .int .i64 ((l : Int) + (nL : Int) + 1), .int .i64 2, .string p, .int .i64 0, .slice none 0 0] 33)).ownsRow w.heap.size 33 6 (.slice pL nL cL) nL (flatO L)) := by
     have q := own_below (own_stay HZ.out.row fun q hq => HC1.out.block q (own_lt HZ.out.row q hq).1 (by
      obtain ⟨_, cur, hc9⟩ := own_lt HZ.out.row q hq
      rintro (e | e)
      ·exact cells_ne hc9 HZ.out.tk.blk (by decide) e
      ·obtain ⟨_, cur2, hc8⟩ := own_lt HZ.out.tk.book q e
       exact cells_ne hc9 hc8 (by decide) rfl)) HB3.out
     rw [← HNL.out] at q; exact q
    have HNW : Hid (∀ i u, (flatO [(((who, (l : Int) + (nL : Int) + 1), 2, p, 0, ([] : List Dt)), Value.slice none 0 0)])[i]? = some u → ((w1.alloc (.cells #[.int .i64 who, .int .i64 ((l : Int) + (nL : Int) + 1), .int .i64 2, .string p, .int .i64 0, .slice none 0 0] 33)).alloc (.cells #[.int .i64 who, .int .i64 ((l : Int) + (nL : Int) + 1), .int .i64 2, .string p, .int .i64 0, .slice none 0 0] 33)).cell? ((⟨w1.heap.size + 1, 0, none⟩ : Addr).add i) = some u) := fun i u hu => by
     rw [Addr.add_lit, Nat.zero_add]
     have q := heap_alloc_new (w1.alloc (.cells #[.int .i64 who, .int .i64 ((l : Int) + (nL : Int) + 1), .int .i64 2, .string p, .int .i64 0, .slice none 0 0] 33)) (.cells #[.int .i64 who, .int .i64 ((l : Int) + (nL : Int) + 1), .int .i64 2, .string p, .int .i64 0, .slice none 0 0] 33)
     rw [show (w1.alloc (.cells #[.int .i64 who, .int .i64 ((l : Int) + (nL : Int) + 1), .int .i64 2, .string p, .int .i64 0, .slice none 0 0] 33)).heap.size = w1.heap.size + 1 by simp] at q
     rw [show flatO [(((who, (l : Int) + (nL : Int) + 1), 2, p, 0, ([] : List Dt)), Value.slice none 0 0)] = [.int .i64 who, .int .i64 ((l : Int) + (nL : Int) + 1), .int .i64 2, .string p, .int .i64 0, .slice none 0 0] from rfl] at hu
     exact blk_cell q (by simpa using hu)
    have hbs : w.heap.size ≤ ((w1.alloc (.cells #[.int .i64 who, .int .i64 ((l : Int) + (nL : Int) + 1), .int .i64 2, .string p, .int .i64 0, .slice none 0 0] 33)).alloc (.cells #[.int .i64 who, .int .i64 ((l : Int) + (nL : Int) + 1), .int .i64 2, .string p, .int .i64 0, .slice none 0 0] 33)).heap.size := Nat.le_trans HTK.out.bs HB3.out.size
    obtain ⟨i0, hi, hz0, hz1, hz2⟩ := info_parts Ii.infoO
    have hw1 : IntKind.i64.wrap ((l : Int) + (nL : Int)) = (l : Int) + (nL : Int) := wrap_in (by omega) (by omega)
    have hw2 : IntKind.i64.wrap ((l : Int) + (nL : Int) + 1) = (l : Int) + (nL : Int) + 1 := wrap_in (by omega) (by omega)
    clear hO9
    go_wp2_with (at_builtin; refine wpList_append_own_at _ rfl (.tmp 72) (.tmp 74) 22 rfl w.heap.size 33 i0 (.agg #[.int .i64 0, .int .i64 0, .int .i64 0, .string ⟨#[]⟩, .int .i64 0, .slice none 0 0]) 6 72 Tryz.underlying22 hi hz0 hz1 hz2 rfl (by decide) (.slice pL nL cL) nL (flatO L) rfl HROW.out ⟨w1.heap.size + 1, 0, none⟩ 1 1 (flatO [(((who, (l : Int) + (nL : Int) + 1), 2, p, 0, ([] : List Dt)), Value.slice none 0 0)]) rfl rfl HNW.out (by intro u hu; simp [flatO, six] at hu; rcases hu with rfl | rfl | rfl | rfl | rfl | rfl <;> rfl) (by unfold maxLen; omega) (by omega) hbs ?_; intro v9 w9 hown9 hg9 _ hat9; obtain ⟨p9, n9, c9, rfl, _⟩ := own_shape hown9; have HUS : Hid (Us w w9 T M gk ck S who K m j k v1 (stB ((xa, xb), t, p, c0, ss) B) (.slice p9 n9 c9) (L ++ [(((who, (l : Int) + (nL : Int) + 1), 2, p, 0, ([] : List Dt)), Value.slice none 0 0)])) := HZ.out.push HGK.out HTK.out HC1.out HB3.out (by rw [← HNL.out]; exact hown9) hg9 hat9 rfl HUN.out (by have q1 := HOK.out.2; have q2 := HLB.out; omega); clear hown9 hg9 hat9)
    go_roundw
    case rel => exact ⟨j, k, v1, _, _, rfl, by omega, HUS⟩
    case measure => first | (simp [intOf]; done) | (simp [intOf]; omega)
   ·have HEU : Hid (U.1 = betE who ((xa, xb), t, p, c0, ss) B) := by have := HZ.out.err HJ.out (by rw [HX.out]; exact hk) (by rw [HX.out]; exact hE); rw [HX.out, HKM.out, HU.out] at this; exact this
    have HEN : Hid (betE who ((xa, xb), t, p, c0, ss) B ≠ 0) := hE
    have HB1 : Hid (Below w.heap.size w (w1.alloc (.cells #[.int .i64 0, .int .i64 0, .int .i64 0, .string ⟨#[]⟩, .int .i64 0, .slice none 0 0] 33))) := bel (bel HZ.out.bel hb1) ((Below.refl _ _).alloc (Nat.le_refl _) _)
    rw [errV_ne hE]
    generalize betE who ((xa, xb), t, p, c0, ss) B = E at HEU HEN ⊢
    clear hk hE hb1
    unfold opZ
    go_wp2_with fail
    go_ret2
    have hen : endE U = E := by rw [end_err (by rw [HEU.out]; exact HEN.out)]; exact HEU.out
    rw [hen]
    exact ⟨_, by rw [errV_ne HEN.out]; rfl, fun e => absurd e HEN.out, fun _ => rfl, HB1.out⟩
   ·have HOK : Hid (Bf.Ok (wrB who ((xa, xb), t, p, c0, ss) B) ∧ (wrB who ((xa, xb), t, p, c0, ss) B).length ≤ B.length + 1) := ⟨(wr_ok HZ.out.tk.ok (kind_has (by rw [hk]; decide)) hE (kind_two hk).2.1).1, by rw [(wr_ok HZ.out.tk.ok (kind_has (by rw [hk]; decide)) hE (kind_two hk).2.1).2]; omega⟩
    have HLB : Hid (B.length ≤ 300 + L.length) := HZ.out.lb
    have hLm : nL ≤ 200 := by omega
    have HTK : Hid (Tk w.heap.size w1 T M who S.ops v1 (wrB who ((xa, xb), t, p, c0, ss) B)) := tk_next HZ.out.tk (hc1.mono HG.out) hT1 hO1 HOK.out.1 (by have q1 := HOK.out.2; have q2 := HLB.out; have q3 := HNL.out; omega)
    have HC1 : Hid (Chg (fun k => k = T ∨ vb.ownBlock = some k) wr w1) := hc1.mono HG.out
    have hk9 := hk
    have HUN : Hid (unP S who ((K.map (·.1)).take j).reverse k (wrB who ((xa, xb), t, p, c0, ss) B) (L.map (·.1) ++ [((who, (l : Int) + (nL : Int) + 1), 1, newP who ((xa, xb), t, p, c0, ss) B, let' ((xa, xb), t, p, c0, ss) B, [])]) = unP S who (K.map (·.1)).reverse m S.book []) := by
     rw [Hid, ← HZ.out.un, take_rev HJ.out, HX.out, unP_wr hk, if_neg (by simpa using hE)]
     congr 2
     unfold wrO
     rw [HKL.out, List.length_map, HNL.out, show (l : Int) + 1 + (L.length : Int) = (l : Int) + (L.length : Int) + 1 by omega]
    obtain ⟨pl, hpl⟩ : ∃ pl : ByteArray, newP who ((xa, xb), t, p, c0, ss) B = pl := ⟨_, rfl⟩
    obtain ⟨lt, hlt⟩ : ∃ lt : Int, let' ((xa, xb), t, p, c0, ss) B = lt := ⟨_, rfl⟩
    rw [hpl, hlt] at HUN
    rw [hpl, hlt]
    clear hpl hlt
    clear hk hk9 hT1 hO1 hc1 hE
    have hO9 : (w1.alloc (.cells #[.int .i64 0, .int .i64 0, .int .i64 1, .string pl, .int .i64 lt, .slice none 0 0] 33)).heap[w1.heap.size]? = some (.cells #[.int .i64 0, .int .i64 0, .int .i64 1, .string pl, .int .i64 lt, .slice none 0 0] 33) := heap_alloc_new w1 _
    have z0 := blk_cell hO9 (i := 0) (u := .int .i64 0) rfl
    have y0 := blk_free hO9 (i := 0)
    have z1 := blk_cell hO9 (i := 1) (u := .int .i64 0) rfl
    have y1 := blk_free hO9 (i := 1)
    have z2 := blk_cell hO9 (i := 2) (u := .int .i64 1) rfl
    have z3 := blk_cell hO9 (i := 3) (u := .string pl) rfl
    have z4 := blk_cell hO9 (i := 4) (u := .int .i64 lt) rfl
    have z5 := blk_cell hO9 (i := 5) (u := .slice none 0 0) rfl
    have HB9 : Hid (Below w1.heap.size w1 (w1.alloc (.cells #[.int .i64 who, .int .i64 ((l : Int) + (nL : Int) + 1), .int .i64 1, .string pl, .int .i64 lt, .slice none 0 0] 33))) := (Below.refl _ _).alloc (Nat.le_refl _) _
    have HB3 : Hid (Below w1.heap.size w1 ((w1.alloc (.cells #[.int .i64 who, .int .i64 ((l : Int) + (nL : Int) + 1), .int .i64 1, .string pl, .int .i64 lt, .slice none 0 0] 33)).alloc (.cells #[.int .i64 who, .int .i64 ((l : Int) + (nL : Int) + 1), .int .i64 1, .string pl, .int .i64 lt, .slice none 0 0] 33))) := HB9.out.alloc HB9.out.size _
    have HROW : Hid (((w1.alloc (.cells #[.int .i64 who, .int .i64 ((l : Int) + (nL : Int) + 1), .int .i64 1, .string pl, .int .i64 lt, .slice none 0 0] 33)).alloc (.cells #[.int .i64 who, .int .i64 ((l : Int) + (nL : Int) + 1), .int .i64 1, .string pl, .int .i64 lt, .slice none 0 0] 33)).ownsRow w.heap.size 33 6 (.slice pL nL cL) nL (flatO L)) := by
     have q := own_below (own_stay HZ.out.row fun q hq => HC1.out.block q (own_lt HZ.out.row q hq).1 (by
      obtain ⟨_, cur, hc9⟩ := own_lt HZ.out.row q hq
      rintro (e | e)
      ·exact cells_ne hc9 HZ.out.tk.blk (by decide) e
      ·obtain ⟨_, cur2, hc8⟩ := own_lt HZ.out.tk.book q e
       exact cells_ne hc9 hc8 (by decide) rfl)) HB3.out
     rw [← HNL.out] at q; exact q
    have HNW : Hid (∀ i u, (flatO [(((who, (l : Int) + (nL : Int) + 1), 1, pl, lt, ([] : List Dt)), Value.slice none 0 0)])[i]? = some u → ((w1.alloc (.cells #[.int .i64 who, .int .i64 ((l : Int) + (nL : Int) + 1), .int .i64 1, .string pl, .int .i64 lt, .slice none 0 0] 33)).alloc (.cells #[.int .i64 who, .int .i64 ((l : Int) + (nL : Int) + 1), .int .i64 1, .string pl, .int .i64 lt, .slice none 0 0] 33)).cell? ((⟨w1.heap.size + 1, 0, none⟩ : Addr).add i) = some u) := fun i u hu => by
     rw [Addr.add_lit, Nat.zero_add]
     have q := heap_alloc_new (w1.alloc (.cells #[.int .i64 who, .int .i64 ((l : Int) + (nL : Int) + 1), .int .i64 1, .string pl, .int .i64 lt, .slice none 0 0] 33)) (.cells #[.int .i64 who, .int .i64 ((l : Int) + (nL : Int) + 1), .int .i64 1, .string pl, .int .i64 lt, .slice none 0 0] 33)
     rw [show (w1.alloc (.cells #[.int .i64 who, .int .i64 ((l : Int) + (nL : Int) + 1), .int .i64 1, .string pl, .int .i64 lt, .slice none 0 0] 33)).heap.size = w1.heap.size + 1 by simp] at q
     rw [show flatO [(((who, (l : Int) + (nL : Int) + 1), 1, pl, lt, ([] : List Dt)), Value.slice none 0 0)] = [.int .i64 who, .int .i64 ((l : Int) + (nL : Int) + 1), .int .i64 1, .string pl, .int .i64 lt, .slice none 0 0] from rfl] at hu
     exact blk_cell q (by simpa using hu)
    have hbs : w.heap.size ≤ ((w1.alloc (.cells #[.int .i64 who, .int .i64 ((l : Int) + (nL : Int) + 1), .int .i64 1, .string pl, .int .i64 lt, .slice none 0 0] 33)).alloc (.cells #[.int .i64 who, .int .i64 ((l : Int) + (nL : Int) + 1), .int .i64 1, .string pl, .int .i64 lt, .slice none 0 0] 33)).heap.size := Nat.le_trans HTK.out.bs HB3.out.size
    obtain ⟨i0, hi, hz0, hz1, hz2⟩ := info_parts Ii.infoO
    have hw1 : IntKind.i64.wrap ((l : Int) + (nL : Int)) = (l : Int) + (nL : Int) := wrap_in (by omega) (by omega)
    have hw2 : IntKind.i64.wrap ((l : Int) + (nL : Int) + 1) = (l : Int) + (nL : Int) + 1 := wrap_in (by omega) (by omega)
    clear hO9
    go_wp2_with (at_builtin; refine wpList_append_own_at _ rfl (.tmp 72) (.tmp 74) 22 rfl w.heap.size 33 i0 (.agg #[.int .i64 0, .int .i64 0, .int .i64 0, .string ⟨#[]⟩, .int .i64 0, .slice none 0 0]) 6 72 Tryz.underlying22 hi hz0 hz1 hz2 rfl (by decide) (.slice pL nL cL) nL (flatO L) rfl HROW.out ⟨w1.heap.size + 1, 0, none⟩ 1 1 (flatO [(((who, (l : Int) + (nL : Int) + 1), 1, pl, lt, ([] : List Dt)), Value.slice none 0 0)]) rfl rfl HNW.out (by intro u hu; simp [flatO, six] at hu; rcases hu with rfl | rfl | rfl | rfl | rfl | rfl <;> rfl) (by unfold maxLen; omega) (by omega) hbs ?_; intro v9 w9 hown9 hg9 _ hat9; obtain ⟨p9, n9, c9, rfl, _⟩ := own_shape hown9; have HUS : Hid (Us w w9 T M gk ck S who K m j k v1 (wrB who ((xa, xb), t, p, c0, ss) B) (.slice p9 n9 c9) (L ++ [(((who, (l : Int) + (nL : Int) + 1), 1, pl, lt, ([] : List Dt)), Value.slice none 0 0)])) := HZ.out.push HGK.out HTK.out HC1.out HB3.out (by rw [← HNL.out]; exact hown9) hg9 hat9 rfl HUN.out (by have q1 := HOK.out.2; have q2 := HLB.out; omega); clear hown9 hg9 hat9)
    go_roundw
    case rel => exact ⟨j, k, v1, _, _, rfl, by omega, HUS⟩
    case measure => first | (simp [intOf]; done) | (simp [intOf]; omega)
theorem undo_any (D : Nat) (S : Dq) (F : Nat → Prop) (who n : Int) (w : World) (h : DocAt w D S F) :
  Calls Tryz.prog 13 #[.pointer (some ⟨D, 0, none⟩), .int .i64 who, .int .i64 n] w (UnPost w (unE S who n) (unL S who n)) := by
 by_cases hc : Pm.isWho who = false ∨ n < 0 ∨ 200 < n
 ·exact undo_bad D S who n w hc
 ·have hw : 1 ≤ who ∧ who ≤ 8 := by
   cases e : Pm.isWho who with
   | false => exact absurd (Or.inl e) hc
   | true => simpa [Pm.isWho] using e
  obtain ⟨m, rfl⟩ : ∃ m : Nat, n = m := ⟨n.toNat, by omega⟩
  exact undo_go D S F who m w h hw.1 hw.2 (by omega)
end Bl
end Go.Proofs.YtnbnniapllkjlaaGreatDoor
