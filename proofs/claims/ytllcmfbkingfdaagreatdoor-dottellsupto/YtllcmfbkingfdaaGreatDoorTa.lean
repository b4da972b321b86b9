/- The walk of the law DotTells: what all its ways share. -/
import Derived.Test.YtllcmfbkingfdaaGreatDoorRc
import Derived.Test.YtllcmfbkingfdaaGreatDoorDd
import Derived.Test.YtllcmfbkingfdaaGreatDoorDh
import Derived.Test.YtllcmfbkingfdaaGreatDoorZl
namespace Go.Proofs.YtllcmfbkingfdaaGreatDoor
namespace Ta
set_option linter.unusedVariables false
open Go.ChangeShapes Go.WideShapes Go.ChangeAt Go.RowKit Za Db Dc Dd Dg Dh Di Dl Ra Rb Rc Pt Pl

theorem same_self (n : Int) (w : World) (hg : ET w) : Calls Tryz.prog 5 #[errV n, .int .i64 n] w fun e w' => e = .returned (.bool true) ∧ Below w.heap.size w w' := by
  have := same_any n n w hg
  rw [show (n == n) = true from by simp] at this
  exact this
theorem same_k (n : Int) (w : World) (hg : ET w) : Calls Tryz.prog 5 #[.iface 47 (.int .i64 n), .int .i64 n] w fun e w' => e = .returned (.bool true) ∧ Below w.heap.size w w' := by
  have := same_err n n w hg
  rw [show (n == n) = true from by simp] at this
  exact this
theorem same_0 (w : World) : Calls Tryz.prog 5 #[.nilIface, .int .i64 0] w fun e w' => e = .returned (.bool true) ∧ w' = w := same_nil 0 w
theorem ints_same (p q : Option Addr) (n c d : Nat) (a : List Int) (w : World) (ha : a.length = n) (hn : n ≤ 1048576) (h1 : IntsIn w p a) (h2 : IntsIn w q a) :
    Calls Tryz.prog 11 #[.slice p n c, .slice q n d] w fun e w' => e = .returned (.bool true) ∧ Below w.heap.size w w' := by
  have := ints_any p q n n c d a a w ha ha hn h1 h2
  rw [show (a == a) = true from by simp] at this
  exact this

/- has, asked of one whose dot is right -/
theorem own_row {W w : World} {v : Value} {n : Nat} {l : List Int} (h : w.ownsRow W.heap.size 3 1 v (0 + n) ([] ++ l.map (fun z => Value.int .i64 z))) (hn : 0 < n) (hl : l.length = n) :
    ∃ g cap, v = .slice (some ⟨g, 0, none⟩) n cap ∧ W.heap.size ≤ g ∧ (∀ j, j < l.length → w.cell? ⟨g, 0 + j, none⟩ = some (.int .i64 (l.getD j 0))) ∧ (∀ j, w.frozen? ⟨g, j, none⟩ = false) := by
  rcases h.2 with ⟨_, h0⟩ | ⟨g, cap, cur, rfl, hg, hh, h3, h4, h5, h6⟩
  · omega
  · have h7 : cur.toList.take l.length = l.map (fun x => Value.int .i64 x) := by
      rw [hl]
      simpa using h6
    exact ⟨g, cap, by simp, hg, (row_cells hh h7).1, (row_cells hh h7).2⟩

/- the texts, side by side -/
theorem app_toList (a b : ByteArray) : (a ++ b).data.toList = a.data.toList ++ b.data.toList := by
  rw [ByteArray.data_append]; simp
def textL (l : List Int) (k : Nat) : List UInt8 := Lib.join ((l.take k).map Lib.itoa) [46]
theorem join_snoc : ∀ (xs : List (List UInt8)) (x : List UInt8), xs ≠ [] → Lib.join (xs ++ [x]) [46] = Lib.join xs [46] ++ 46 :: x
  | [], x, h => absurd rfl h
  | [y], x, _ => by rw [List.singleton_append, Dm.join_cons2, Lib.join_one, Lib.join_one]
  | y :: z :: r, x, _ => by
    have ih := join_snoc (z :: r) x (by simp)
    rw [List.cons_append, List.cons_append, Dm.join_cons2, ← List.cons_append, ih, Dm.join_cons2]
    simp
theorem text_zero {l : List Int} {x : Int} (h : l[0]? = some x) : textL l 1 = Lib.itoa x := by
  unfold textL
  obtain ⟨hlt, e⟩ := List.getElem?_eq_some_iff.1 h
  cases l with
  | nil => simp at hlt
  | cons a t => simp at e; subst e; simp [Lib.join_one]
theorem text_next {l : List Int} {k : Nat} {x : Int} (hk : 0 < k) (h : l[k]? = some x) : textL l (k + 1) = textL l k ++ 46 :: Lib.itoa x := by
  unfold textL
  obtain ⟨hlt, e⟩ := List.getElem?_eq_some_iff.1 h
  rw [List.take_succ_eq_append_getElem hlt, e, List.map_append]
  refine join_snoc _ _ ?_
  intro e2
  have := congrArg List.length e2
  rw [List.length_map, List.length_take, List.length_nil] at this; omega
theorem text_all {l : List Int} (h : Dm.vecE l = 0) : textL l 8 = Dm.printT l := by
  unfold textL Dm.printT Dm.printL
  rw [if_pos h, List.take_of_length_le (by have := (Dm.vecE_zero.1 h).1; omega)]
theorem itoa_pos {x : Int} (h : 0 ≤ x) : Lib.itoa x = Lib.decDigits x.toNat := by
  unfold Lib.itoa; rw [if_neg (by omega)]

/- which one is less, so far -/
def lk (a b : List Int) (k : Nat) : Bool := (List.range k).any fun i => decide (a.getD i 0 < b.getD i 0)
theorem lk_succ (a b : List Int) (k : Nat) : lk a b (k + 1) = (lk a b k || decide (a.getD k 0 < b.getD k 0)) := by
  unfold lk; rw [List.range_succ, List.any_append]; simp
theorem lk_more (a b : List Int) : lk a b 8 = Dm.more b a := rfl
theorem merge_take {a b : List Int} (ha : Dm.vecE a = 0) (hb : Dm.vecE b = 0) {k : Nat} (hk : k < 8) {z : Int} (hz : z = max (a.getD k 0) (b.getD k 0)) :
    ((Dm.mergeL a b).take k).map (fun z => Value.int .i64 z) ++ [.int .i64 z] = ((Dm.mergeL a b).take (k + 1)).map (fun z => Value.int .i64 z) := by
  have hl := (Dm.vecE_zero.1 (Dm.mergeL_vec ha hb)).1
  have la := (Dm.vecE_zero.1 ha).1
  have lb := (Dm.vecE_zero.1 hb).1
  rw [List.take_succ_eq_append_getElem (by omega), List.map_append]
  congr 1
  simp only [List.map_cons, List.map_nil]
  congr 2
  rw [hz, List.getD_eq_getElem?_getD, List.getD_eq_getElem?_getD, List.getElem?_eq_getElem (by omega), List.getElem?_eq_getElem (by omega)]
  simp [Dm.mergeL]
theorem want_in {w : World} {g : Nat} {l : List Int} (hl : l.length = 8) (h : ∀ j u, ((l.take 8).map (fun z => Value.int .i64 z))[j]? = some u → w.cell? ⟨g, 0 + j, none⟩ = some u) : IntsIn w (some ⟨g, 0, none⟩) l := by
  refine Or.inr ⟨g, 0, rfl, fun j hj => h j _ ?_⟩
  rw [List.take_of_length_le (by omega), List.getElem?_map, List.getElem?_eq_getElem hj, List.getD_eq_getElem?_getD, List.getElem?_eq_getElem hj]; rfl
theorem cell_drewN (w : World) (q : Nat) (a : Addr) : (w.drewN q).cell? a = w.cell? a := rfl

theorem merge_gg (p q : Option Addr) (n m c d : Nat) (a b : List Int) (w : World) (ha : a.length = n) (hb : b.length = m) (h1 : IntsIn w p a) (h2 : IntsIn w q b) (h0 : Dm.bothE a b = 0) :
    Calls Tryz.prog 14 #[.slice p n c, .slice q m d] w fun e w' => ∃ g, e = .returned (.tuple #[.slice (some ⟨g, 0, none⟩) 8 8, .nilIface]) ∧ IntsIn w' (some ⟨g, 0, none⟩) (Dm.mergeL a b) ∧ Below w.heap.size w w' := by
  refine (merge_yes p q n m c d a b w ha hb h1 h2 h0).mono ?_
  rintro e w' ⟨rfl, h3, h4⟩
  exact ⟨_, rfl, h3, h4⟩
theorem parse_len (s : List UInt8) : (Dm.parseV s).length ≤ 8 := by
  unfold Dm.parseV
  split
  · simp
  · split
    · next h => have := (Dm.vecE_zero.1 h).1; omega
    · simp

end Ta
end Go.Proofs.YtllcmfbkingfdaaGreatDoor
