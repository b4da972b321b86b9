/- What stands in a text, by its bytes: the plain facts that a reading wants. -/
import Derived.Test.YtcmoajlcmeimiaaDoorOg
namespace Go.Proofs.YtcmoajlcmeimiaaDoor
namespace Oi
set_option linter.unusedVariables false
open Go.ChangeShapes Go.WideShapes Go.ChangeAt Go.RowKit Cm Ka Kb Na Om Oa Oz Oc Og
open La (bel bel_drew errV_zero errV_ne own_ge own_grow own_below)

theorem list_extract (s : ByteArray) (i j : Nat) : (s.extract i j).toList = (s.toList.take j).drop i := by
  rw [ByteArray.toList_eq, ByteArray.toList_eq, ByteArray.data_extract, Array.toList_extract, List.extract_eq_take_drop]
  rw [List.drop_take]
theorem size_extract (s : ByteArray) (i j : Nat) (h : j ≤ s.size) : (s.extract i j).size = j - i := by
  rw [← Om.len_eq, list_extract, List.length_drop, List.length_take, Om.len_eq]; omega
theorem list_rest (s : ByteArray) (i : Nat) : (s.extract i s.size).toList = s.toList.drop i := by
  rw [list_extract, ← Om.len_eq, List.take_length]
theorem mk_eq {a b : ByteArray} (h : a.toList = b.toList) : a = b := by rw [← mk_toList a, ← mk_toList b, h]
theorem threes_len : ∀ (m : Nat) (r : List UInt8), (threes m r).length = min m (r.length / 3)
  | 0, r => by cases r <;> simp [threes]
  | m + 1, [] => by simp [threes]
  | m + 1, [a] => by simp [threes]
  | m + 1, [a, b] => by simp [threes]
  | m + 1, a :: b :: c :: r => by
    simp only [threes, List.length_cons, threes_len m r]
    omega
theorem threes_at : ∀ (m : Nat) (r : List UInt8) (k : Nat), k < (threes m r).length → (threes m r).getD k noneD = (((r.getD (3 * k) 0).toNat : Int), ((numAt r (3 * k + 1) : Nat) : Int))
  | 0, r, k, h => by cases r <;> simp [threes] at h
  | m + 1, [], k, h => by simp [threes] at h
  | m + 1, [a], k, h => by simp [threes] at h
  | m + 1, [a, b], k, h => by simp [threes] at h
  | m + 1, a :: b :: c :: r, 0, h => by
    simp only [threes, List.getD_cons_zero, Nat.mul_zero, Nat.zero_add, numAt, List.getD_cons_succ]
    congr 1
  | m + 1, a :: b :: c :: r, k + 1, h => by
    have h2 : k < (threes m r).length := by simpa [threes] using h
    have ih := threes_at m r k h2
    simp only [threes, List.getD_cons_succ, ih, numAt]
    rw [show 3 * (k + 1) = 3 * k + 1 + 1 + 1 by omega]
    simp only [List.getD_cons_succ]
theorem read_of (s : ByteArray) (E : Nat) (a b t : Int) (P R : ByteArray) (h4 : 4 < s.size) (hE : (5 : Int) + (s[4].toNat : Int) = (E : Int)) (ht : (s[0].toNat : Int) = t) (ha : (s[1].toNat : Int) = a) (hb : ((numAt s.toList 2 : Nat) : Int) = b) (hP : s.extract 5 E = P) (hR : s.extract E s.size = R) (hEs : E ≤ s.size) :
    readB s.toList = ((a, b), t, P, letterIn t R.toList, seenIn t R.toList) := by
  have e4 := at_list s 4 h4
  have e0 := at_list s 0 (by omega)
  have e1 := at_list s 1 (by omega)
  have hE2 : 5 + s[4].toNat = E := by omega
  have er : s.toList.drop E = R.toList := by rw [← hR, list_rest]
  have ep : (⟨((s.toList.drop 5).take s[4].toNat).toArray⟩ : ByteArray) = P := by
    apply mk_eq
    rw [← hP, list_extract, toList_mk, List.drop_take, show E - 5 = s[4].toNat by omega]
  have eb : ((s.toList.getD 2 0).toNat : Int) * 256 + ((s.toList.getD 3 0).toNat : Int) = b := by rw [← hb]; show _ = (((s.toList.getD 2 0).toNat * 256 + (s.toList.getD 3 0).toNat : Nat) : Int); omega
  unfold readB
  rw [e4, e0, e1, hE2, er, ep, eb, ht, ha]
/- what a row of dots owns stays while its block stays -/
theorem own_same {w w' : World} {base : Nat} {t : TypeId} {z : Nat} {v : Value} {n : Nat} {xs : List Value} (h : w.ownsRow base t z v n xs) (hs : ∀ k, base ≤ k → k < w.heap.size → w'.heap[k]? = w.heap[k]?) : w'.ownsRow base t z v n xs := by
  refine ⟨h.1, ?_⟩
  rcases h.2 with h0 | ⟨g, cap, cur, h1, h2, h3, h4⟩
  · exact Or.inl h0
  · refine Or.inr ⟨g, cap, cur, h1, h2, ?_, h4⟩
    have hg : g < w.heap.size := by
      rcases Nat.lt_or_ge g w.heap.size with e | e
      · exact e
      · rw [Array.getElem?_eq_none e] at h3; cases h3
    rw [hs g h2 hg]; exact h3
theorem set_block (w : World) (p : Addr) (v : Value) (k : Nat) (h : k ≠ p.block) : (w.setCell p v).heap[k]? = w.heap[k]? := Below.heap_setCell _ _ _ _ h
theorem dot_new (w : World) (a b : Int) (t : TypeId) : ∀ j u, (flatD [(a, b)])[j]? = some u → (w.alloc (.cells #[.int .i64 a, .int .i64 b] t)).cell? ((⟨w.heap.size, 0, none⟩ : Addr).add j) = some u := by
  intro j u hu
  have h2 : (w.alloc (.cells #[.int .i64 a, .int .i64 b] t)).heap[w.heap.size]? = some (.cells #[.int .i64 a, .int .i64 b] t) := heap_alloc_new w _
  have e : flatD [(a, b)] = [.int .i64 a, .int .i64 b] := rfl
  rw [e] at hu
  rw [Addr.add_lit, Nat.zero_add]
  simp only [World.cell?, h2]
  simpa using hu
theorem own_appD {w : World} {base : Nat} {t : TypeId} {v : Value} {n m : Nat} {a b : List Dt} (hn : a.length = n) (hm : b.length = m) (h : w.ownsRow base t 2 v (n + m) (flatD a ++ flatD b)) : w.ownsRow base t 2 v (a ++ b).length (flatD (a ++ b)) := by
  rw [List.length_append, flatD_append, hn, hm]; exact h
theorem own_at {w w' : World} {base : Nat} {t : TypeId} {z : Nat} {v : Value} {n : Nat} {xs : List Value} (h : w.ownsRow base t z v n xs) (hs : ∀ k, base ≤ k → k < w.heap.size → w'.heap[k]? = w.heap[k]?) : w'.ownsRow base t z v n xs := own_same h hs
theorem own_shape {w : World} {base : Nat} {t : TypeId} {z : Nat} {v : Value} {n : Nat} {xs : List Value} (h : w.ownsRow base t z v n xs) : ∃ p N c, v = .slice p N c ∧ Hid (N = n) := by
  rcases h.2 with ⟨e, e0⟩ | ⟨g, cap, cur, h1, _⟩
  · exact ⟨none, 0, 0, e, e0.symm⟩
  · exact ⟨_, _, _, h1, rfl⟩
/- an op that stays while the blocks from B on, as far as they go now, stay -/
def Kept (B : Nat) (w' : World) (u : Value) (x : Ox) : Prop := ∀ W : World, (∀ k, B ≤ k → k < w'.heap.size → W.heap[k]? = w'.heap[k]?) → OpV W u x
theorem Kept.now {B : Nat} {w' : World} {u : Value} {x : Ox} (h : Kept B w' u x) : OpV w' u x := h w' (fun _ _ _ => rfl)
theorem head_at (l : List UInt8) : l.getD 0 0 = l.headD 0 := by cases l <;> rfl
theorem tail_at (l : List UInt8) (k : Nat) : l.tail.getD k 0 = l.getD (k + 1) 0 := by cases l <;> simp
theorem infoD : (Tryd.prog.info? 24).map (fun i => (i.zero, i.size, i.bytes)) = some (some (.agg #[.int .i64 0, .int .i64 0]), 2, 16) := by kernel_rfl

end Oi
end Go.Proofs.YtcmoajlcmeimiaaDoor
