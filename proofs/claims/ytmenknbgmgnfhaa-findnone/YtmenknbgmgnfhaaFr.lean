/- The reference's Cut, at a blank. -/
import Derived.Test.YtmenknbgmgnfhaaFn
import Derived.Lib.IndexBytes
import Derived.Lib.Strings
namespace Go.Proofs.Ytmenknbgmgnfhaa
namespace Fr
set_option linter.unusedVariables false
open Go.ChangeShapes Go.WideShapes Go.ChangeAt Go.RowKit Ka Kb

theorem infoString : (Try.prog.info? 9).map (fun i => (i.zero, i.size, i.bytes)) = some (some (.string ByteArray.empty), 1, 16) := by kernel_rfl
theorem own_ge {w : World} {base : Nat} {t : TypeId} {v : Value} {n : Nat} {xs : List Value} (h : w.ownsRow base t 1 v n xs) : ∀ k, v.ownBlock = some k → base ≤ k := by
  intro k hk
  rcases h.2 with ⟨rfl, _⟩ | ⟨g, cap, cur, rfl, hg, _⟩
  · cases hk
  · simp [Value.ownBlock] at hk; omega
theorem own_cells {w : World} {base : Nat} {t : TypeId} {v : Value} {n : Nat} {xs : List Value} (h : w.ownsRow base t 1 v n xs) (hn : 0 < n) :
    ∃ g cap, v = .slice (some ⟨g, 0, none⟩) n cap ∧ ∀ j u, xs[j]? = some u → w.cell? ⟨g, 0 + j, none⟩ = some u := by
  rcases h.2 with ⟨_, h0⟩ | ⟨g, cap, cur, rfl, hg, hh, h3, h4, h5, h6⟩
  · omega
  · refine ⟨g, cap, rfl, fun j u hu => ?_⟩
    have hj : j < n := by
      have := (List.getElem?_eq_some_iff.1 hu).1
      have h1 := h.1
      omega
    rw [← h6, Nat.mul_one, List.getElem?_take_of_lt hj] at hu
    rw [Nat.zero_add]
    simp only [World.cell?, hh]
    simpa using hu
/- one more behind -/
theorem own_grow {w wr w1 : World} {t : TypeId} {v x : Value} {n : Nat} {xs : List Value} (h : wr.ownsRow w.heap.size t 1 v n xs) (hb : Below w.heap.size w wr) (hg : (wr.alloc (.cells #[x] t)).grownBy w1 v.ownBlock) : Below w.heap.size w w1 :=
  (hb.alloc hb.size (.cells #[x] t)).grown hg (by have := hb.size; simp; omega) (own_ge h)

theorem own_more {w1 : World} {B : Nat} {t : TypeId} {v' : Value} {ps : List ByteArray} {x : ByteArray} (h : w1.ownsRow B t 1 v' (ps.length + 1) (ps.map Value.string ++ [.string x])) : w1.ownsRow B t 1 v' (ps ++ [x]).length ((ps ++ [x]).map Value.string) := by
  rw [List.length_append, List.map_append]; exact h

theorem drop_piece {l : List UInt8} {q k : Nat} (hq : q ≤ k) (hk : k < l.length) : l.drop q = (l.drop q).take (k - q) ++ l[k] :: l.drop (k + 1) := by
  conv => lhs; rw [← List.take_append_drop (k - q) (l.drop q)]
  congr 1
  rw [List.drop_drop, show q + (k - q) = k by omega, List.drop_eq_getElem_cons hk]
theorem take_more {l : List UInt8} {q k : Nat} (hq : q ≤ k) (hk : k < l.length) : (l.drop q).take (k + 1 - q) = (l.drop q).take (k - q) ++ [l[k]] := by
  rw [show k + 1 - q = (k - q) + 1 by omega, List.take_succ_eq_append_getElem (by simp; omega)]
  congr 2
  rw [List.getElem_drop]
  congr 1; omega

theorem cut_step {s : ByteArray} {ps : List ByteArray} {q k : Nat} (hq : q ≤ k) (hk : k < s.size) (hc : s[k] = 32) (hcut : ps.map (fun b => b.data.toList) ++ Fi.cutC 32 (s.data.toList.drop q) = Fi.cutC 32 s.data.toList) (hno : (32 : UInt8) ∉ (s.data.toList.drop q).take (k - q)) :
    (ps ++ [s.extract q k]).map (fun b => b.data.toList) ++ Fi.cutC 32 (s.data.toList.drop (k + 1)) = Fi.cutC 32 s.data.toList := by
  have h1 : k < s.data.toList.length := hk
  have h2 : s.data.toList[k]'h1 = s[k] := rfl
  have e := drop_piece hq h1
  rw [h2, hc] at e
  have e2 : Fi.cutC 32 (s.data.toList.drop q) = (s.data.toList.drop q).take (k - q) :: Fi.cutC 32 (s.data.toList.drop (k + 1)) := by
    conv => lhs; rw [e]
    exact Fi.cutC_app _ _ hno
  rw [← hcut, e2, List.map_append, List.append_assoc]
  simp only [List.map_cons, List.map_nil, Lib.extract_data, List.cons_append, List.nil_append]
theorem cut_end {s : ByteArray} {ps : List ByteArray} {q k : Nat} (hk : s.size ≤ k) (hcut : ps.map (fun b => b.data.toList) ++ Fi.cutC 32 (s.data.toList.drop q) = Fi.cutC 32 s.data.toList) (hno : (32 : UInt8) ∉ (s.data.toList.drop q).take (k - q)) :
    (ps ++ [s.extract q s.size]).map (fun b => b.data.toList) = Fi.cutC 32 s.data.toList := by
  have h1 : s.data.toList.length = s.size := rfl
  have h2 : (32 : UInt8) ∉ s.data.toList.drop q := by
    rwa [List.take_of_length_le (by rw [List.length_drop, h1]; omega)] at hno
  rw [← hcut, Fi.cutC_none _ h2, List.map_append]
  simp only [List.map_cons, List.map_nil, Lib.extract_to_end]

end Fr
end Go.Proofs.Ytmenknbgmgnfhaa
