/- CacheHolds' mathematics: what was loaded last is there; asked for one behind the other they stand as they stood. -/
import Derived.Test.YtllcmfbkingfdaaGreatFb
import Derived.Test.YtllcmfbkingfdaaGreatEf
namespace Go.Proofs.YtllcmfbkingfdaaGreat
namespace Fe
set_option linter.unusedVariables false
open Fb

theorem off_len (p : ByteArray) (m : List Kp) : (off p m).length ≤ m.length := by unfold off; exact List.length_filter_le _ _
theorem trim_len {b : Nat} : ∀ (m : List Kp), (trim b m).length ≤ m.length
  | [] => by simp [trim]
  | x :: m => by
    unfold trim
    split
    · have := trim_len (b := b) m; simp; omega
    · exact Nat.le_refl _
theorem load_len (b : Nat) (p s : ByteArray) (m : List Kp) : (loadC b p s m).length ≤ m.length + 1 := by
  unfold loadC
  have h1 := trim_len (b := b) (off p m ++ [(p, s)])
  have h2 := off_len p m
  rw [List.length_append] at h1
  simp at h1
  omega
theorem loadS_len (b : Nat) (p s : ByteArray) (m : List Kp) : (loadS b p s m).length ≤ m.length + 1 := by
  unfold loadS
  split
  · omega
  · exact load_len b p s m
theorem trim_sub {b : Nat} : ∀ (m : List Kp) (x : Kp), x ∈ trim b m → x ∈ m
  | [], x, h => h
  | y :: m, x, h => by
    unfold trim at h
    split at h
    · exact List.mem_cons_of_mem _ (trim_sub m x h)
    · exact h
theorem loadS_mem {b : Nat} {p s : ByteArray} {m : List Kp} {q : ByteArray} (h : q ∈ names (loadS b p s m)) : q ∈ names m ∨ q = p := by
  unfold loadS at h
  split at h
  · exact Or.inl h
  · obtain ⟨x, hx, rfl⟩ := List.mem_map.1 h
    have h1 := trim_sub _ _ hx
    rcases List.mem_append.1 h1 with h2 | h2
    · exact Or.inl (List.mem_map.2 ⟨x, (List.mem_filter.1 h2).1, rfl⟩)
    · right; rw [List.mem_singleton.1 h2]
theorem get_last {p s : ByteArray} {m : List Kp} (h : p ∉ names m) : get? p (m ++ [(p, s)]) = some s ∧ getS p (m ++ [(p, s)]) = m ++ [(p, s)] := by
  have hg := get_snoc (s := s) h
  refine ⟨hg, ?_⟩
  unfold getS
  rw [hg]
  show off p (m ++ [(p, s)]) ++ [(p, s)] = _
  have e : off p (m ++ [(p, s)]) = m := by
    have e1 : off p (m ++ [(p, s)]) = off p m ++ off p [(p, s)] := by unfold off; rw [List.filter_append]
    rw [e1, off_none h]
    simp [off]
  rw [e]
/- what stands behind a Load that was not refused -/
structure Ld (b : Nat) (p s : ByteArray) (m1 : List Kp) : Prop where
  inv : Inv b m1
  pos : 0 < m1.length
  last : (names m1).getD (m1.length - 1) e0 = p
  got : get? p m1 = some s
  same : getS p m1 = m1
theorem loaded {b : Nat} {p s : ByteArray} {m : List Kp} (h : Inv b m) (he : loadE b p s = 0) : Ld b p s (loadS b p s m) := by
  have hs : s.size ≤ b := by
    unfold loadE at he
    split at he
    · cases he
    · split at he
      · cases he
      · omega
  obtain ⟨h1, k, hk⟩ := inv_load (p := p) (s := s) h hs
  have e : loadS b p s m = loadC b p s m := by unfold loadS; rw [if_neg (by simpa using he)]
  have hn : p ∉ names ((off p m).drop k) := by rw [drop_names]; intro e; exact not_off p m (List.mem_of_mem_drop e)
  rw [e]
  refine ⟨h1, by rw [hk]; simp, ?_, by rw [hk]; exact (get_last hn).1, by rw [hk]; exact (get_last hn).2⟩
  rw [hk]
  unfold names
  rw [List.map_append, List.length_append, List.getD_eq_getElem?_getD, List.getElem?_append_right (by simp)]
  simp
theorem used_take {m : List Kp} {k : Nat} (hk : k < m.length) : used (m.take (k + 1)) = used (m.take k) + (m[k]).2.size := by
  rw [List.take_add_one, List.getElem?_eq_getElem hk, used_append]
  show _ + (used [m[k]]) = _
  simp [used]
theorem used_part {m : List Kp} (k : Nat) : used (m.take k) ≤ used m := by
  have := used_append (m.take k) (m.drop k)
  rw [List.take_append_drop] at this
  omega
theorem inv_turn {b : Nat} {m : List Kp} (h : Inv b m) (k : Nat) : Inv b (turn m k) := by
  unfold turn
  refine ⟨?_, ?_⟩
  · unfold names
    rw [List.map_append]
    have h9 : (names (m.take k ++ m.drop k)).Nodup := by rw [List.take_append_drop]; exact h.nd
    unfold names at h9
    rw [List.map_append] at h9
    exact (List.perm_append_comm.nodup_iff).1 h9
  · have h1 := used_append (m.drop k) (m.take k)
    have h2 := used_append (m.take k) (m.drop k)
    rw [List.take_append_drop] at h2
    have := h.le
    omega
theorem turn_len (m : List Kp) (k : Nat) : (turn m k).length = m.length := by unfold turn; simp; omega
/- the opening: three letters, two and two -/
def nb : ByteArray := ⟨#[110, 98]⟩
def ob : ByteArray := ⟨#[111, 98]⟩
def ab : ByteArray := ⟨#[97, 98]⟩
def cd : ByteArray := ⟨#[99, 100]⟩
theorem o1 : loadE 3 nb ab = 0 ∧ loadE 3 ob cd = 0 := by
  have h1 : Pm.chk nb.toList = 0 := by kernel_rfl
  have h2 : Pm.chk ob.toList = 0 := by kernel_rfl
  unfold loadE
  rw [if_neg (fun e => e.2 h1), if_neg (by decide), if_neg (fun e => e.2 h2), if_neg (by decide)]
  exact ⟨rfl, rfl⟩
theorem o2 : loadS 3 nb ab [] = [(nb, ab)] := by unfold loadS; rw [o1.1, if_neg (by decide)]; rfl
theorem o3 : loadS 3 ob cd [(nb, ab)] = [(ob, cd)] := by
  unfold loadS
  rw [o1.2, if_neg (by decide)]
  unfold loadC
  have hne : ob ≠ nb := by decide
  rw [off_none (by simp [names]; exact hne)]
  rfl

end Fe
end Go.Proofs.YtllcmfbkingfdaaGreat
