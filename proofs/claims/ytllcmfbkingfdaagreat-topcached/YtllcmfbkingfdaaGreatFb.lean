/- Caches: plain mathematics (which texts are there, in which order). No program is named here. -/
import Derived.Test.YtllcmfbkingfdaaGreatJ1
namespace Go.Proofs.YtllcmfbkingfdaaGreat
namespace Fb
set_option linter.unusedVariables false

/- place, text; the one for which one asked the longest time ago stands first -/
abbrev Kp := ByteArray × ByteArray
def e0 : ByteArray := ⟨#[]⟩
def used : List Kp → Nat
  | [] => 0
  | x :: m => x.2.size + used m
def names (m : List Kp) : List ByteArray := m.map (·.1)
def get? (p : ByteArray) : List Kp → Option ByteArray
  | [] => none
  | x :: m => if x.1 = p then some x.2 else get? p m
def off (p : ByteArray) (m : List Kp) : List Kp := m.filter fun x => decide (x.1 ≠ p)
def trim (b : Nat) : List Kp → List Kp
  | [] => []
  | x :: m => if b < used (x :: m) then trim b m else x :: m
def loadC (b : Nat) (p s : ByteArray) (m : List Kp) : List Kp := trim b (off p m ++ [(p, s)])
def newE (b : Int) : Int := if b < 1 ∨ 10000 < b then 1 else 0
def loadE (b : Nat) (p s : ByteArray) : Int := if p.size ≠ 0 ∧ Pm.chk p.toList ≠ 0 then 2 else if b < s.size then 4 else 0
def loadS (b : Nat) (p s : ByteArray) (m : List Kp) : List Kp := if loadE b p s ≠ 0 then m else loadC b p s m
def getE (p : ByteArray) (m : List Kp) : Int := if get? p m = none then 5 else 0
def getS (p : ByteArray) (m : List Kp) : List Kp := match get? p m with
  | none => m
  | some t => off p m ++ [(p, t)]
def dropS (p : ByteArray) (m : List Kp) : List Kp := off p m
/- what stays right of every cache -/
structure Inv (b : Nat) (m : List Kp) : Prop where
  nd : (names m).Nodup
  le : used m ≤ b

theorem used_append : ∀ (a c : List Kp), used (a ++ c) = used a + used c
  | [], c => by simp [used]
  | x :: a, c => by rw [List.cons_append, used, used, used_append a c]; omega
theorem get_none {p : ByteArray} : ∀ {m : List Kp}, get? p m = none ↔ p ∉ names m
  | [] => by simp [get?, names]
  | x :: m => by
    have ih := get_none (p := p) (m := m)
    unfold get?
    by_cases h : x.1 = p
    · rw [if_pos h]; simp [names, h]
    · rw [if_neg h, ih]
      simp only [names, List.map_cons, List.mem_cons, not_or]
      exact ⟨fun e => ⟨fun e2 => h e2.symm, e⟩, fun e => e.2⟩
theorem off_none {p : ByteArray} {m : List Kp} (h : p ∉ names m) : off p m = m := by
  unfold off
  rw [List.filter_eq_self]
  intro x hx
  rw [decide_eq_true_eq]
  intro e
  exact h (by rw [← e]; exact List.mem_map.2 ⟨x, hx, rfl⟩)
theorem off_cons_eq {p : ByteArray} {x : Kp} {m : List Kp} (h : x.1 = p) : off p (x :: m) = off p m := by
  unfold off; rw [List.filter_cons, if_neg (by simpa using h)]
theorem off_cons_ne {p : ByteArray} {x : Kp} {m : List Kp} (h : x.1 ≠ p) : off p (x :: m) = x :: off p m := by
  unfold off; rw [List.filter_cons, if_pos (by simpa using h)]
theorem names_off (p : ByteArray) (m : List Kp) : names (off p m) = (names m).filter fun q => decide (q ≠ p) := by
  unfold names off; rw [List.filter_map]; rfl
theorem not_off (p : ByteArray) (m : List Kp) : p ∉ names (off p m) := by
  rw [names_off, List.mem_filter]
  rintro ⟨_, h⟩
  simp at h
theorem used_off {p t : ByteArray} : ∀ {m : List Kp}, (names m).Nodup → get? p m = some t → used (off p m) + t.size = used m
  | [], _, h => by simp [get?] at h
  | x :: m, hn, h => by
    have hn2 : x.1 ∉ names m ∧ (names m).Nodup := List.nodup_cons.1 hn
    unfold get? at h
    by_cases e : x.1 = p
    · rw [if_pos e] at h
      injection h with h
      rw [off_cons_eq e, off_none (by rw [← e]; exact hn2.1), used, h]; omega
    · rw [if_neg e] at h
      have ih := used_off hn2.2 h
      rw [off_cons_ne e, used, used]; omega
theorem trim_le {b : Nat} : ∀ (m : List Kp), used (trim b m) ≤ b
  | [] => by simp [trim, used]
  | x :: m => by
    unfold trim
    split
    · exact trim_le m
    · omega
theorem trim_id {b : Nat} {m : List Kp} (h : used m ≤ b) : trim b m = m := by
  cases m with
  | nil => rfl
  | cons x m => unfold trim; rw [if_neg (by omega)]
/- what goes goes from the front; the last one stays, if it has room by itself -/
theorem trim_last {b : Nat} {x : Kp} (hx : x.2.size ≤ b) : ∀ (m : List Kp), ∃ k, trim b (m ++ [x]) = m.drop k ++ [x]
  | [] => ⟨0, by rw [List.nil_append, List.drop_nil, List.nil_append]; exact trim_id (by simp [used]; exact hx)⟩
  | y :: m => by
    rw [List.cons_append]
    unfold trim
    split
    · obtain ⟨k, hk⟩ := trim_last hx m
      exact ⟨k + 1, by rw [hk]; rfl⟩
    · exact ⟨0, rfl⟩
theorem inv_nil (b : Nat) : Inv b [] := ⟨List.nodup_nil, Nat.zero_le _⟩
theorem nodup_off {p : ByteArray} {m : List Kp} (h : (names m).Nodup) : (names (off p m)).Nodup := by
  rw [names_off]; exact List.Nodup.sublist List.filter_sublist h
theorem used_off_le (p : ByteArray) : ∀ (m : List Kp), used (off p m) ≤ used m
  | [] => by simp [off, used]
  | x :: m => by
    have ih := used_off_le p m
    by_cases e : x.1 = p
    · rw [off_cons_eq e, used]; omega
    · rw [off_cons_ne e, used, used]; omega
theorem nodup_snoc {p s : ByteArray} {m : List Kp} (h : (names m).Nodup) (hp : p ∉ names m) : (names (m ++ [(p, s)])).Nodup := by
  unfold names at *
  rw [List.map_append, List.nodup_append]
  refine ⟨h, by simp, ?_⟩
  intro a ha c hc e
  rw [List.map_cons, List.map_nil, List.mem_singleton] at hc
  have e2 : a = p := e.trans hc
  exact hp (by rw [← e2]; exact ha)
theorem drop_names (k : Nat) (m : List Kp) : names (m.drop k) = (names m).drop k := by unfold names; rw [List.map_drop]
theorem inv_load {b : Nat} {p s : ByteArray} {m : List Kp} (h : Inv b m) (hs : s.size ≤ b) : Inv b (loadC b p s m) ∧ ∃ k, loadC b p s m = (off p m).drop k ++ [(p, s)] := by
  obtain ⟨k, hk⟩ := trim_last (x := (p, s)) hs (off p m)
  refine ⟨⟨?_, trim_le _⟩, k, hk⟩
  unfold loadC
  rw [hk]
  refine nodup_snoc ?_ ?_
  · rw [drop_names]; exact List.Nodup.sublist (List.drop_sublist _ _) (nodup_off h.nd)
  · rw [drop_names]; intro e; exact not_off p m (List.mem_of_mem_drop e)
theorem inv_loadS {b : Nat} {p s : ByteArray} {m : List Kp} (h : Inv b m) : Inv b (loadS b p s m) := by
  unfold loadS
  by_cases he : loadE b p s = 0
  · rw [if_neg (by simpa using he)]
    refine (inv_load h ?_).1
    unfold loadE at he
    split at he
    · cases he
    · split at he
      · cases he
      · omega
  · rw [if_pos he]; exact h
theorem inv_getS {b : Nat} {p : ByteArray} {m : List Kp} (h : Inv b m) : Inv b (getS p m) := by
  unfold getS
  cases hg : get? p m with
  | none => exact h
  | some t =>
    have h1 := used_off h.nd hg
    have h2 := h.le
    refine ⟨nodup_snoc (nodup_off h.nd) (not_off p m), ?_⟩
    rw [used_append]
    show used (off p m) + (t.size + 0) ≤ b
    omega
theorem inv_dropS {b : Nat} {p : ByteArray} {m : List Kp} (h : Inv b m) : Inv b (dropS p m) := ⟨nodup_off h.nd, Nat.le_trans (used_off_le p m) h.le⟩
/- the reference's Get: its Load with the text that is there -/
theorem get_load {b : Nat} {p t : ByteArray} {m : List Kp} (h : Inv b m) (hg : get? p m = some t) : loadC b p t m = getS p m := by
  have h1 := used_off h.nd hg
  have h2 := h.le
  unfold loadC getS
  rw [hg, trim_id]
  rw [used_append]
  show used (off p m) + (t.size + 0) ≤ b
  omega
/- what was asked for is there, last -/
theorem get_snoc {p s : ByteArray} : ∀ {m : List Kp}, p ∉ names m → get? p (m ++ [(p, s)]) = some s
  | [], _ => by simp [get?]
  | x :: m, h => by
    have h2 : ¬ (p = x.1 ∨ p ∈ names m) := by simpa [names] using h
    rw [List.cons_append]
    unfold get?
    rw [if_neg (fun e => h2 (Or.inl e.symm))]
    exact get_snoc (fun e => h2 (Or.inr e))
/- the first one is asked for: it is the last one then -/
theorem get_first {x : Kp} {m : List Kp} (h : (names (x :: m)).Nodup) : get? x.1 (x :: m) = some x.2 ∧ getS x.1 (x :: m) = m ++ [x] := by
  have hn : x.1 ∉ names m ∧ (names m).Nodup := List.nodup_cons.1 h
  have hg : get? x.1 (x :: m) = some x.2 := by unfold get?; rw [if_pos rfl]
  refine ⟨hg, ?_⟩
  unfold getS
  rw [hg]
  show off x.1 (x :: m) ++ [(x.1, x.2)] = m ++ [x]
  rw [off_cons_eq rfl, off_none hn.1]
/- asked for one behind the other, from the first one on, they stand as they stood -/
def turn (m : List Kp) (k : Nat) : List Kp := m.drop k ++ m.take k
theorem turn_next {m : List Kp} {k : Nat} (h : (names m).Nodup) (hk : k < m.length) : get? (m[k]).1 (turn m k) = some (m[k]).2 ∧ getS (m[k]).1 (turn m k) = turn m (k + 1) := by
  have e : turn m k = m[k] :: (m.drop (k + 1) ++ m.take k) := by
    unfold turn
    rw [List.drop_eq_getElem_cons hk, List.cons_append]
  have hp : (names (turn m k)).Nodup := by
    unfold turn names
    rw [List.map_append]
    have h9 : (names (m.take k ++ m.drop k)).Nodup := by rw [List.take_append_drop]; exact h
    unfold names at h9
    rw [List.map_append] at h9
    exact (List.perm_append_comm.nodup_iff).1 h9
  rw [e] at hp ⊢
  obtain ⟨h1, h2⟩ := get_first hp
  refine ⟨h1, ?_⟩
  rw [h2]
  unfold turn
  rw [List.append_assoc, List.take_add_one, List.getElem?_eq_getElem hk]
  rfl
theorem turn_all (m : List Kp) : turn m m.length = m := by unfold turn; simp
theorem turn_zero (m : List Kp) : turn m 0 = m := by unfold turn; simp

end Fb
end Go.Proofs.YtllcmfbkingfdaaGreat
