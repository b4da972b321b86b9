/- Package net, an edit at a node: which ops, and how long their places are; what is erased. -/
import Derived.Test.YthalakfphecflaaGreatDoorHl
import Derived.Test.YthalakfphecflaaGreatDoorAg
import Derived.Test.YthalakfphecflaaGreatDoorUr
import Derived.Test.YthalakfphecflaaGreatDoorUq
namespace Go.Proofs.YthalakfphecflaaGreatDoor
namespace Ho
set_option linter.unusedVariables false
set_option linter.unusedSimpArgs false
open Go.ChangeShapes Go.WideShapes Go.ChangeAt Go.RowKit Cm Ka Kb Na Om Oa Oz Oc Og Oi Hm Ia Ic Ie Um Aa Ov Hc Hd Hi Hl
open La (bel bel_drew errV_zero errV_ne own_ge own_grow own_below Lies)

/- how long a parcel is -/
theorem each_len : ∀ (l : List Ox), (∀ o ∈ l, opE o = 0) → (eachB l).length ≤ 142 * l.length
  | [], _ => by simp [eachB]
  | o :: l, h => by
    have h1 := each_len l (fun x hx => h x (List.mem_cons_of_mem _ hx))
    have h2 := (bytes_le (h o (List.mem_cons_self ..))).2
    rw [eachB_cons, List.length_append, List.length_append, b2_len, List.length_cons]
    omega
theorem pack_size {l : List Ox} (h : packE l = 0) : (packT l).size ≤ maxLen := by
  obtain ⟨h1, h2⟩ := packE_zero.1 h
  have h3 := each_len l h2
  have h4 : (packB l).length ≤ 60000 := by unfold packB; rw [List.length_append, b2_len]; omega
  show (packB l).toArray.size ≤ _
  rw [List.size_toArray]; unfold maxLen; omega
theorem pack_same {l : List Ox} (h : packE l = 0) : packS l = packT l := by unfold packS packT; rw [if_pos h]
theorem parc_same {A B : Dq} (IA : Inv A) (IB : Inv B) : Ag.parcS A B.known = packT (lackL A.ops B.known) := by
  unfold Ag.parcS
  rw [if_neg (by rw [Ii.vec_ok IB]; simp)]
  exact pack_same (Ag.pack_zero IA _)
/- how long the places are -/
theorem seen_small {S : Dq} (I : Inv S) {p : ByteArray} (h : p ∈ seenP S.book) : p.size ≤ maxLen := by
  obtain ⟨x, hx, _, rfl⟩ := seenP_mem h
  exact small_book I.book x hx
theorem getD_small {l : List ByteArray} (h : ∀ p ∈ l, p.size ≤ maxLen) (k : Nat) : (l.getD k ⟨#[]⟩).size ≤ maxLen := by
  rw [List.getD_eq_getElem?_getD]
  cases hk : l[k]? with
  | none => show (0 : Nat) ≤ _; omega
  | some p => exact h p (List.mem_of_getElem? hk)
theorem ed_max {S : Dq} (I : Inv S) {w : Int} {e : Ev} (he : edE S w e = 0) : ∀ x ∈ edL S w e, x.2.2.1.size ≤ maxLen := by
  unfold edE at he
  unfold edL
  intro x hx
  by_cases h1 : e.1 = 1
  · rw [if_pos h1] at he hx
    split at he
    · cases he
    · have := small_ops I.book (insE_zero.1 he) x hx
      unfold maxLen; omega
  · rw [if_neg h1] at he hx
    by_cases h2 : e.1 = 2
    · rw [if_pos h2] at hx
      unfold delL at hx
      obtain ⟨k, _, rfl⟩ := List.mem_map.1 hx
      refine getD_small (fun p hp => seen_small I ?_) k
      unfold delP at hp
      exact List.mem_of_mem_take (List.mem_of_mem_drop hp)
    · rw [if_neg h2] at hx
      have ha : (atP S e.2.2.1).size ≤ maxLen := getD_small (fun p hp => seen_small I hp) _
      by_cases h7 : e.1 = 7
      · rw [if_pos h7] at hx
        unfold splL at hx
        rw [List.mem_singleton] at hx
        subst hx; exact ha
      · rw [if_neg h7] at hx
        unfold fusL at hx
        rw [List.mem_singleton] at hx
        subst hx; exact ha
/- behind the greatest number comes the least one -/
theorem era_E {S : Dq} (I : Inv S) {w : Int} (hw : Pm.isWho w = true) (b : Int) : delE S w b (IntKind.i64.wrap (b + 1)) = if b < 0 ∨ ((seenP S.book).length : Int) ≤ b then 1 else 0 := by
  have hs : (seenP S.book).length ≤ 300 := Nat.le_trans (seenP_le _) (Il.few_book I)
  unfold delE
  rw [hw, if_neg (by simp), IntKind.wrap_i64]
  by_cases h : b < 0 ∨ ((seenP S.book).length : Int) ≤ b
  · rw [if_pos h, if_pos]
    rcases h with h | h
    · exact Or.inl h
    · omega
  · rw [if_neg h, if_neg]; omega
theorem era_L {S : Dq} (I : Inv S) {w b : Int} (h : ¬ (b < 0 ∨ ((seenP S.book).length : Int) ≤ b)) : IntKind.i64.wrap (b + 1) = b + 1 := by
  have hs : (seenP S.book).length ≤ 300 := Nat.le_trans (seenP_le _) (Il.few_book I)
  rw [IntKind.wrap_i64]; omega

end Ho
end Go.Proofs.YthalakfphecflaaGreatDoor
