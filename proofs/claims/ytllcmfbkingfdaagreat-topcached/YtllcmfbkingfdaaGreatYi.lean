/- TopCached's mathematics: what a cache of stretches holds. -/
import Derived.Test.YtllcmfbkingfdaaGreatFe
import Derived.Test.YtllcmfbkingfdaaGreatSd
namespace Go.Proofs.YtllcmfbkingfdaaGreat
namespace Yi
set_option linter.unusedVariables false
open Bm Cm Sm Sd
open Fb (Kp get? off trim loadC loadS loadE getS)

/- what the k-th stretch has, and its place -/
def sl (l : List Leaf) (m : List Mk) (k : Nat) : ByteArray := ⟨(sliceB l (heads m) k).toArray⟩
def hd (m : List Mk) (k : Nat) : ByteArray := (heads m).getD k ByteArray.empty
theorem hd_inj {m : List Mk} (hm : marksE m = 0) {i j : Nat} (hi : i < (heads m).length) (hj : j < (heads m).length) (h : hd m i = hd m j) : i = j := by
  unfold hd at h
  rcases Nat.lt_trichotomy i j with e | e | e
  · have h1 := heads_lt hm e hj
    rw [h, less_irrefl] at h1; cases h1
  · exact e
  · have h1 := heads_lt hm e hi
    rw [h, less_irrefl] at h1; cases h1
theorem hd_place {m : List Mk} (hm : marksE m = 0) {k : Nat} (hk : k < (heads m).length) : (hd m k).size = 0 ∨ Pm.chk (hd m k).toList = 0 := by
  unfold hd heads
  cases k with
  | zero => exact Or.inl rfl
  | succ k =>
    right
    have hk2 : k < (placesL m).length := by unfold heads at hk; simpa using hk
    refine places_chk hm ?_
    show (placesL m).getD k ByteArray.empty ∈ _
    rw [List.getD_eq_getElem?_getD, List.getElem?_eq_getElem hk2]
    exact List.getElem_mem _
/- all that is kept is what the stretches have -/
def Hon (l : List Leaf) (m : List Mk) (K : List Kp) : Prop := ∀ x ∈ K, ∀ k, k < (heads m).length → x.1 = hd m k → x.2 = sl l m k
theorem Hon.nil (l : List Leaf) (m : List Mk) : Hon l m [] := fun x hx => by cases hx
theorem get_pair {p t : ByteArray} : ∀ {K : List Kp}, get? p K = some t → (p, t) ∈ K
  | [], h => by cases h
  | x :: K, h => by
    by_cases e : x.1 = p
    · have h2 : get? p (x :: K) = some x.2 := by show (if x.1 = p then some x.2 else _) = _; rw [if_pos e]
      rw [h2] at h
      injection h with h
      rw [← e, ← h]; exact List.mem_cons_self
    · have h2 : get? p (x :: K) = get? p K := by show (if x.1 = p then some x.2 else _) = _; rw [if_neg e]
      rw [h2] at h
      exact List.mem_cons_of_mem _ (get_pair h)
theorem Hon.hit {l : List Leaf} {m : List Mk} {K : List Kp} (h : Hon l m K) {k : Nat} (hk : k < (heads m).length) {t : ByteArray} (hg : get? (hd m k) K = some t) : t = sl l m k := h _ (get_pair hg) k hk rfl
theorem Hon.get {l : List Leaf} {m : List Mk} {K : List Kp} (h : Hon l m K) (p : ByteArray) : Hon l m (getS p K) := by
  unfold getS
  cases hg : get? p K with
  | none => exact h
  | some t =>
    intro x hx
    rcases List.mem_append.1 hx with e | e
    · exact h x (List.mem_filter.1 e).1
    · rw [List.mem_singleton.1 e]; exact h _ (get_pair hg)
theorem Hon.load {l : List Leaf} {m : List Mk} {K : List Kp} (h : Hon l m K) (hm : marksE m = 0) (b : Nat) {k : Nat} (hk : k < (heads m).length) : Hon l m (loadS b (hd m k) (sl l m k) K) := by
  unfold loadS
  split
  · exact h
  · intro x hx
    rcases List.mem_append.1 (Fe.trim_sub _ _ hx) with e | e
    · exact h x (List.mem_filter.1 e).1
    · intro j hj hx1
      rw [List.mem_singleton.1 e] at hx1 ⊢
      rw [hd_inj hm hk hj hx1]
theorem getS_len (p : ByteArray) (m : List Kp) : (getS p m).length ≤ m.length + 1 := by
  unfold getS
  cases get? p m with
  | none => exact Nat.le_succ _
  | some t =>
    show (off p m ++ [(p, t)]).length ≤ _
    have := Fe.off_len p m
    rw [List.length_append]
    show (off p m).length + 1 ≤ _
    omega
theorem load_err {m : List Mk} (hm : marksE m = 0) (b : Nat) {k : Nat} (hk : k < (heads m).length) (s : ByteArray) : loadE b (hd m k) s = if b < s.size then 4 else 0 := by
  unfold loadE
  rw [if_neg]
  rintro ⟨h1, h2⟩
  rcases hd_place hm hk with e | e
  · exact h1 e
  · exact h2 e
/- the letter at an offset is that of its stretch -/
theorem letter_at {l : List Leaf} {m : List Mk} (hr : Bm.Rise l) (hm : marksE m = 0) {f : Int} {k : Nat} (h : locO l m f = some k) : k < (heads m).length ∧ ∃ o j : Nat, f = (o : Int) ∧ f - (beg l (heads m) k : Int) = (j : Int) ∧ ∃ (h1 : j < (sl l m k).size) (h2 : o < (⟨(text l).toArray⟩ : ByteArray).size), (sl l m k)[j]'h1 = (⟨(text l).toArray⟩ : ByteArray)[o]'h2 := by
  obtain ⟨hk, h1, h2⟩ := loc_in h
  refine ⟨hk, f.toNat, f.toNat - beg l (heads m) k, by omega, by omega, ?_⟩
  have hle := beg_le l (heads m) (k + 1)
  have hsz : (sl l m k).size = beg l (heads m) (k + 1) - beg l (heads m) k := by
    have := slice_len hr hm k
    unfold sl
    show (sliceB l (heads m) k).toArray.size = _
    rw [List.size_toArray]; exact this
  have htz : (⟨(text l).toArray⟩ : ByteArray).size = (text l).length := by show (text l).toArray.size = _; rw [List.size_toArray]
  refine ⟨by rw [hsz]; omega, by rw [htz]; omega, ?_⟩
  have e1 : ∀ (L : List UInt8) (i : Nat) (hi : i < (⟨L.toArray⟩ : ByteArray).size), some ((⟨L.toArray⟩ : ByteArray)[i]'hi) = L[i]? := fun L i hi => by
    have hi2 : i < L.length := by have := hi; simpa [ByteArray.size] using this
    rw [List.getElem?_eq_getElem hi2]; rfl
  have e2 := e1 (sliceB l (heads m) k) (f.toNat - beg l (heads m) k) (by have := hsz; unfold sl at this; rw [this]; omega)
  have e3 := e1 (text l) f.toNat (by rw [htz]; omega)
  have e4 : (sliceB l (heads m) k)[f.toNat - beg l (heads m) k]? = (text l)[f.toNat]? := by
    unfold sliceB
    rw [List.getElem?_take_of_lt (by omega), List.getElem?_drop, show beg l (heads m) k + (f.toNat - beg l (heads m) k) = f.toNat by omega]
  rw [e4, ← e3] at e2
  exact Option.some.inj e2

end Yi
end Go.Proofs.YtllcmfbkingfdaaGreat
