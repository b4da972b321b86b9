import GoSem.Op.String
import Derived.Laws.Strings
/- The plain mathematics of places: the texts between two places, by lists of bytes. No program is named here. -/
namespace Go.Proofs.YtcmoajlcmeimiacDoor
namespace Pm

def inside (t a b : List UInt8) : Bool := (!(Op.bytesLess t a || t == a)) && (b.isEmpty || Op.bytesLess t b)
def stem (t a b : List UInt8) : Bool := (inside t a b && (t.getLast? != some 97)) && !(t.isPrefixOf b)
def may (t a b : List UInt8) : Bool := inside t a b || t.isPrefixOf a
def isLet (c : UInt8) : Bool := decide (97 ≤ c.toNat ∧ c.toNat ≤ 122)
def isWho (n : Int) : Bool := decide (1 ≤ n) && decide (n ≤ 8)
/- the author's number by the last letter -/
def whoOf (p : List UInt8) : Int := ((p.getLast?.getD 0).toNat : Int) - 97
/- what is wrong with a place: 0: nothing -/
def chk (p : List UInt8) : Int :=
  if 12 < p.length then 4
  else if p.length < 2 then 2
  else if !(p.all isLet) then 2
  else if p.dropLast.getLast? == some 97 then 2
  else if !(isWho (whoOf p)) then 2
  else 0
def whoR (p : List UInt8) : Int := if chk p = 0 then whoOf p else 0
def sides (a b : List UInt8) : Int :=
  if a ≠ [] ∧ chk a ≠ 0 then chk a
  else if b ≠ [] ∧ chk b ≠ 0 then chk b
  else if a ≠ [] ∧ b ≠ [] ∧ Op.bytesLess a b = false then 3
  else 0


/- the letters; one letter more behind a text; behind each of some texts -/
def letters : List UInt8 := (List.range 26).map fun i => UInt8.ofNat (97 + i)
def ext (h : List UInt8) : List (List UInt8) := letters.map fun c => h ++ [c]
def exts (o : List (List UInt8)) : List (List UInt8) := o.flatMap ext
def stems (o : List (List UInt8)) (a b : List UInt8) : List (List UInt8) := (exts o).filter fun t => stem t a b
def longer (o : List (List UInt8)) (a b : List UInt8) : List (List UInt8) := (exts o).filter fun t => may t a b
/- what has been tried behind k whole rounds and j letters -/
def cand (o : List (List UInt8)) (k j : Nat) : List (List UInt8) := exts (o.take k) ++ (ext (o.getD k [])).take j

end Pm
end Go.Proofs.YtcmoajlcmeimiacDoor
/- The plain mathematics of books: leafs by place, rising. No program is named here. -/
namespace Go.Proofs.YtcmoajlcmeimiacDoor
namespace Bm
set_option linter.unusedVariables false
open Op (bytesLess)

theorem less_irrefl : ∀ a : List UInt8, bytesLess a a = false
  | [] => rfl
  | x :: r => by simp [bytesLess, less_irrefl r]
theorem less_asymm : ∀ {a b : List UInt8}, bytesLess a b = true → bytesLess b a = false
  | _, [], h => by simp [bytesLess] at h
  | [], _ :: _, _ => rfl
  | x :: a, y :: b, h => by
    simp only [bytesLess, Bool.or_eq_true, decide_eq_true_eq, Bool.and_eq_true, beq_iff_eq] at h
    simp only [bytesLess, Bool.or_eq_false_iff, decide_eq_false_iff_not, Bool.and_eq_false_iff]
    rcases h with h | ⟨rfl, h⟩
    · rw [UInt8.lt_iff_toNat_lt] at h ⊢
      refine ⟨by omega, Or.inl ?_⟩
      rw [beq_eq_false_iff_ne]
      intro e; rw [e] at h; omega
    · rw [UInt8.lt_iff_toNat_lt]
      exact ⟨by omega, Or.inr (less_asymm h)⟩
theorem less_total : ∀ {a b : List UInt8}, bytesLess a b = false → a ≠ b → bytesLess b a = true
  | [], [], _, h => absurd rfl h
  | _ :: _, [], _, _ => rfl
  | [], _ :: _, h, _ => by simp [bytesLess] at h
  | x :: a, y :: b, h, hne => by
    simp only [bytesLess, Bool.or_eq_false_iff, decide_eq_false_iff_not, Bool.and_eq_false_iff] at h
    simp only [bytesLess, Bool.or_eq_true, decide_eq_true_eq, Bool.and_eq_true, beq_iff_eq]
    rw [UInt8.lt_iff_toNat_lt] at h ⊢
    obtain ⟨h1, h2⟩ := h
    by_cases e : y = x
    · subst e
      refine Or.inr ⟨rfl, ?_⟩
      rcases h2 with h2 | h2
      · simp at h2
      · exact less_total h2 (by rintro rfl; exact hne rfl)
    · refine Or.inl ?_
      have : y.toNat ≠ x.toNat := fun e2 => e (UInt8.toNat_inj.1 e2)
      omega
theorem less_trans : ∀ {x y z : List UInt8}, bytesLess x y = true → bytesLess y z = true → bytesLess x z = true
  | _, [], _, h, _ => by simp [bytesLess] at h
  | _, _ :: _, [], _, h => by simp [bytesLess] at h
  | [], _ :: _, _ :: _, _, _ => rfl
  | a :: x, b :: y, c :: z, h1, h2 => by
    simp only [bytesLess, Bool.or_eq_true, decide_eq_true_eq, Bool.and_eq_true, beq_iff_eq, UInt8.lt_iff_toNat_lt] at h1 h2 ⊢
    rcases h1 with h1 | ⟨rfl, h1⟩
    · rcases h2 with h2 | ⟨rfl, h2⟩
      · left; omega
      · exact Or.inl h1
    · rcases h2 with h2 | ⟨rfl, h2⟩
      · exact Or.inl h2
      · exact Or.inr ⟨rfl, less_trans h1 h2⟩
theorem bytes_inj {a b : ByteArray} (h : a.toList = b.toList) : a = b := by
  rw [ByteArray.toList_eq, ByteArray.toList_eq] at h
  cases a; cases b; simp only [ByteArray.mk.injEq]; exact Array.toList_inj.1 h

/- a leaf: its place, its letter (0: none), whether it is struck -/
abbrev Leaf := ByteArray × Int × Bool
def none0 : Leaf := (ByteArray.empty, 0, false)
def isL (n : Int) : Bool := decide (32 ≤ n) && decide (n ≤ 126)
def leafE (x : Leaf) : Int := if Pm.chk x.1.toList ≠ 0 then Pm.chk x.1.toList else if x.2.1 ≠ 0 ∧ isL x.2.1 = false then 1 else if x.2.1 = 0 ∧ x.2.2 = false then 3 else 0
def goes (a : List UInt8) : List Leaf → Int
  | [] => 0
  | x :: l => if leafE x ≠ 0 then leafE x else if bytesLess a x.1.toList = false then 7 else goes x.1.toList l
def bookE (l : List Leaf) : Int := if 300 < l.length then 4 else goes [] l
def isS (x : Leaf) : Bool := (x.2.1 != 0) && !x.2.2
def letter (x : Leaf) : UInt8 := UInt8.ofNat x.2.1.toNat
def text (l : List Leaf) : List UInt8 := (l.filter isS).map letter
/- which leaf is the one isS at an offset r, the first one having the number i; -1: there is none -/
def nth : List Leaf → Nat → Int → Int
  | [], _, _ => -1
  | x :: l, i, r => if isS x then (if r = 0 then i else nth l (i + 1) (r - 1)) else nth l (i + 1) r
def ahd (l : List Leaf) (p : List UInt8) : Nat := (l.takeWhile fun x => bytesLess x.1.toList p).length
def has (l : List Leaf) (p : List UInt8) : Bool := decide (ahd l p < l.length) && ((l.getD (ahd l p) none0).1.toList == p)
def withE (l : List Leaf) (p : ByteArray) : Int := if bookE l ≠ 0 then bookE l else Pm.chk p.toList
def leafAt (l : List Leaf) (p : ByteArray) : Leaf := if has l p.toList then l.getD (ahd l p.toList) none0 else (p, 0, false)
def putE (l : List Leaf) (p : ByteArray) : Int := if has l p.toList = false ∧ 300 ≤ l.length then 4 else 0
def putL (l : List Leaf) (p : ByteArray) (x : Leaf) : List Leaf := l.take (ahd l p.toList) ++ x :: l.drop (if has l p.toList then ahd l p.toList + 1 else ahd l p.toList)
def clash (x : Leaf) (c : Int) : Bool := (x.2.1 != 0) && (x.2.1 != c)
def wrE (l : List Leaf) (p : ByteArray) (c : Int) : Int := if isL c = false then 1 else if clash (leafAt l p) c then 7 else putE l p
def wrX (l : List Leaf) (p : ByteArray) (c : Int) : Leaf := (p, c, (leafAt l p).2.2)
def stX (l : List Leaf) (p : ByteArray) : Leaf := (p, (leafAt l p).2.1, true)
def writeE (l : List Leaf) (p : ByteArray) (c : Int) : Int := if withE l p ≠ 0 then withE l p else wrE l p c
def writeL (l : List Leaf) (p : ByteArray) (c : Int) : List Leaf := if writeE l p c = 0 then putL l p (wrX l p c) else []
def strikeE (l : List Leaf) (p : ByteArray) : Int := if withE l p ≠ 0 then withE l p else putE l p
def strikeL (l : List Leaf) (p : ByteArray) : List Leaf := if strikeE l p = 0 then putL l p (stX l p) else []

def Rise (l : List Leaf) : Prop := l.Pairwise fun x y => bytesLess x.1.toList y.1.toList = true

theorem chk_pos {p : List UInt8} (h : Pm.chk p = 0) : 2 ≤ p.length ∧ p.length ≤ 12 := by
  unfold Pm.chk at h
  by_cases h1 : 12 < p.length
  · rw [if_pos h1] at h; omega
  · rw [if_neg h1] at h
    by_cases h2 : p.length < 2
    · rw [if_pos h2] at h; omega
    · omega
theorem leafE_zero {x : Leaf} : leafE x = 0 ↔ Pm.chk x.1.toList = 0 ∧ (x.2.1 = 0 ∨ isL x.2.1 = true) ∧ (x.2.1 ≠ 0 ∨ x.2.2 = true) := by
  unfold leafE
  by_cases h1 : Pm.chk x.1.toList = 0
  · rw [if_neg (by simpa using h1)]
    by_cases h2 : x.2.1 = 0
    · rw [if_neg (by intro h; exact h.1 h2)]
      cases h3 : x.2.2 <;> simp [h1, h2]
    · cases h3 : isL x.2.1 <;> simp [h1, h2]
  · rw [if_pos h1]; simp [h1]

theorem goes_zero : ∀ {l : List Leaf} {a : List UInt8}, goes a l = 0 ↔ (∀ x ∈ l, leafE x = 0) ∧ (∀ x ∈ l, bytesLess a x.1.toList = true) ∧ Rise l
  | [], a => by simp [goes, Rise]
  | x :: l, a => by
    unfold goes
    by_cases h1 : leafE x = 0
    · rw [if_neg (by simpa using h1)]
      cases h2 : bytesLess a x.1.toList
      · simp [h2]
      · rw [if_neg (by simp), goes_zero]
        constructor
        · rintro ⟨g1, g2, g3⟩
          refine ⟨?_, ?_, ?_⟩
          · intro y hy
            rcases List.mem_cons.1 hy with rfl | hy
            · exact h1
            · exact g1 y hy
          · intro y hy
            rcases List.mem_cons.1 hy with rfl | hy
            · exact h2
            · exact less_trans h2 (g2 y hy)
          · exact List.pairwise_cons.2 ⟨g2, g3⟩
        · rintro ⟨g1, g2, g3⟩
          have g4 := List.pairwise_cons.1 g3
          exact ⟨fun y hy => g1 y (List.mem_cons_of_mem _ hy), g4.1, g4.2⟩
    · rw [if_pos h1]
      constructor
      · intro h; exact absurd h h1
      · rintro ⟨g1, _, _⟩; exact g1 x (List.mem_cons_self ..)
theorem bookE_zero {l : List Leaf} : bookE l = 0 ↔ l.length ≤ 300 ∧ (∀ x ∈ l, leafE x = 0) ∧ Rise l := by
  unfold bookE
  by_cases h : 300 < l.length
  · rw [if_pos h]; constructor
    · intro h2; omega
    · rintro ⟨h2, _⟩; omega
  · rw [if_neg h, goes_zero]
    constructor
    · rintro ⟨a, _, b⟩; exact ⟨by omega, a, b⟩
    · rintro ⟨_, a, b⟩
      refine ⟨a, fun x hx => ?_, b⟩
      have := (chk_pos (leafE_zero.1 (a x hx)).1).1
      cases hx : x.1.toList with
      | nil => rw [hx] at this; simp at this
      | cons _ _ => rfl

/- a book that rises, cut at a place -/
theorem cut_at : ∀ {l : List Leaf} (p : List UInt8), Rise l → (∀ j, j < ahd l p → bytesLess (l.getD j none0).1.toList p = true) ∧ (∀ j, ahd l p ≤ j → j < l.length → bytesLess (l.getD j none0).1.toList p = false) ∧ ahd l p ≤ l.length
  | [], p, _ => by simp [ahd]
  | x :: l, p, h => by
    have hc := List.pairwise_cons.1 h
    obtain ⟨i1, i2, i3⟩ := cut_at p hc.2
    cases hx : bytesLess x.1.toList p
    · have e : ahd (x :: l) p = 0 := by simp [ahd, hx]
      rw [e]
      refine ⟨fun j hj => absurd hj (by omega), fun j _ hj => ?_, by omega⟩
      cases j with
      | zero => exact hx
      | succ j =>
        have hj2 : j < l.length := by simpa using hj
        have := hc.1 (l.getD j none0) (by rw [List.getD_eq_getElem?_getD, List.getElem?_eq_getElem hj2]; exact List.getElem_mem hj2)
        show bytesLess (l.getD j none0).1.toList p = false
        cases h9 : bytesLess (l.getD j none0).1.toList p
        · rfl
        · rw [less_trans this h9] at hx; cases hx
    · have e : ahd (x :: l) p = ahd l p + 1 := by simp [ahd, hx]
      rw [e]
      refine ⟨fun j hj => ?_, fun j hj1 hj => ?_, by simp; omega⟩
      · cases j with
        | zero => exact hx
        | succ j => exact i1 j (by omega)
      · cases j with
        | zero => omega
        | succ j => exact i2 j (by omega) (by simpa using hj)
theorem ahead_eq {l : List Leaf} {p : List UInt8} (hr : Rise l) {i : Nat} (hi : i ≤ l.length) (h1 : ∀ j, j < i → bytesLess (l.getD j none0).1.toList p = true) (h2 : ∀ j, i ≤ j → j < l.length → bytesLess (l.getD j none0).1.toList p = false) : ahd l p = i := by
  obtain ⟨g1, g2, g3⟩ := cut_at p hr
  rcases Nat.lt_trichotomy (ahd l p) i with h | h | h
  · have := h1 _ h; rw [g2 _ (Nat.le_refl _) (by omega)] at this; cases this
  · exact h
  · have := g1 _ h; rw [h2 _ (Nat.le_refl _) (by omega)] at this; cases this
theorem ahead_le {l : List Leaf} {p : List UInt8} (hr : Rise l) : ahd l p ≤ l.length := (cut_at p hr).2.2

theorem getD_mem {l : List Leaf} {j : Nat} (hj : j < l.length) : l.getD j none0 ∈ l := by
  rw [List.getD_eq_getElem?_getD, List.getElem?_eq_getElem hj]; exact List.getElem_mem hj
theorem mem_getD {l : List Leaf} {x : Leaf} (h : x ∈ l) : ∃ j, j < l.length ∧ l.getD j none0 = x := by
  obtain ⟨j, hj, e⟩ := List.getElem_of_mem h
  exact ⟨j, hj, by rw [List.getD_eq_getElem?_getD, List.getElem?_eq_getElem hj, e]; rfl⟩
theorem rise_lt {l : List Leaf} (hr : Rise l) {i j : Nat} (hij : i < j) (hj : j < l.length) : bytesLess (l.getD i none0).1.toList (l.getD j none0).1.toList = true := by
  have := List.pairwise_iff_getElem.1 hr i j (by omega) hj hij
  rw [List.getD_eq_getElem?_getD, List.getD_eq_getElem?_getD, List.getElem?_eq_getElem hj, List.getElem?_eq_getElem (show i < l.length by omega)]
  exact this
theorem has_iff {l : List Leaf} (hr : Rise l) {p : List UInt8} : has l p = true ↔ ∃ x ∈ l, x.1.toList = p := by
  obtain ⟨g1, g2, g3⟩ := cut_at p hr
  unfold has
  rw [Bool.and_eq_true, decide_eq_true_eq, beq_iff_eq]
  constructor
  · rintro ⟨h1, h2⟩; exact ⟨_, getD_mem h1, h2⟩
  · rintro ⟨x, hx, rfl⟩
    obtain ⟨j, hj, rfl⟩ := mem_getD hx
    rcases Nat.lt_trichotomy j (ahd l (l.getD j none0).1.toList) with h | h | h
    · have := g1 j h; rw [less_irrefl] at this; cases this
    · rw [← h]; exact ⟨hj, rfl⟩
    · have h3 := g2 _ (Nat.le_refl _) (by omega)
      have := rise_lt hr h hj
      rw [h3] at this; cases this
theorem leafAt_has {l : List Leaf} (hr : Rise l) {p : ByteArray} (h : has l p.toList = true) : leafAt l p ∈ l ∧ (leafAt l p).1 = p := by
  unfold leafAt
  rw [h, if_pos rfl]
  unfold has at h
  rw [Bool.and_eq_true, decide_eq_true_eq, beq_iff_eq] at h
  exact ⟨getD_mem h.1, bytes_inj h.2⟩
theorem leafAt_key {l : List Leaf} (hr : Rise l) (p : ByteArray) : (leafAt l p).1 = p := by
  cases h : has l p.toList
  · unfold leafAt; rw [h]; rfl
  · exact (leafAt_has hr h).2
theorem uniq {l : List Leaf} (hr : Rise l) {x y : Leaf} (hx : x ∈ l) (hy : y ∈ l) (h : x.1 = y.1) : x = y := by
  obtain ⟨i, hi, rfl⟩ := mem_getD hx
  obtain ⟨j, hj, rfl⟩ := mem_getD hy
  rcases Nat.lt_trichotomy i j with e | e | e
  · have := rise_lt hr e hj; rw [h, less_irrefl] at this; cases this
  · rw [e]
  · have := rise_lt hr e hi; rw [h, less_irrefl] at this; cases this
theorem leafAt_mem {l : List Leaf} (hr : Rise l) {x : Leaf} (hx : x ∈ l) : leafAt l x.1 = x := by
  have h := leafAt_has hr ((has_iff hr).2 ⟨x, hx, rfl⟩)
  exact uniq hr h.1 hx h.2
theorem leafAt_none {l : List Leaf} (hr : Rise l) {p : ByteArray} (h : ∀ x ∈ l, x.1 ≠ p) : leafAt l p = (p, 0, false) := by
  unfold leafAt
  rw [if_neg]
  intro hh
  have := leafAt_has hr hh
  exact h _ this.1 this.2

/- the two parts of a book at a place -/
theorem take_less {l : List Leaf} {p : List UInt8} (hr : Rise l) {x : Leaf} (h : x ∈ l.take (ahd l p)) : x ∈ l ∧ bytesLess x.1.toList p = true := by
  obtain ⟨i, hi, rfl⟩ := List.getElem_of_mem h
  have hi2 : i < ahd l p := by rw [List.length_take] at hi; omega
  have hi3 : i < l.length := by rw [List.length_take] at hi; omega
  have := (cut_at p hr).1 i hi2
  rw [List.getD_eq_getElem?_getD, List.getElem?_eq_getElem hi3] at this
  rw [List.getElem_take]
  exact ⟨List.getElem_mem _, this⟩
theorem drop_more {l : List Leaf} {p : List UInt8} (hr : Rise l) {x : Leaf} (h : x ∈ l.drop (if has l p then ahd l p + 1 else ahd l p)) : x ∈ l ∧ bytesLess p x.1.toList = true := by
  obtain ⟨g1, g2, g3⟩ := cut_at p hr
  obtain ⟨d, hd⟩ : ∃ d, (if has l p then ahd l p + 1 else ahd l p) = d := ⟨_, rfl⟩
  rw [hd] at h
  obtain ⟨i, hi, rfl⟩ := List.getElem_of_mem h
  rw [List.length_drop] at hi
  rw [List.getElem_drop]
  refine ⟨List.getElem_mem _, ?_⟩
  have hd2 : ahd l p ≤ d := by rw [← hd]; split <;> omega
  have e : l[d + i]'(by omega) = l.getD (d + i) none0 := by rw [List.getD_eq_getElem?_getD, List.getElem?_eq_getElem (show d + i < l.length by omega)]; rfl
  rw [e]
  apply less_total (g2 _ (by omega) (by omega))
  intro hk
  have hh := (has_iff hr).2 ⟨_, getD_mem (show d + i < l.length by omega), hk⟩
  rw [hh, if_pos rfl] at hd
  unfold has at hh
  rw [Bool.and_eq_true, decide_eq_true_eq, beq_iff_eq] at hh
  have := rise_lt hr (show ahd l p < d + i by omega) (by omega)
  rw [hh.2, hk, less_irrefl] at this
  cases this
theorem put_rise {l : List Leaf} (hr : Rise l) {p : ByteArray} {x : Leaf} (hx : x.1 = p) : Rise (putL l p x) := by
  unfold putL Rise
  rw [List.pairwise_append]
  refine ⟨hr.sublist (List.take_sublist _ _), ?_, ?_⟩
  · rw [List.pairwise_cons]
    refine ⟨fun y hy => ?_, hr.sublist (List.drop_sublist _ _)⟩
    rw [hx]; exact (drop_more hr hy).2
  · intro a ha b hb
    have h1 := (take_less hr ha).2
    rcases List.mem_cons.1 hb with rfl | hb
    · rw [hx]; exact h1
    · exact less_trans h1 (drop_more hr hb).2
theorem put_mem {l : List Leaf} (hr : Rise l) {p : ByteArray} {x : Leaf} (hx : x.1 = p) (y : Leaf) : y ∈ putL l p x ↔ y = x ∨ (y ∈ l ∧ y.1 ≠ p) := by
  unfold putL
  rw [List.mem_append, List.mem_cons]
  constructor
  · rintro (h | rfl | h)
    · have := take_less hr h
      refine Or.inr ⟨this.1, fun e => ?_⟩
      have h2 := this.2; rw [e, less_irrefl] at h2; cases h2
    · exact Or.inl rfl
    · have := drop_more hr h
      refine Or.inr ⟨this.1, fun e => ?_⟩
      have h2 := this.2; rw [e, less_irrefl] at h2; cases h2
  · rintro (rfl | ⟨h, hne⟩)
    · exact Or.inr (Or.inl rfl)
    · obtain ⟨g1, g2, g3⟩ := cut_at p.toList hr
      obtain ⟨j, hj, rfl⟩ := mem_getD h
      rcases Nat.lt_or_ge j (ahd l p.toList) with h1 | h1
      · left
        rw [List.mem_take_iff_getElem]
        exact ⟨j, by omega, by rw [List.getD_eq_getElem?_getD, List.getElem?_eq_getElem hj]; rfl⟩
      · right; right
        have h2 : (if has l p.toList then ahd l p.toList + 1 else ahd l p.toList) ≤ j := by
          cases hh : has l p.toList
          · simpa using h1
          · rw [if_pos rfl]
            rcases Nat.lt_or_eq_of_le h1 with h3 | h3
            · omega
            · exfalso
              unfold has at hh
              rw [Bool.and_eq_true, decide_eq_true_eq, beq_iff_eq] at hh
              rw [h3] at hh
              exact hne (bytes_inj hh.2)
        rw [List.mem_drop_iff_getElem]
        exact ⟨j - (if has l p.toList then ahd l p.toList + 1 else ahd l p.toList), by omega, by rw [List.getD_eq_getElem?_getD, List.getElem?_eq_getElem hj, Option.getD_some]; congr 1; omega⟩
theorem put_length {l : List Leaf} (hr : Rise l) (p : ByteArray) (x : Leaf) : (putL l p x).length = if has l p.toList then l.length else l.length + 1 := by
  have := ahead_le (p := p.toList) hr
  unfold putL
  rw [List.length_append, List.length_take, List.length_cons, List.length_drop]
  cases hh : has l p.toList
  · simp; omega
  · unfold has at hh
    rw [Bool.and_eq_true, decide_eq_true_eq] at hh
    simp; omega
/- two that rise and have the same leafs are the same -/
theorem rise_ext : ∀ {a b : List Leaf}, Rise a → Rise b → (∀ x, x ∈ a ↔ x ∈ b) → a = b
  | [], [], _, _, _ => rfl
  | [], y :: b, _, _, h => by have := (h y).2 (List.mem_cons_self ..); simp at this
  | x :: a, [], _, _, h => by have := (h x).1 (List.mem_cons_self ..); simp at this
  | x :: a, y :: b, ha, hb, h => by
    have ca := List.pairwise_cons.1 ha
    have cb := List.pairwise_cons.1 hb
    have hxy : x = y := by
      rcases List.mem_cons.1 ((h x).1 (List.mem_cons_self ..)) with e | e
      · exact e
      · rcases List.mem_cons.1 ((h y).2 (List.mem_cons_self ..)) with e2 | e2
        · exact e2.symm
        · have h1 := cb.1 x e
          have h2 := ca.1 y e2
          rw [less_asymm h1] at h2; cases h2
    subst hxy
    congr 1
    refine rise_ext ca.2 cb.2 fun z => ?_
    have hz := h z
    constructor
    · intro hm
      rcases List.mem_cons.1 (hz.1 (List.mem_cons_of_mem _ hm)) with e | e
      · have := ca.1 z hm; rw [e, less_irrefl] at this; cases this
      · exact e
    · intro hm
      rcases List.mem_cons.1 (hz.2 (List.mem_cons_of_mem _ hm)) with e | e
      · have := cb.1 z hm; rw [e, less_irrefl] at this; cases this
      · exact e
theorem leafAt_put {l : List Leaf} (hr : Rise l) {p : ByteArray} {x : Leaf} (hx : x.1 = p) (q : ByteArray) : leafAt (putL l p x) q = if q = p then x else leafAt l q := by
  have hr2 := put_rise hr hx
  by_cases h : q = p
  · rw [if_pos h, h, ← hx]
    exact leafAt_mem hr2 ((put_mem hr hx x).2 (Or.inl rfl)) |>.trans rfl |> fun e => by rw [hx] at e ⊢; exact e
  · rw [if_neg h]
    cases hh : has l q.toList
    · have hn : ∀ y ∈ l, y.1 ≠ q := by
        intro y hy e
        have := (has_iff hr (p := q.toList)).2 ⟨y, hy, by rw [e]⟩
        rw [hh] at this; cases this
      rw [leafAt_none hr hn, leafAt_none hr2]
      intro y hy e
      rcases (put_mem hr hx y).1 hy with rfl | ⟨h1, _⟩
      · exact h (by rw [← e, hx])
      · exact hn y h1 e
    · have hm := leafAt_has hr hh
      have := leafAt_mem hr2 (x := leafAt l q) ((put_mem hr hx _).2 (Or.inr ⟨hm.1, by rw [hm.2]; exact h⟩))
      rw [hm.2] at this
      exact this
theorem put_swap {l : List Leaf} (hr : Rise l) {p q : ByteArray} {x y : Leaf} (hx : x.1 = p) (hy : y.1 = q) (hne : p ≠ q) : putL (putL l p x) q y = putL (putL l q y) p x := by
  have h1 := put_rise hr hx
  have h2 := put_rise hr hy
  refine rise_ext (put_rise h1 hy) (put_rise h2 hx) fun z => ?_
  rw [put_mem h1 hy, put_mem h2 hx, put_mem hr hx, put_mem hr hy]
  constructor
  · rintro (rfl | ⟨rfl | ⟨h, h3⟩, h4⟩)
    · exact Or.inr ⟨Or.inl rfl, by rw [hy]; exact fun e => hne e.symm⟩
    · exact Or.inl rfl
    · exact Or.inr ⟨Or.inr ⟨h, h4⟩, h3⟩
  · rintro (rfl | ⟨rfl | ⟨h, h3⟩, h4⟩)
    · exact Or.inr ⟨Or.inl rfl, by rw [hx]; exact hne⟩
    · exact Or.inl rfl
    · exact Or.inr ⟨Or.inr ⟨h, h4⟩, h3⟩
theorem put_again {l : List Leaf} (hr : Rise l) {p : ByteArray} {x y : Leaf} (hx : x.1 = p) (hy : y.1 = p) : putL (putL l p x) p y = putL l p y := by
  have h1 := put_rise hr hx
  refine rise_ext (put_rise h1 hy) (put_rise hr hy) fun z => ?_
  rw [put_mem h1 hy, put_mem hr hy, put_mem hr hx]
  constructor
  · rintro (rfl | ⟨rfl | ⟨h, h3⟩, h4⟩)
    · exact Or.inl rfl
    · exact absurd hx h4
    · exact Or.inr ⟨h, h4⟩
  · rintro (rfl | ⟨h, h3⟩)
    · exact Or.inl rfl
    · exact Or.inr ⟨Or.inr ⟨h, h3⟩, h3⟩

end Bm
end Go.Proofs.YtcmoajlcmeimiacDoor
/- Books that are written and struck: what stays right, what comes to the same, where it is isS. No program is named here. -/
namespace Go.Proofs.YtcmoajlcmeimiacDoor
namespace Bm
set_option linter.unusedVariables false
open Op (bytesLess)

theorem withE_zero {l : List Leaf} {p : ByteArray} : withE l p = 0 ↔ bookE l = 0 ∧ Pm.chk p.toList = 0 := by
  unfold withE
  by_cases h : bookE l = 0
  · rw [if_neg (by simpa using h)]; simp [h]
  · rw [if_pos h]; simp [h]
theorem putE_zero {l : List Leaf} {p : ByteArray} : putE l p = 0 ↔ has l p.toList = true ∨ l.length < 300 := by
  unfold putE
  cases h : has l p.toList
  · by_cases h2 : 300 ≤ l.length
    · rw [if_pos ⟨rfl, h2⟩]; simp; omega
    · rw [if_neg (fun h => h2 h.2)]; simp; omega
  · simp
theorem wrE_zero {l : List Leaf} {p : ByteArray} {c : Int} : wrE l p c = 0 ↔ isL c = true ∧ clash (leafAt l p) c = false ∧ putE l p = 0 := by
  unfold wrE
  cases h : isL c
  · simp
  · cases h2 : clash (leafAt l p) c <;> simp
theorem writeE_zero {l : List Leaf} {p : ByteArray} {c : Int} : writeE l p c = 0 ↔ withE l p = 0 ∧ wrE l p c = 0 := by
  unfold writeE
  by_cases h : withE l p = 0
  · rw [if_neg (by simpa using h)]; simp [h]
  · rw [if_pos h]; simp [h]
theorem strikeE_zero {l : List Leaf} {p : ByteArray} : strikeE l p = 0 ↔ withE l p = 0 ∧ putE l p = 0 := by
  unfold strikeE
  by_cases h : withE l p = 0
  · rw [if_neg (by simpa using h)]; simp [h]
  · rw [if_pos h]; simp [h]
theorem isL_ne {c : Int} (h : isL c = true) : c ≠ 0 ∧ 32 ≤ c ∧ c ≤ 126 := by
  unfold isL at h; rw [Bool.and_eq_true, decide_eq_true_eq, decide_eq_true_eq] at h; omega

theorem put_book {l : List Leaf} {p : ByteArray} {x : Leaf} (hb : bookE l = 0) (hx : x.1 = p) (hl : leafE x = 0) (hp : putE l p = 0) : bookE (putL l p x) = 0 := by
  obtain ⟨h1, h2, h3⟩ := bookE_zero.1 hb
  refine bookE_zero.2 ⟨?_, ?_, put_rise h3 hx⟩
  · rw [put_length h3]
    rcases putE_zero.1 hp with h | h
    · rw [h]; exact h1
    · split <;> omega
  · intro y hy
    rcases (put_mem h3 hx y).1 hy with rfl | ⟨h, _⟩
    · exact hl
    · exact h2 y h
theorem leafAt_ok {l : List Leaf} {p : ByteArray} (hb : bookE l = 0) : (leafAt l p).2.1 = 0 ∨ isL (leafAt l p).2.1 = true := by
  obtain ⟨h1, h2, h3⟩ := bookE_zero.1 hb
  cases h : has l p.toList
  · unfold leafAt; rw [h]; exact Or.inl rfl
  · exact (leafE_zero.1 (h2 _ (leafAt_has h3 h).1)).2.1
theorem write_book {l : List Leaf} {p : ByteArray} {c : Int} (h : writeE l p c = 0) : bookE (writeL l p c) = 0 ∧ writeL l p c = putL l p (wrX l p c) := by
  have h0 := h
  obtain ⟨h1, h2⟩ := writeE_zero.1 h
  obtain ⟨h3, h4⟩ := withE_zero.1 h1
  obtain ⟨h5, h6, h7⟩ := wrE_zero.1 h2
  have e : writeL l p c = putL l p (wrX l p c) := by unfold writeL; rw [if_pos h0]
  rw [e]
  exact ⟨put_book h3 rfl (leafE_zero.2 ⟨h4, Or.inr h5, Or.inl (isL_ne h5).1⟩) h7, rfl⟩
theorem strike_book {l : List Leaf} {p : ByteArray} (h : strikeE l p = 0) : bookE (strikeL l p) = 0 ∧ strikeL l p = putL l p (stX l p) := by
  have h0 := h
  obtain ⟨h1, h2⟩ := strikeE_zero.1 h
  obtain ⟨h3, h4⟩ := withE_zero.1 h1
  have e : strikeL l p = putL l p (stX l p) := by unfold strikeL; rw [if_pos h0]
  rw [e]
  exact ⟨put_book h3 rfl (leafE_zero.2 ⟨h4, leafAt_ok h3, Or.inr rfl⟩) h2, rfl⟩

/- written here and struck there, either way round -/
theorem either_ws {l : List Leaf} {p q : ByteArray} {c : Int} (h1 : writeE l p c = 0) (h2 : strikeE (writeL l p c) q = 0) (h3 : strikeE l q = 0) (h4 : writeE (strikeL l q) p c = 0) : strikeL (writeL l p c) q = writeL (strikeL l q) p c := by
  have hr : Rise l := (bookE_zero.1 (withE_zero.1 (writeE_zero.1 h1).1).1).2.2
  rw [(strike_book h2).2, (write_book h4).2, (write_book h1).2, (strike_book h3).2]
  have kx : (wrX l p c).1 = p := rfl
  have ky : (stX l q).1 = q := rfl
  have e1 : stX (putL l p (wrX l p c)) q = (q, (if q = p then wrX l p c else leafAt l q).2.1, true) := by show (q, (leafAt (putL l p (wrX l p c)) q).2.1, true) = _; rw [leafAt_put hr kx]
  have e2 : wrX (putL l q (stX l q)) p c = (p, c, (if p = q then stX l q else leafAt l p).2.2) := by show (p, c, (leafAt (putL l q (stX l q)) p).2.2) = _; rw [leafAt_put hr ky]
  rw [e1, e2]
  by_cases h : p = q
  · subst h
    rw [if_pos rfl, if_pos rfl, put_again hr kx (y := (p, (wrX l p c).2.1, true)) rfl, put_again hr ky (y := (p, c, (stX l p).2.2)) rfl]
    rfl
  · rw [if_neg (fun e => h e.symm), if_neg h, put_swap hr kx (y := (q, (leafAt l q).2.1, true)) rfl h]
    rfl
/- written here and there, either way round -/
theorem either_ww {l : List Leaf} {p q : ByteArray} {c o : Int} (h1 : writeE l p c = 0) (h2 : writeE (writeL l p c) q o = 0) (h3 : writeE l q o = 0) (h4 : writeE (writeL l q o) p c = 0) : writeL (writeL l p c) q o = writeL (writeL l q o) p c := by
  have hr : Rise l := (bookE_zero.1 (withE_zero.1 (writeE_zero.1 h1).1).1).2.2
  have hc := (wrE_zero.1 (writeE_zero.1 h2).2).2.1
  have hl := (wrE_zero.1 (writeE_zero.1 h1).2).1
  rw [(write_book h1).2] at hc
  rw [(write_book h2).2, (write_book h4).2, (write_book h1).2, (write_book h3).2]
  have kx : (wrX l p c).1 = p := rfl
  have ky : (wrX l q o).1 = q := rfl
  have e1 : wrX (putL l p (wrX l p c)) q o = (q, o, (if q = p then wrX l p c else leafAt l q).2.2) := by show (q, o, (leafAt (putL l p (wrX l p c)) q).2.2) = _; rw [leafAt_put hr kx]
  have e2 : wrX (putL l q (wrX l q o)) p c = (p, c, (if p = q then wrX l q o else leafAt l p).2.2) := by show (p, c, (leafAt (putL l q (wrX l q o)) p).2.2) = _; rw [leafAt_put hr ky]
  rw [e1, e2]
  by_cases h : p = q
  · subst h
    rw [leafAt_put hr kx, if_pos rfl] at hc
    have hco : c = o := by
      unfold clash wrX at hc
      rw [Bool.and_eq_false_iff] at hc
      rcases hc with hc | hc
      · have := (isL_ne hl).1; simp at hc; exact absurd hc this
      · simpa using hc
    rw [if_pos rfl, if_pos rfl, put_again hr kx (y := (p, o, (wrX l p c).2.2)) rfl, put_again hr ky (y := (p, c, (wrX l p o).2.2)) rfl, hco]
  · rw [if_neg (fun e => h e.symm), if_neg h, put_swap hr kx (y := (q, o, (leafAt l q).2.2)) rfl h]
    rfl

/- what is isS -/
theorem text_append (a b : List Leaf) : text (a ++ b) = text a ++ text b := by unfold text; rw [List.filter_append, List.map_append]
theorem text_cons (x : Leaf) (l : List Leaf) : text (x :: l) = if isS x then letter x :: text l else text l := by
  unfold text; rw [List.filter_cons]; split <;> rfl
theorem text_len_le : ∀ l : List Leaf, (text l).length ≤ l.length := by
  intro l; unfold text; rw [List.length_map]; exact List.length_filter_le _ _
theorem nth_at {x : Leaf} {B : List Leaf} (hs : isS x = true) : ∀ (A : List Leaf) (i : Nat), nth (A ++ x :: B) i ((text A).length : Int) = ((i + A.length : Nat) : Int)
  | [], i => by simp [nth, hs, text]
  | y :: A, i => by
    rw [List.cons_append, nth, text_cons]
    cases h : isS y
    · simp only [Bool.false_eq_true, if_false]
      rw [nth_at hs A (i + 1)]; simp; omega
    · simp only [if_true, List.length_cons]
      rw [if_neg (by omega), show (((text A).length + 1 : Nat) : Int) - 1 = ((text A).length : Int) by omega, nth_at hs A (i + 1)]
      simp; omega
theorem take_put {l : List Leaf} (hr : Rise l) {p : ByteArray} {x : Leaf} (hx : x.1 = p) : ahd (putL l p x) p.toList = ahd l p.toList ∧ has (putL l p x) p.toList = true ∧ (putL l p x).getD (ahd l p.toList) none0 = x ∧ (putL l p x).take (ahd l p.toList) = l.take (ahd l p.toList) := by
  have hle := ahead_le (p := p.toList) hr
  have hr2 := put_rise hr hx
  have e3 : (putL l p x).getD (ahd l p.toList) none0 = x := by
    unfold putL
    rw [List.getD_eq_getElem?_getD, List.getElem?_append_right (by rw [List.length_take]; omega), List.length_take, Nat.min_eq_left hle, Nat.sub_self]
    rfl
  have e4 : (putL l p x).take (ahd l p.toList) = l.take (ahd l p.toList) := by
    unfold putL
    rw [List.take_append_of_le_length (by rw [List.length_take]; omega), List.take_take, Nat.min_self]
  have hlen := put_length hr p x
  have hlt : ahd l p.toList < (putL l p x).length := by
    rw [hlen]
    cases hh : has l p.toList
    · simp; omega
    · unfold has at hh; rw [Bool.and_eq_true, decide_eq_true_eq] at hh; simp; exact hh.1
  have e1 : ahd (putL l p x) p.toList = ahd l p.toList := by
    refine ahead_eq hr2 (by omega) (fun j hj => ?_) (fun j hj hj2 => ?_)
    · have h1 : (putL l p x).getD j none0 ∈ l.take (ahd l p.toList) := by
        rw [← e4, List.mem_take_iff_getElem]
        exact ⟨j, by omega, by rw [List.getD_eq_getElem?_getD, List.getElem?_eq_getElem (show j < (putL l p x).length by omega)]; rfl⟩
      exact (take_less hr h1).2
    · rcases Nat.lt_or_eq_of_le hj with h | h
      · have := rise_lt hr2 h hj2
        rw [e3, hx] at this
        exact less_asymm this
      · rw [← h, e3, hx, less_irrefl]
  refine ⟨e1, ?_, e3, e4⟩
  exact (has_iff hr2).2 ⟨x, (put_mem hr hx x).2 (Or.inl rfl), by rw [hx]⟩
/- the leaf that was written is where it is sought, and isS there -/
theorem split_at {l : List Leaf} {i : Nat} (hi : i < l.length) : l = l.take i ++ l.getD i none0 :: l.drop (i + 1) := by
  conv => lhs; rw [← List.take_append_drop i l]
  congr 1
  rw [List.drop_eq_getElem_cons hi, List.getD_eq_getElem?_getD, List.getElem?_eq_getElem hi]; rfl
theorem seen_at {l : List Leaf} {i : Nat} (hi : i < l.length) (hs : isS (l.getD i none0) = true) :
    nth l 0 ((text (l.take i)).length : Int) = (i : Int) ∧ (text l)[(text (l.take i)).length]? = some (letter (l.getD i none0)) := by
  have e := split_at hi
  have hl : (l.take i).length = i := by rw [List.length_take]; omega
  constructor
  · have h := nth_at (x := l.getD i none0) (B := l.drop (i + 1)) hs (l.take i) 0
    rw [← e, hl, Nat.zero_add] at h
    exact h
  · have h : text l = text (l.take i) ++ letter (l.getD i none0) :: text (l.drop (i + 1)) := by
      conv => lhs; rw [e]
      rw [text_append, text_cons, hs, if_pos rfl]
    rw [h, List.getElem?_append_right (Nat.le_refl _), Nat.sub_self]; rfl
theorem letter_nat {x : Leaf} (h : isL x.2.1 = true) : ((letter x).toNat : Int) = x.2.1 := by
  have := isL_ne h
  unfold letter
  rw [UInt8.toNat_ofNat']
  omega
theorem written {l : List Leaf} {p : ByteArray} {c : Int} (h : writeE l p c = 0) :
    has (writeL l p c) p.toList = true ∧ ahd (writeL l p c) p.toList < (writeL l p c).length ∧ (writeL l p c).getD (ahd (writeL l p c) p.toList) none0 = wrX l p c := by
  have hr : Rise l := (bookE_zero.1 (withE_zero.1 (writeE_zero.1 h).1).1).2.2
  rw [(write_book h).2]
  obtain ⟨h1, h2, h3, h4⟩ := take_put (p := p) (x := wrX l p c) hr rfl
  refine ⟨h2, ?_, by rw [h1]; exact h3⟩
  unfold has at h2; rw [Bool.and_eq_true, decide_eq_true_eq] at h2; exact h2.1

end Bm
end Go.Proofs.YtcmoajlcmeimiacDoor
