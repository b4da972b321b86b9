/- The plain mathematics of ops: what is wrong with one, its bytes, bytes that are one. No program is named here. -/
import Derived.Test.YtcmoajlcmeimiaaDoorCn
namespace Go.Proofs.YtcmoajlcmeimiaaDoor
namespace Om
set_option linter.unusedVariables false
open Cm

/- an op: its dot, what it does, its place, its letter, what it saw -/
abbrev Ox := Dt × Int × ByteArray × Int × List Dt
def oz : Ox := ((0, 0), 0, ByteArray.empty, 0, [])
def isLetter (n : Int) : Bool := decide (32 ≤ n) && decide (n ≤ 126)
def lawOf (o : Ox) : Int :=
  if o.2.1 = 1 ∧ isLetter o.2.2.2.1 = false then 1
  else if (o.2.1 ≠ 1 ∧ o.2.2.2.1 ≠ 0) ∨ (o.2.1 ≠ 4 ∧ o.2.2.2.2 ≠ []) then 3
  else if 40 < o.2.2.2.2.length then 4 else dotsE o.2.2.2.2
def opE (o : Ox) : Int :=
  if dotE o.1.1 o.1.2 ≠ 0 then dotE o.1.1 o.1.2
  else if o.2.1 < 1 ∨ 4 < o.2.1 then 1
  else if Pm.chk o.2.2.1.toList ≠ 0 then Pm.chk o.2.2.1.toList
  else lawOf o
theorem dotE_iff {a b : Int} : dotE a b = 0 ↔ 1 ≤ a ∧ a ≤ 8 ∧ 1 ≤ b ∧ b ≤ 9999 := by
  unfold dotE
  constructor
  · intro h
    split at h
    · exact absurd h (by decide)
    · omega
  · intro h; rw [if_neg (by omega)]
theorem isLetter_iff {n : Int} : isLetter n = true ↔ 32 ≤ n ∧ n ≤ 126 := by unfold isLetter; simp
theorem lawOf_zero {o : Ox} : lawOf o = 0 ↔ (o.2.1 = 1 → 32 ≤ o.2.2.2.1 ∧ o.2.2.2.1 ≤ 126) ∧ (o.2.1 ≠ 1 → o.2.2.2.1 = 0) ∧ (o.2.1 ≠ 4 → o.2.2.2.2 = []) ∧ o.2.2.2.2.length ≤ 40 ∧ dotsE o.2.2.2.2 = 0 := by
  obtain ⟨⟨a, b⟩, t, p, c, s⟩ := o
  unfold lawOf
  simp only
  by_cases h1 : t = 1 ∧ isLetter c = false
  · rw [if_pos h1]
    constructor
    · intro h; exact absurd h (by decide)
    · rintro ⟨g, _⟩
      have := isLetter_iff.2 (g h1.1)
      rw [h1.2] at this; cases this
  · rw [if_neg h1]
    have k1 : t = 1 → 32 ≤ c ∧ c ≤ 126 := by
      intro h
      cases h2 : isLetter c
      · exact absurd ⟨h, h2⟩ h1
      · exact isLetter_iff.1 h2
    by_cases h2 : (t ≠ 1 ∧ c ≠ 0) ∨ (t ≠ 4 ∧ s ≠ [])
    · rw [if_pos h2]
      constructor
      · intro h; exact absurd h (by decide)
      · rintro ⟨_, g1, g2, _⟩
        rcases h2 with ⟨e1, e2⟩ | ⟨e1, e2⟩
        · exact absurd (g1 e1) e2
        · exact absurd (g2 e1) e2
    · rw [if_neg h2]
      have k2 : t ≠ 1 → c = 0 := fun h => Decidable.byContradiction fun e => h2 (Or.inl ⟨h, e⟩)
      have k3 : t ≠ 4 → s = [] := fun h => Decidable.byContradiction fun e => h2 (Or.inr ⟨h, e⟩)
      by_cases h3 : 40 < s.length
      · rw [if_pos h3]
        constructor
        · intro h; exact absurd h (by decide)
        · rintro ⟨_, _, _, g, _⟩; omega
      · rw [if_neg h3]
        exact ⟨fun h => ⟨k1, k2, k3, by omega, h⟩, fun h => h.2.2.2.2⟩
theorem opE_zero {o : Ox} : opE o = 0 ↔ dotE o.1.1 o.1.2 = 0 ∧ (1 ≤ o.2.1 ∧ o.2.1 ≤ 4) ∧ Pm.chk o.2.2.1.toList = 0 ∧ lawOf o = 0 := by
  unfold opE
  by_cases h1 : dotE o.1.1 o.1.2 = 0
  · rw [if_neg (by simpa using h1)]
    by_cases h2 : o.2.1 < 1 ∨ 4 < o.2.1
    · rw [if_pos h2]
      constructor
      · intro h; exact absurd h (by decide)
      · rintro ⟨_, g, _⟩; omega
    · rw [if_neg h2]
      by_cases h3 : Pm.chk o.2.2.1.toList = 0
      · rw [if_neg (by simpa using h3)]
        exact ⟨fun h => ⟨h1, by omega, h3, h⟩, fun h => h.2.2.2⟩
      · rw [if_pos h3]
        exact ⟨fun h => absurd h h3, fun h => absurd h.2.2.1 h3⟩
  · rw [if_pos h1]
    exact ⟨fun h => absurd h h1, fun h => absurd h.1 h1⟩

/- a number as a byte, as two -/
def u8 (n : Int) : UInt8 := UInt8.ofNat n.toNat
def b2 (n : Int) : List UInt8 := [u8 (n / 256), u8 (n % 256)]
theorem u8_val {n : Int} (h0 : 0 ≤ n) (h1 : n ≤ 255) : ((u8 n).toNat : Int) = n := by
  unfold u8
  rw [UInt8.toNat_ofNat']
  omega
theorem u8_back (c : UInt8) : u8 (c.toNat : Int) = c := by
  unfold u8
  rw [Int.toNat_natCast]
  exact UInt8.ofNat_toNat
theorem b2_len (n : Int) : (b2 n).length = 2 := rfl
theorem b2_val {n : Int} (h0 : 0 ≤ n) (h1 : n ≤ 65535) : ((u8 (n / 256)).toNat : Int) * 256 + ((u8 (n % 256)).toNat : Int) = n := by
  rw [u8_val (by omega) (by omega), u8_val (by omega) (by omega)]
  omega
theorem b2_back (a b : UInt8) : b2 ((a.toNat : Int) * 256 + (b.toNat : Int)) = [a, b] := by
  have ha : a.toNat < 256 := UInt8.toNat_lt a
  have hb : b.toNat < 256 := UInt8.toNat_lt b
  unfold b2
  rw [show ((a.toNat : Int) * 256 + (b.toNat : Int)) / 256 = (a.toNat : Int) by omega, show ((a.toNat : Int) * 256 + (b.toNat : Int)) % 256 = (b.toNat : Int) by omega, u8_back, u8_back]
def seenB (s : List Dt) : List UInt8 := s.flatMap fun d => u8 d.1 :: b2 d.2
theorem seenB_cons (d : Dt) (s : List Dt) : seenB (d :: s) = u8 d.1 :: u8 (d.2 / 256) :: u8 (d.2 % 256) :: seenB s := rfl
theorem seenB_append (a b : List Dt) : seenB (a ++ b) = seenB a ++ seenB b := by unfold seenB; rw [List.flatMap_append]
theorem seenB_len : ∀ s : List Dt, (seenB s).length = 3 * s.length
  | [] => rfl
  | d :: s => by rw [seenB_cons]; simp [seenB_len s]; omega
def tailB (o : Ox) : List UInt8 := (if o.2.1 = 1 then [u8 o.2.2.2.1] else []) ++ (if o.2.1 = 4 then u8 o.2.2.2.2.length :: seenB o.2.2.2.2 else [])
def frontB (o : Ox) : List UInt8 := u8 o.2.1 :: u8 o.1.1 :: u8 (o.1.2 / 256) :: u8 (o.1.2 % 256) :: u8 o.2.2.1.size :: (o.2.2.1.toList ++ tailB o)
def sumB (l : List UInt8) : Int := l.foldl (fun a c => a + (c.toNat : Int)) 0
def bytesB (o : Ox) : List UInt8 := frontB o ++ [u8 (sumB (frontB o) % 253)]
def bytesS (o : Ox) : ByteArray := ⟨(bytesB o).toArray⟩
theorem toList_mk (l : List UInt8) : (⟨l.toArray⟩ : ByteArray).toList = l := by rw [ByteArray.toList_eq]
theorem mk_toList (s : ByteArray) : (⟨s.toList.toArray⟩ : ByteArray) = s := by rw [ByteArray.toList_eq]
theorem bytesS_list (o : Ox) : (bytesS o).toList = bytesB o := toList_mk _
theorem len_eq (s : ByteArray) : s.toList.length = s.size := by rw [ByteArray.toList_eq]; rfl
theorem sumB_nonneg (l : List UInt8) : 0 ≤ sumB l := by
  have key : ∀ (l : List UInt8) (a : Int), 0 ≤ a → 0 ≤ l.foldl (fun a c => a + (c.toNat : Int)) a := by
    intro l
    induction l with
    | nil => intro a h; exact h
    | cons c l ih => intro a h; exact ih _ (show 0 ≤ a + (c.toNat : Int) by omega)
  exact key l 0 (by decide)
theorem sumB_snoc (l : List UInt8) (c : UInt8) : sumB (l ++ [c]) = sumB l + (c.toNat : Int) := by unfold sumB; rw [List.foldl_append]; rfl
theorem tailB_len (o : Ox) : (tailB o).length = (if o.2.1 = 1 then 1 else 0) + (if o.2.1 = 4 then 1 + 3 * o.2.2.2.2.length else 0) := by
  unfold tailB
  rw [List.length_append]
  congr 1
  · split <;> rfl
  · split
    · rw [List.length_cons, seenB_len]; omega
    · rfl
theorem frontB_len (o : Ox) : (frontB o).length = 5 + o.2.2.1.size + (tailB o).length := by
  unfold frontB
  simp only [List.length_cons, List.length_append, len_eq]
  omega
theorem bytesB_len (o : Ox) : (bytesB o).length = 6 + o.2.2.1.size + (if o.2.1 = 1 then 1 else 0) + (if o.2.1 = 4 then 1 + 3 * o.2.2.2.2.length else 0) := by
  unfold bytesB
  rw [List.length_append, frontB_len, tailB_len]
  simp only [List.length_cons, List.length_nil]
  omega

/- what stands in bytes, if they are an op -/
def threes : Nat → List UInt8 → List Dt
  | k + 1, a :: b :: c :: r => ((a.toNat : Int), (b.toNat : Int) * 256 + (c.toNat : Int)) :: threes k r
  | _, _ => []
def letterIn (t : Int) (r : List UInt8) : Int := if t = 1 then ((r.headD 0).toNat : Int) else 0
def seenIn (t : Int) (r : List UInt8) : List Dt := if t = 4 then threes (r.headD 0).toNat r.tail else []
def readB (s : List UInt8) : Ox :=
  (((s.getD 1 0).toNat, ((s.getD 2 0).toNat : Int) * 256 + ((s.getD 3 0).toNat : Int)), ((s.getD 0 0).toNat : Int), ⟨((s.drop 5).take (s.getD 4 0).toNat).toArray⟩,
    letterIn ((s.getD 0 0).toNat : Int) (s.drop (5 + (s.getD 4 0).toNat)), seenIn ((s.getD 0 0).toNat : Int) (s.drop (5 + (s.getD 4 0).toNat)))
theorem threes_back : ∀ (s : List Dt) (r : List UInt8), (∀ d ∈ s, dotE d.1 d.2 = 0) → threes s.length (seenB s ++ r) = s
  | [], r, _ => by cases r <;> rfl
  | d :: s, r, h => by
    have h1 := dotE_iff.1 (h d (List.mem_cons_self ..))
    rw [seenB_cons]
    show (((u8 d.1).toNat : Int), ((u8 (d.2 / 256)).toNat : Int) * 256 + ((u8 (d.2 % 256)).toNat : Int)) :: threes s.length (seenB s ++ r) = d :: s
    rw [b2_val (by omega) (by omega), threes_back s r (fun x hx => h x (List.mem_cons_of_mem _ hx))]
    have e : ((u8 d.1).toNat : Int) = d.1 := u8_val (by omega) (by omega)
    rw [e]
theorem read_bytes {o : Ox} (h : opE o = 0) : readB (bytesB o) = o ∧ 5 + o.2.2.1.size ≤ (bytesB o).length ∧ (bytesB o).getD 4 0 = u8 o.2.2.1.size := by
  obtain ⟨h1, h2, h3, h4⟩ := opE_zero.1 h
  obtain ⟨g1, g2, g3, g4, g5⟩ := lawOf_zero.1 h4
  obtain ⟨⟨a, b⟩, t, p, c, s⟩ := o
  simp only at h1 h2 h3 g1 g2 g3 g4 g5
  have hd := dotE_iff.1 h1
  have hp := Bm.chk_pos h3
  have hl := len_eq p
  have e4 : (u8 (p.size : Int)).toNat = p.size := by
    have := u8_val (n := (p.size : Int)) (by omega) (by omega)
    omega
  have eq : bytesB ((a, b), t, p, c, s) = u8 t :: u8 a :: u8 (b / 256) :: u8 (b % 256) :: u8 p.size :: (p.toList ++ (tailB ((a, b), t, p, c, s) ++ [u8 (sumB (frontB ((a, b), t, p, c, s)) % 253)])) := by
    unfold bytesB
    show (frontB ((a, b), t, p, c, s)) ++ _ = _
    unfold frontB
    simp only [List.cons_append, List.append_assoc]
  obtain ⟨z, hz⟩ : ∃ z, z = u8 (sumB (frontB ((a, b), t, p, c, s)) % 253) := ⟨_, rfl⟩
  rw [← hz] at eq
  have et : ((u8 t).toNat : Int) = t := u8_val (by omega) (by omega)
  refine ⟨?_, ?_, ?_⟩
  · rw [eq]
    have d1 : (u8 t :: u8 a :: u8 (b / 256) :: u8 (b % 256) :: u8 (p.size : Int) :: (p.toList ++ (tailB ((a, b), t, p, c, s) ++ [z]))).drop (5 + p.size) = tailB ((a, b), t, p, c, s) ++ [z] := by
      rw [Nat.add_comm 5 p.size]
      show (p.toList ++ (tailB ((a, b), t, p, c, s) ++ [z])).drop p.size = _
      rw [← hl, List.drop_left]
    unfold readB
    simp only [List.getD_cons_zero, List.getD_cons_succ, e4, et, d1]
    have d2 : ((u8 t :: u8 a :: u8 (b / 256) :: u8 (b % 256) :: u8 (p.size : Int) :: (p.toList ++ (tailB ((a, b), t, p, c, s) ++ [z]))).drop 5).take p.size = p.toList := by
      show (p.toList ++ (tailB ((a, b), t, p, c, s) ++ [z])).take p.size = _
      rw [← hl, List.take_left]
    rw [d2, mk_toList, b2_val (by omega) (by omega), u8_val (n := a) (by omega) (by omega)]
    have k1 : letterIn t (tailB ((a, b), t, p, c, s) ++ [z]) = c := by
      unfold letterIn tailB
      by_cases ht : t = 1
      · subst ht
        have := g1 rfl
        simp only [if_true, List.cons_append, List.headD_cons]
        exact u8_val (by omega) (by omega)
      · rw [if_neg ht, g2 ht]
    have k2 : seenIn t (tailB ((a, b), t, p, c, s) ++ [z]) = s := by
      unfold seenIn tailB
      by_cases ht : t = 4
      · subst ht
        rw [if_pos rfl]
        simp only [if_true, show ((4 : Int) = 1) = False by simp, if_false, List.nil_append, List.cons_append, List.headD_cons, List.tail_cons]
        have := u8_val (n := (s.length : Int)) (by omega) (by omega)
        rw [show (u8 (s.length : Int)).toNat = s.length by omega]
        exact threes_back s [z] (dotsE_zero.1 g5).1
      · rw [if_neg ht, g3 ht]
    rw [k1, k2]
  · rw [eq]
    simp only [List.length_cons, List.length_append, hl]
    omega
  · rw [eq]; rfl
/- bytes that are an op -/
def decB (s : List UInt8) : Option Ox :=
  if s.length < 5 ∨ s.length < 5 + (s.getD 4 0).toNat then none
  else if opE (readB s) = 0 ∧ bytesB (readB s) = s then some (readB s) else none
theorem decB_iff {s : List UInt8} {o : Ox} : decB s = some o ↔ opE o = 0 ∧ bytesB o = s := by
  unfold decB
  constructor
  · intro h
    split at h
    · cases h
    · split at h
      · injection h with h; subst h; assumption
      · cases h
  · rintro ⟨h, rfl⟩
    obtain ⟨h1, h2, h3⟩ := read_bytes h
    have hp := Bm.chk_pos (opE_zero.1 h).2.2.1
    rw [len_eq] at hp
    have e := u8_val (n := (o.2.2.1.size : Int)) (by omega) (by omega)
    rw [if_neg (by rw [h3]; omega), h1, if_pos ⟨h, rfl⟩]
theorem decB_none {s : List UInt8} : decB s = none ↔ ∀ o, opE o = 0 → bytesB o ≠ s := by
  constructor
  · intro h o h1 h2
    rw [decB_iff.2 ⟨h1, h2⟩] at h; cases h
  · intro h
    cases hd : decB s with
    | none => rfl
    | some o => exact absurd (decB_iff.1 hd).2 (h o (decB_iff.1 hd).1)
theorem bytes_inj {a b : Ox} (ha : opE a = 0) (hb : opE b = 0) (h : bytesB a = bytesB b) : a = b := by
  have h1 := decB_iff.2 ⟨ha, rfl⟩
  have h2 := decB_iff.2 ⟨hb, rfl⟩
  rw [h, h2] at h1
  injection h1 with h1; exact h1.symm
theorem bytes_le {o : Ox} (h : opE o = 0) : 6 ≤ (bytesB o).length ∧ (bytesB o).length ≤ 140 := by
  obtain ⟨_, h2, h3, h4⟩ := opE_zero.1 h
  obtain ⟨_, _, _, g4, _⟩ := lawOf_zero.1 h4
  have hp := Bm.chk_pos h3
  rw [len_eq] at hp
  rw [bytesB_len]
  constructor
  · omega
  · split <;> split <;> omega

/- many -/
def eachB (l : List Ox) : List UInt8 := l.flatMap fun o => b2 (bytesB o).length ++ bytesB o
def packB (l : List Ox) : List UInt8 := b2 l.length ++ eachB l
def firstE (l : List Ox) : Int := match l.find? (fun o => decide (opE o ≠ 0)) with
  | some o => opE o
  | none => 0
def packE (l : List Ox) : Int := if 400 < l.length then 4 else firstE l
theorem eachB_cons (o : Ox) (l : List Ox) : eachB (o :: l) = b2 (bytesB o).length ++ bytesB o ++ eachB l := rfl
theorem eachB_append (a b : List Ox) : eachB (a ++ b) = eachB a ++ eachB b := by unfold eachB; rw [List.flatMap_append]
theorem firstE_zero {l : List Ox} : firstE l = 0 ↔ ∀ o ∈ l, opE o = 0 := by
  unfold firstE
  cases h : l.find? (fun o => decide (opE o ≠ 0)) with
  | some o =>
    have h1 := List.mem_of_find?_eq_some h
    have h2 := List.find?_some h
    simp only [decide_eq_true_eq] at h2
    exact ⟨fun e => absurd e h2, fun e => absurd (e o h1) h2⟩
  | none =>
    rw [List.find?_eq_none] at h
    refine ⟨fun _ o ho => ?_, fun _ => rfl⟩
    have := h o ho
    simpa using this
theorem packE_zero {l : List Ox} : packE l = 0 ↔ l.length ≤ 400 ∧ ∀ o ∈ l, opE o = 0 := by
  unfold packE
  by_cases h : 400 < l.length
  · rw [if_pos h]
    exact ⟨fun e => absurd e (by decide), fun e => by omega⟩
  · rw [if_neg h, firstE_zero]
    exact ⟨fun e => ⟨by omega, e⟩, fun e => e.2⟩
/- so many ops, one behind the other; what is left behind them -/
def manyB : Nat → List UInt8 → Option (List Ox × List UInt8)
  | 0, s => some ([], s)
  | k + 1, s =>
    if s.length < 2 ∨ s.length < 2 + (((s.getD 0 0).toNat : Nat) * 256 + (s.getD 1 0).toNat) then none
    else match decB ((s.drop 2).take ((s.getD 0 0).toNat * 256 + (s.getD 1 0).toNat)) with
      | none => none
      | some o => match manyB k (s.drop (2 + ((s.getD 0 0).toNat * 256 + (s.getD 1 0).toNat))) with
        | none => none
        | some (l, r) => some (o :: l, r)
def unpB (s : List UInt8) : Option (List Ox) :=
  if s.length < 2 ∨ 400 < (s.getD 0 0).toNat * 256 + (s.getD 1 0).toNat then none
  else match manyB ((s.getD 0 0).toNat * 256 + (s.getD 1 0).toNat) (s.drop 2) with
    | some (l, []) => some l
    | _ => none
theorem two_val {n : Nat} (h : n ≤ 65535) : (u8 ((n : Int) / 256)).toNat * 256 + (u8 ((n : Int) % 256)).toNat = n := by
  have := b2_val (n := (n : Int)) (by omega) (by omega)
  omega
theorem two_back (s : List UInt8) (h : 2 ≤ s.length) : s = b2 (((s.getD 0 0).toNat * 256 + (s.getD 1 0).toNat : Nat) : Int) ++ s.drop 2 := by
  match s, h with
  | a :: b :: r, _ =>
    simp only [List.getD_cons_zero, List.getD_cons_succ]
    have := b2_back a b
    rw [show (((a.toNat * 256 + b.toNat : Nat) : Int)) = (a.toNat : Int) * 256 + (b.toNat : Int) by omega, this]
    rfl
theorem manyB_iff : ∀ {k : Nat} {s r : List UInt8} {l : List Ox}, manyB k s = some (l, r) ↔ l.length = k ∧ (∀ o ∈ l, opE o = 0) ∧ eachB l ++ r = s
  | 0, s, r, l => by
    unfold manyB
    constructor
    · intro h
      injection h with h
      injection h with h1 h2
      subst h1 h2
      exact ⟨rfl, by simp, rfl⟩
    · rintro ⟨h1, _, h3⟩
      have : l = [] := List.eq_nil_of_length_eq_zero h1
      subst this
      rw [← h3]; rfl
  | k + 1, s, r, l => by
    unfold manyB
    constructor
    · intro h
      split at h
      · cases h
      · rename_i h0
        split at h
        · cases h
        · rename_i o ho
          split at h
          · cases h
          · rename_i l2 r2 hm
            injection h with h
            injection h with h1 h2
            subst h1 h2
            obtain ⟨g1, g2, g3⟩ := manyB_iff.1 hm
            obtain ⟨d1, d2⟩ := decB_iff.1 ho
            refine ⟨by simp [g1], ?_, ?_⟩
            · intro x hx
              rcases List.mem_cons.1 hx with rfl | hx
              · exact d1
              · exact g2 x hx
            · have e2 := two_back s (by omega)
              obtain ⟨n, hn⟩ : ∃ n, n = (s.getD 0 0).toNat * 256 + (s.getD 1 0).toNat := ⟨_, rfl⟩
              rw [← hn] at e2 d2 g3 h0
              have hlen : (bytesB o).length = n := by rw [d2, List.length_take, List.length_drop]; omega
              rw [eachB_cons, List.append_assoc, g3, hlen, d2, List.append_assoc, ← List.drop_drop, List.take_append_drop]
              exact e2.symm
    · rintro ⟨h1, h2, h3⟩
      match l, h1 with
      | o :: l2, h1 =>
        have ho := h2 o (List.mem_cons_self ..)
        have hb := bytes_le ho
        have hs : s = u8 (((bytesB o).length : Int) / 256) :: u8 (((bytesB o).length : Int) % 256) :: (bytesB o ++ (eachB l2 ++ r)) := by
          rw [← h3, eachB_cons, List.append_assoc, List.append_assoc]; rfl
        have hv := two_val (n := (bytesB o).length) (by omega)
        have e0 : (s.getD 0 0).toNat * 256 + (s.getD 1 0).toNat = (bytesB o).length := by rw [hs]; exact hv
        rw [e0]
        have el : s.length = 2 + ((bytesB o).length + (eachB l2 ++ r).length) := by rw [hs]; simp only [List.length_cons, List.length_append]; omega
        have e1 : (s.drop 2).take (bytesB o).length = bytesB o := by rw [hs]; exact List.take_left
        have e2 : s.drop (2 + (bytesB o).length) = eachB l2 ++ r := by rw [← List.drop_drop, hs]; exact List.drop_left
        rw [if_neg (by omega), e1, decB_iff.2 ⟨ho, rfl⟩]
        have hm : manyB k (s.drop (2 + (bytesB o).length)) = some (l2, r) := manyB_iff.2 ⟨by simpa using h1, fun x hx => h2 x (List.mem_cons_of_mem _ hx), e2.symm⟩
        simp only [hm]
theorem unpB_iff {s : List UInt8} {l : List Ox} : unpB s = some l ↔ packE l = 0 ∧ packB l = s := by
  unfold unpB
  rw [packE_zero]
  constructor
  · intro h
    split at h
    · cases h
    · rename_i h0
      split at h
      · rename_i l2 hm
        injection h with h
        subst h
        obtain ⟨g1, g2, g3⟩ := manyB_iff.1 hm
        refine ⟨⟨by omega, g2⟩, ?_⟩
        rw [List.append_nil] at g3
        unfold packB
        rw [g3, g1]
        exact (two_back s (by omega)).symm
      · cases h
  · rintro ⟨⟨h1, h2⟩, h3⟩
    have hs : s = u8 ((l.length : Int) / 256) :: u8 ((l.length : Int) % 256) :: eachB l := by rw [← h3]; rfl
    have hv := two_val (n := l.length) (by omega)
    have e0 : (s.getD 0 0).toNat * 256 + (s.getD 1 0).toNat = l.length := by rw [hs]; exact hv
    rw [e0]
    have el : s.length = 2 + (eachB l).length := by rw [hs]; simp only [List.length_cons]; omega
    have hm : manyB l.length (s.drop 2) = some (l, []) := manyB_iff.2 ⟨rfl, h2, by rw [List.append_nil, hs]; rfl⟩
    rw [if_neg (by omega), hm]

end Om
end Go.Proofs.YtcmoajlcmeimiaaDoor
