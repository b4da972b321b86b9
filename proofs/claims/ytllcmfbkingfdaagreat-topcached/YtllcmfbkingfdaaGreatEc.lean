/- Ends of a line: plain mathematics (what is sent, said, heard). No program is named here. -/
import Derived.Test.YtllcmfbkingfdaaGreatJ1
namespace Go.Proofs.YtllcmfbkingfdaaGreat
namespace Ec
set_option linter.unusedVariables false

/- Ack, Seq, Data -/
abbrev Fr := Bool × Int × ByteArray
structure Ln where
  win : Nat
  wait : Nat
  all : List ByteArray
  acked : Nat
  said : Nat
  ticks : Nat
  got : List ByteArray
  owes : Bool
def e0 : ByteArray := ⟨#[]⟩
def newE (win wait : Int) : Int := if win < 1 ∨ 16 < win ∨ wait < 1 ∨ 20 < wait then 1 else 0
def new (win wait : Nat) : Ln := ⟨win, wait, [], 0, 0, 0, [], false⟩
def left (s : Ln) : Nat := s.all.length - s.acked
def sendE (s : Ln) (d : ByteArray) : Int := if 200 < d.size ∨ 100 ≤ left s then 4 else 0
def sendS (s : Ln) (d : ByteArray) : Ln := if sendE s d ≠ 0 then s else { s with all := s.all ++ [d] }
/- the last one of the window -/
def last (s : Ln) : Nat := min (s.acked + s.win) s.all.length
def late (s : Ln) : Bool := decide (s.wait ≤ s.ticks)
def frame (all : List ByteArray) (n : Nat) : Fr := (false, (n : Int), all.getD (n - 1) e0)
def saysN (s : Ln) : List Nat := (List.range' (s.acked + 1) (last s - s.acked)).filter fun n => decide (s.said < n) || late s
def outF (s : Ln) : List Fr := (if s.owes then [(true, (s.got.length : Int), e0)] else []) ++ (saysN s).map (frame s.all)
def outS (s : Ln) : Ln := { s with owes := false, said := max s.said (last s), ticks := if saysN s = [] then s.ticks else 0 }
def tick (s : Ln) : Ln := { s with ticks := s.ticks + 1 }
def hearE (s : Ln) (f : Fr) : Int :=
  if f.1 then (if f.2.1 < 0 ∨ (s.said : Int) < f.2.1 then 1 else if f.2.2.size ≠ 0 then 3 else 0)
  else if f.2.1 < 1 then 1 else if 200 < f.2.2.size then 4 else 0
def hearS (s : Ln) (f : Fr) : Ln :=
  if hearE s f ≠ 0 then s
  else if f.1 then { s with acked := max s.acked f.2.1.toNat }
  else { s with got := if f.2.1 = (s.got.length : Int) + 1 then s.got ++ [f.2.2] else s.got, owes := true }
/- what stays right of every end -/
structure Inv (s : Ln) : Prop where
  w1 : 1 ≤ s.win
  w2 : s.win ≤ 16
  x1 : 1 ≤ s.wait
  x2 : s.wait ≤ 20
  ak : s.acked ≤ s.said
  sd : s.said ≤ s.all.length
  sw : s.said ≤ s.acked + s.win
theorem inv_new {win wait : Nat} (h : newE win wait = 0) : Inv (new win wait) := by
  unfold newE at h
  by_cases h9 : (win : Int) < 1 ∨ 16 < (win : Int) ∨ (wait : Int) < 1 ∨ 20 < (wait : Int)
  · rw [if_pos h9] at h; cases h
  · exact ⟨by show 1 ≤ win; omega, by show win ≤ 16; omega, by show 1 ≤ wait; omega, by show wait ≤ 20; omega, Nat.le_refl _, Nat.le_refl _, Nat.zero_le _⟩
theorem inv_send {s : Ln} {d : ByteArray} (h : Inv s) : Inv (sendS s d) := by
  unfold sendS
  split
  · exact h
  · exact ⟨h.w1, h.w2, h.x1, h.x2, h.ak, by show s.said ≤ (s.all ++ [d]).length; rw [List.length_append]; have := h.sd; omega, h.sw⟩
theorem inv_out {s : Ln} (h : Inv s) : Inv (outS s) := by
  have h1 := h.ak
  have h2 := h.sd
  have h3 := h.sw
  refine ⟨h.w1, h.w2, h.x1, h.x2, ?_, ?_, ?_⟩
  · show s.acked ≤ max s.said (last s); omega
  · show max s.said (last s) ≤ s.all.length; unfold last; omega
  · show max s.said (last s) ≤ s.acked + s.win; unfold last; omega
theorem inv_tick {s : Ln} (h : Inv s) : Inv (tick s) := ⟨h.w1, h.w2, h.x1, h.x2, h.ak, h.sd, h.sw⟩
theorem inv_hear {s : Ln} {f : Fr} (h : Inv s) : Inv (hearS s f) := by
  unfold hearS
  by_cases he : hearE s f = 0
  · rw [if_neg (by simpa using he)]
    cases hf : f.1 with
    | true =>
      rw [if_pos rfl]
      unfold hearE at he
      rw [hf, if_pos rfl] at he
      by_cases h9 : f.2.1 < 0 ∨ (s.said : Int) < f.2.1
      · rw [if_pos h9] at he; cases he
      · have h1 := h.ak
        have h3 := h.sw
        refine ⟨h.w1, h.w2, h.x1, h.x2, ?_, h.sd, ?_⟩
        · show max s.acked f.2.1.toNat ≤ s.said; omega
        · show s.said ≤ max s.acked f.2.1.toNat + s.win; omega
    | false => exact ⟨h.w1, h.w2, h.x1, h.x2, h.ak, h.sd, h.sw⟩
  · rw [if_pos he]; exact h

/- data frames one behind the other -/
def frames (all : List ByteArray) (m k : Nat) : List Fr := (List.range' (m + 1) k).map (frame all)
theorem frames_cons (all : List ByteArray) (m k : Nat) : frames all m (k + 1) = frame all (m + 1) :: frames all (m + 1) k := by
  unfold frames; rw [List.range'_succ]; rfl
theorem take_snoc {l : List ByteArray} {k : Nat} (h : k < l.length) : l.take k ++ [l.getD k e0] = l.take (k + 1) := by
  rw [List.take_add_one, List.getD_eq_getElem?_getD, List.getElem?_eq_getElem h]; rfl
/- an end that hears them: what it got is more by just those that are next -/
theorem hear_run (sent : List ByteArray) (hsz : ∀ d ∈ sent, d.size ≤ 200) : ∀ (k m : Nat) (b : Ln), m + k ≤ sent.length → b.got.length ≤ sent.length → b.got = sent.take b.got.length →
    (frames sent m k).foldl hearS b = { b with got := if m ≤ b.got.length then sent.take (max b.got.length (m + k)) else b.got, owes := b.owes || decide (0 < k) }
  | 0, m, b, hmk, hg, hb => by
    have e : (if m ≤ b.got.length then sent.take (max b.got.length (m + 0)) else b.got) = b.got := by
      split
      · rw [show max b.got.length (m + 0) = b.got.length by omega]; exact hb.symm
      · rfl
    rw [e]
    unfold frames
    simp
  | k + 1, m, b, hmk, hg, hb => by
    rw [frames_cons, List.foldl_cons]
    have hml : m < sent.length := by omega
    have he : hearE b (frame sent (m + 1)) = 0 := by
      have hd : (sent.getD m e0).size ≤ 200 := by
        rw [List.getD_eq_getElem?_getD, List.getElem?_eq_getElem hml]; exact hsz _ (List.getElem_mem hml)
      show (if false = true then _ else if ((m + 1 : Nat) : Int) < 1 then 1 else if 200 < (sent.getD (m + 1 - 1) e0).size then 4 else 0) = 0
      rw [if_neg (by decide), if_neg (by omega), show m + 1 - 1 = m by omega, if_neg (by omega)]
    have hh : hearS b (frame sent (m + 1)) = { b with got := if m = b.got.length then sent.take (m + 1) else b.got, owes := true } := by
      unfold hearS
      rw [if_neg (by simpa using he)]
      show (if false = true then _ else ({ b with got := if ((m + 1 : Nat) : Int) = (b.got.length : Int) + 1 then b.got ++ [sent.getD (m + 1 - 1) e0] else b.got, owes := true } : Ln)) = _
      rw [if_neg (by decide)]
      by_cases hm : m = b.got.length
      · rw [if_pos hm, if_pos (by omega), show m + 1 - 1 = m by omega]
        have h9 := take_snoc hml
        have h8 : b.got = sent.take m := by rw [hm]; exact hb
        rw [← h8] at h9
        rw [h9]
      · rw [if_neg hm, if_neg (by omega)]
    rw [hh]
    by_cases hm : m = b.got.length
    · have hl : (sent.take (m + 1)).length = m + 1 := by rw [List.length_take]; omega
      rw [if_pos hm]
      have ih := hear_run sent hsz k (m + 1) { b with got := sent.take (m + 1), owes := true } (by omega) (by show (sent.take (m + 1)).length ≤ _; omega) (by show sent.take (m + 1) = sent.take (sent.take (m + 1)).length; rw [hl])
      rw [ih]
      simp only [hl, Nat.le_refl, if_true]
      rw [if_pos (by omega), show max (m + 1) (m + 1 + k) = max b.got.length (m + (k + 1)) by omega]
      simp
    · rw [if_neg hm]
      have ih := hear_run sent hsz k (m + 1) { b with got := b.got, owes := true } (by omega) hg hb
      rw [ih]
      simp only
      by_cases h1 : m ≤ b.got.length
      · rw [if_pos h1, if_pos (by omega), show max b.got.length (m + 1 + k) = max b.got.length (m + (k + 1)) by omega]
        simp
      · rw [if_neg h1, if_neg (by omega)]
        simp

/- which ones are said: all of the window where it is late, else those that were not said yet -/
theorem filter_range {said : Nat} : ∀ (k m : Nat), (List.range' (m + 1) k).filter (fun n => decide (said < n)) = List.range' (max m said + 1) (m + k - max m said)
  | 0, m => by rw [show m + 0 - max m said = 0 by omega]; rfl
  | k + 1, m => by
    rw [List.range'_succ, List.filter_cons]
    by_cases h : said < m + 1
    · rw [decide_eq_true h, if_pos rfl, filter_range k (m + 1), show max (m + 1) said = m + 1 by omega, show max m said = m by omega, show m + (k + 1) - m = (m + 1 + k - (m + 1)) + 1 by omega, List.range'_succ]
    · rw [decide_eq_false h, if_neg (by decide), filter_range k (m + 1), show max (m + 1) said = max m said by omega, show m + 1 + k - max m said = m + (k + 1) - max m said by omega]
theorem says_late {s : Ln} (h : late s = true) : saysN s = List.range' (s.acked + 1) (last s - s.acked) := by
  unfold saysN
  rw [List.filter_eq_self.2 (fun n _ => by rw [h]; simp)]
theorem says_new {s : Ln} (I : Inv s) (h : late s = false) : saysN s = List.range' (s.said + 1) (last s - s.said) := by
  unfold saysN
  rw [h]
  simp only [Bool.or_false]
  rw [filter_range]
  have h1 := I.ak
  have h2 := I.sd
  have h3 := I.sw
  have h4 : s.said ≤ last s := by unfold last; omega
  rw [show max s.acked s.said = s.said by omega, show s.acked + (last s - s.acked) - s.said = last s - s.said by omega]
theorem last_said {s : Ln} (I : Inv s) : s.said ≤ last s := by
  have h2 := I.sd
  have h3 := I.sw
  unfold last; omega

end Ec
end Go.Proofs.YtllcmfbkingfdaaGreat
