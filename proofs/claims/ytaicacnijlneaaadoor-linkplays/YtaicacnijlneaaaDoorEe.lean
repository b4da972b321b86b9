/- In a row: over a line that loses nothing all comes at the first go, as far as the window is wide. Plain mathematics. -/
import Derived.Test.YtaicacnijlneaaaDoorEd
namespace Go.Proofs.YtaicacnijlneaaaDoor
namespace Ee
set_option linter.unusedVariables false
open Ec Ed

/- all that was said came, and is acknowledged -/
structure R (sent : List ByteArray) (went : Nat) (a b : Ln) : Prop where
  k : K sent a b
  ak : a.acked = went
  sd : a.said = went
  gt : b.got.length = went
  tk : a.ticks = 0
  ow : b.owes = false
def wide (sent : List ByteArray) (went : Nat) (a : Ln) : Nat := min a.win (sent.length - went)
theorem R.last {sent : List ByteArray} {went : Nat} {a b : Ln} (h : R sent went a b) : last a = went + wide sent went a := by
  have h1 := h.k.ia.sd
  unfold Ec.last wide
  rw [h.ak, h.k.all]
  rw [h.sd, h.k.all] at h1
  omega
theorem R.late {sent : List ByteArray} {went : Nat} {a b : Ln} (h : R sent went a b) : late a = false := by
  have h1 := h.k.ia.x1
  unfold Ec.late
  rw [h.tk, decide_eq_false (by omega)]
theorem R.out {sent : List ByteArray} {went : Nat} {a b : Ln} (h : R sent went a b) : outF a = frames sent went (wide sent went a) := by
  have hn := says_new h.k.ia h.late
  rw [h.sd, h.last, show went + wide sent went a - went = wide sent went a by omega] at hn
  unfold outF
  rw [h.k.ao, h.k.all, hn]; rfl
theorem R.len {sent : List ByteArray} {went : Nat} {a b : Ln} (h : R sent went a b) : (outF a).length = wide sent went a := by
  rw [h.out]; unfold frames; simp
theorem frames_at (sent : List ByteArray) (m k j : Nat) (h : j < k) : (frames sent m k)[j]? = some (frame sent (m + j + 1)) := by
  unfold frames
  rw [List.getElem?_map, List.getElem?_range' (by omega)]
  simp only [Option.map_some]
  congr 2; omega
theorem frames_take (sent : List ByteArray) (m k j : Nat) (h : j ≤ k) : (frames sent m k).take j = frames sent m j := by
  unfold frames
  rw [← List.map_take]
  congr 1
  obtain ⟨i, rfl⟩ : ∃ i, k = j + i := ⟨k - j, by omega⟩
  rw [show List.range' (m + 1) (j + i) = List.range' (m + 1) j ++ List.range' (m + 1 + 1 * j) i from (List.range'_append ..).symm, List.take_left' (by simp)]
/- b hears them one by one -/
theorem R.heard {sent : List ByteArray} {went : Nat} {a b : Ln} (h : R sent went a b) {j : Nat} (hj : went + j ≤ sent.length) : (frames sent went j).foldl hearS b = { b with got := sent.take (went + j), owes := decide (0 < j) } := by
  rw [hear_run sent h.k.sz j went b hj h.k.len h.k.got, h.gt, if_pos (Nat.le_refl _), h.ow, show max went (went + j) = went + j by omega]
  simp
theorem R.hears {sent : List ByteArray} {went : Nat} {a b : Ln} (h : R sent went a b) {j : Nat} (hj : went + j < sent.length) (b' : Ln) : hearE b' (frame sent (went + j + 1)) = 0 := by
  have hd : (sent.getD (went + j) e0).size ≤ 200 := by
    rw [List.getD_eq_getElem?_getD, List.getElem?_eq_getElem hj]; exact h.k.sz _ (List.getElem_mem hj)
  show (if false = true then _ else if ((went + j + 1 : Nat) : Int) < 1 then 1 else if 200 < (sent.getD (went + j + 1 - 1) e0).size then 4 else 0) = 0
  rw [if_neg (by decide), if_neg (by omega), show went + j + 1 - 1 = went + j by omega, if_neg (by omega)]
theorem wide_le {sent : List ByteArray} {went : Nat} {a b : Ln} (h : R sent went a b) : went + wide sent went a ≤ sent.length := by
  have h1 := h.k.ia.sd
  rw [h.sd, h.k.all] at h1
  unfold wide; omega
theorem wide_pos {sent : List ByteArray} {went : Nat} {a b : Ln} (h : R sent went a b) (hl : went < sent.length) : 0 < wide sent went a := by
  have h1 := h.k.ia.w1
  unfold wide; omega
/- one go -/
theorem R.go {sent : List ByteArray} {went : Nat} {a b : Ln} (h : R sent went a b) (hl : went < sent.length) :
    outF (b1 a b) = [(true, ((went + wide sent went a : Nat) : Int), e0)] ∧ hearE (outS a) (true, ((went + wide sent went a : Nat) : Int), e0) = 0 ∧ R sent (went + wide sent went a) (hearS (outS a) (true, ((went + wide sent went a : Nat) : Int), e0)) (b2 a b) := by
  have hw := wide_le h
  have hp := wide_pos h hl
  obtain ⟨k, hk⟩ : ∃ k, k = wide sent went a := ⟨_, rfl⟩
  have hB : b1 a b = { b with got := sent.take (went + k), owes := true } := by
    unfold b1
    rw [h.out, ← hk, h.heard (by omega), decide_eq_true (by omega)]
  have hlen : (sent.take (went + k)).length = went + k := by rw [List.length_take]; omega
  have hlast := h.last
  rw [← hk] at hw hp hlast ⊢
  have K1 : K sent (outS a) (b1 a b) := by
    have ho := h.k.out.1
    have hib : Inv (b1 a b) := by rw [hB]; exact ⟨h.k.ib.w1, h.k.ib.w2, h.k.ib.x1, h.k.ib.x2, h.k.ib.ak, h.k.ib.sd, h.k.ib.sw⟩
    rw [hB] at hib ⊢
    refine ⟨ho.ia, hib, ho.all, ho.ao, h.k.ball, ?_, ?_, ?_, h.k.sz⟩
    · show sent.take (went + k) = sent.take (sent.take (went + k)).length; rw [hlen]
    · show (sent.take (went + k)).length ≤ max a.said (Ec.last a); rw [hlen, hlast]; omega
    · show a.acked ≤ (sent.take (went + k)).length; rw [hlen, h.ak]; omega
  have hg : (b1 a b).got.length = went + k := by rw [hB]; exact hlen
  have hball : (b1 a b).all = [] := K1.ball
  obtain ⟨_, _, hob⟩ := out_b hball
  obtain ⟨he, hh, K2⟩ := K1.heara
  rw [hg] at hob he hh K2
  have how : (b1 a b).owes = true := by rw [hB]
  rw [how, if_pos rfl] at hob
  refine ⟨hob, he, ⟨K2.outb, ?_, ?_, hg, ?_, rfl⟩⟩
  · rw [hh]
  · rw [hh]
    show max a.said (Ec.last a) = went + k
    rw [h.sd, hlast]; omega
  · rw [hh]
    show (if saysN a = [] then a.ticks else 0) = 0
    rw [h.tk]; simp
/- all went: nothing is left, and nothing is said any more -/
theorem R.end {sent : List ByteArray} {a b : Ln} (h : R sent sent.length a b) : left a = 0 ∧ outF a = [] := by
  refine ⟨by unfold left; rw [h.k.all, h.ak]; omega, ?_⟩
  rw [h.out, show wide sent sent.length a = 0 by unfold wide; omega]; rfl

end Ee
end Go.Proofs.YtaicacnijlneaaaDoor
