/- Two ends and a line that loses: what came is the beginning of what was sent, and where nothing is lost any more all comes. Plain mathematics. -/
import Derived.Test.YtaicacnijlneaaaDoorEc
namespace Go.Proofs.YtaicacnijlneaaaDoor
namespace Ed
set_option linter.unusedVariables false
open Ec

/- a sends, b hears -/
structure K (sent : List ByteArray) (a b : Ln) : Prop where
  ia : Inv a
  ib : Inv b
  all : a.all = sent
  ao : a.owes = false
  ball : b.all = []
  got : b.got = sent.take b.got.length
  gl : b.got.length ≤ a.said
  ak : a.acked ≤ b.got.length
  sz : ∀ d ∈ sent, d.size ≤ 200
/- a frame that a has said -/
def Un (sent : List ByteArray) (a : Ln) (f : Fr) : Prop := ∃ n, 1 ≤ n ∧ n ≤ a.said ∧ f = frame sent n
theorem Un.out {sent : List ByteArray} {a : Ln} {f : Fr} (h : Un sent a f) : Un sent (outS a) f := by
  obtain ⟨n, h1, h2, h3⟩ := h
  exact ⟨n, h1, by show n ≤ max a.said (last a); omega, h3⟩
theorem Un.tick {sent : List ByteArray} {a : Ln} {f : Fr} (h : Un sent a f) : Un sent (tick a) f := h
theorem hear_said (s : Ln) (f : Fr) : (hearS s f).said = s.said := by unfold hearS; split; rfl; split <;> rfl
theorem Un.hear {sent : List ByteArray} {a : Ln} {f g : Fr} (h : Un sent a f) : Un sent (hearS a g) f := by
  obtain ⟨n, h1, h2, h3⟩ := h
  exact ⟨n, h1, by rw [hear_said]; exact h2, h3⟩
theorem says_range {s : Ln} {n : Nat} (h : n ∈ saysN s) : 1 ≤ n ∧ n ≤ last s := by
  unfold saysN at h
  have h1 := List.mem_range'_1.1 (List.mem_filter.1 h).1
  omega
theorem K.out {sent : List ByteArray} {a b : Ln} (h : K sent a b) : K sent (outS a) b ∧ ∀ f ∈ outF a, Un sent (outS a) f := by
  refine ⟨⟨inv_out h.ia, h.ib, h.all, rfl, h.ball, h.got, ?_, h.ak, h.sz⟩, fun f hf => ?_⟩
  · show b.got.length ≤ max a.said (last a)
    have := h.gl; omega
  · unfold outF at hf
    rw [h.ao, h.all] at hf
    simp only [Bool.false_eq_true, if_false, List.nil_append, List.mem_map] at hf
    obtain ⟨n, hn, rfl⟩ := hf
    obtain ⟨h1, h2⟩ := says_range hn
    exact ⟨n, h1, by show n ≤ max a.said (last a); omega, rfl⟩
theorem K.tick {sent : List ByteArray} {a b : Ln} (h : K sent a b) : K sent (tick a) b := ⟨inv_tick h.ia, h.ib, h.all, h.ao, h.ball, h.got, h.gl, h.ak, h.sz⟩
theorem K.len {sent : List ByteArray} {a b : Ln} (h : K sent a b) : b.got.length ≤ sent.length := by
  have h1 := h.gl
  have h2 := h.ia.sd
  rw [h.all] at h2; omega
theorem K.hearb {sent : List ByteArray} {a b : Ln} {f : Fr} (h : K sent a b) (hu : Un sent a f) : K sent a (hearS b f) := by
  obtain ⟨n, h1, h2, rfl⟩ := hu
  obtain ⟨m, rfl⟩ : ∃ m, n = m + 1 := ⟨n - 1, by omega⟩
  have hs := h.ia.sd
  rw [h.all] at hs
  have hr := hear_run sent h.sz 1 m b (by omega) h.len h.got
  have e : frames sent m 1 = [frame sent (m + 1)] := rfl
  rw [e, List.foldl_cons, List.foldl_nil] at hr
  have hi := inv_hear (f := frame sent (m + 1)) h.ib
  rw [hr] at hi ⊢
  have hg := h.gl
  have hl := h.len
  have hak := h.ak
  by_cases hm : m ≤ b.got.length
  · have e9 : (if m ≤ b.got.length then sent.take (max b.got.length (m + 1)) else b.got) = sent.take (max b.got.length (m + 1)) := if_pos hm
    have hlen : (sent.take (max b.got.length (m + 1))).length = max b.got.length (m + 1) := by rw [List.length_take]; omega
    refine ⟨h.ia, hi, h.all, h.ao, h.ball, ?_, ?_, ?_, h.sz⟩
    · show (if m ≤ b.got.length then _ else _) = sent.take (List.length (if m ≤ b.got.length then _ else _)); rw [e9, hlen]
    · show (List.length (if m ≤ b.got.length then _ else _)) ≤ a.said; rw [e9, hlen]; omega
    · show a.acked ≤ (List.length (if m ≤ b.got.length then _ else _)); rw [e9, hlen]; omega
  · have e9 : (if m ≤ b.got.length then sent.take (max b.got.length (m + 1)) else b.got) = b.got := if_neg hm
    refine ⟨h.ia, hi, h.all, h.ao, h.ball, ?_, ?_, ?_, h.sz⟩
    · show (if m ≤ b.got.length then _ else _) = sent.take (List.length (if m ≤ b.got.length then _ else _)); rw [e9]; exact h.got
    · show (List.length (if m ≤ b.got.length then _ else _)) ≤ a.said; rw [e9]; exact hg
    · show a.acked ≤ (List.length (if m ≤ b.got.length then _ else _)); rw [e9]; exact hak
theorem out_b {b : Ln} (h : b.all = []) : saysN b = [] ∧ last b = 0 ∧ outF b = if b.owes then [(true, (b.got.length : Int), e0)] else [] := by
  have h1 : last b = 0 := by unfold last; rw [h]; simp
  have h2 : saysN b = [] := by unfold saysN; rw [h1, show 0 - b.acked = 0 by omega]; rfl
  refine ⟨h2, h1, ?_⟩
  unfold outF; rw [h2]; simp
theorem K.outb {sent : List ByteArray} {a b : Ln} (h : K sent a b) : K sent a (outS b) := ⟨h.ia, inv_out h.ib, h.all, h.ao, h.ball, h.got, h.gl, h.ak, h.sz⟩
theorem K.heara {sent : List ByteArray} {a b : Ln} (h : K sent a b) : hearE a (true, (b.got.length : Int), e0) = 0 ∧ hearS a (true, (b.got.length : Int), e0) = { a with acked := b.got.length } ∧ K sent (hearS a (true, (b.got.length : Int), e0)) b := by
  have hg := h.gl
  have hak := h.ak
  have he : hearE a (true, (b.got.length : Int), e0) = 0 := by
    show (if true = true then (if (b.got.length : Int) < 0 ∨ (a.said : Int) < (b.got.length : Int) then 1 else if e0.size ≠ 0 then 3 else 0) else _) = 0
    rw [if_pos rfl, if_neg (by omega), if_neg (by decide)]
  have hh : hearS a (true, (b.got.length : Int), e0) = { a with acked := b.got.length } := by
    unfold hearS
    rw [if_neg (by simpa using he), if_pos rfl]
    show ({ a with acked := max a.acked (b.got.length : Int).toNat } : Ln) = _
    rw [show max a.acked (b.got.length : Int).toNat = b.got.length by omega]
  have hi := inv_hear (f := (true, (b.got.length : Int), e0)) h.ia
  refine ⟨he, hh, ?_⟩
  rw [hh] at hi ⊢
  exact ⟨hi, h.ib, h.all, h.ao, h.ball, h.got, hg, Nat.le_refl _, h.sz⟩
/- what came is the beginning of what was sent -/
theorem K.begins {sent : List ByteArray} {a b : Ln} (h : K sent a b) : b.got.length ≤ sent.length ∧ b.got = sent.take b.got.length := ⟨h.len, h.got⟩
/- nothing is left: all came -/
theorem K.done {sent : List ByteArray} {a b : Ln} (h : K sent a b) (h0 : left a = 0) : b.got = sent := by
  unfold left at h0
  rw [h.all] at h0
  have h1 := h.ak
  have h2 := h.len
  rw [h.got, List.take_of_length_le (by omega)]

/- one go over a line that loses nothing -/
def b1 (a b : Ln) : Ln := (outF a).foldl hearS b
def b2 (a b : Ln) : Ln := outS (b1 a b)
def a2 (a b : Ln) : Ln := (outF (b1 a b)).foldl hearS (outS a)
def a3 (a b : Ln) : Ln := tick (a2 a b)
def phi (a b : Ln) : Nat :=
  if a.acked = a.said ∧ b.got.length = a.said then a.all.length - a.acked
  else a.all.length + 1 + (a.wait - a.ticks) + (a.wait + 1) * ((if a.said < last a then 1 else 0) + (if a.acked < b.got.length then 1 else 0))
theorem phi_le {sent : List ByteArray} {a b : Ln} (h : K sent a b) (hs : sent.length ≤ 30) : phi a b ≤ 30 * (a.wait + 2) := by
  have h1 := h.ia.x1
  have h2 := h.all
  unfold phi
  rw [h2]
  split
  · omega
  · split <;> split <;> omega
theorem phi_pos {sent : List ByteArray} {a b : Ln} (h : K sent a b) (hl : 0 < left a) : 0 < phi a b := by
  unfold left at hl
  unfold phi
  split <;> omega
theorem frames_out {sent : List ByteArray} {a b : Ln} (h : K sent a b) : ∃ m k, outF a = frames sent m k ∧ m + k = last a ∧ (saysN a = [] ↔ k = 0) ∧ ((late a = true ∧ m = a.acked) ∨ (late a = false ∧ m = a.said)) := by
  have hak := h.ia.ak
  have hls := last_said h.ia
  have e : outF a = (saysN a).map (frame sent) := by unfold outF; rw [h.ao, h.all]; rfl
  cases hl : late a with
  | true =>
    have hn := says_late hl
    refine ⟨a.acked, last a - a.acked, by rw [e, hn]; rfl, by omega, ?_, Or.inl ⟨rfl, rfl⟩⟩
    rw [hn]; simp
  | false =>
    have hn := says_new h.ia hl
    refine ⟨a.said, last a - a.said, by rw [e, hn]; rfl, by omega, ?_, Or.inr ⟨rfl, rfl⟩⟩
    rw [hn]; simp
theorem go {sent : List ByteArray} {a b : Ln} (h : K sent a b) (hl : 0 < left a) : K sent (a3 a b) (b2 a b) ∧ phi (a3 a b) (b2 a b) < phi a b := by
  obtain ⟨m, k, hf, hmk, hk0, hw⟩ := frames_out h
  have I := h.ia
  have hak := I.ak
  have hsd := I.sd
  have hsw := I.sw
  have hw1 := I.w1
  have hx1 := I.x1
  have hls := last_said I
  have hG1 := h.ak
  have hG2 := h.gl
  have hall := h.all
  have hla : last a = min (a.acked + a.win) a.all.length := rfl
  rw [hall] at hsd hla
  have hlt : a.acked < sent.length := by unfold left at hl; rw [hall] at hl; omega
  have hr := hear_run sent h.sz k m b (by omega) h.len h.got
  -- what b got
  obtain ⟨G1, hG⟩ : ∃ G1, G1 = if m ≤ b.got.length then max b.got.length (m + k) else b.got.length := ⟨_, rfl⟩
  have hg1 : (if m ≤ b.got.length then sent.take (max b.got.length (m + k)) else b.got) = sent.take G1 := by
    rw [hG]
    split
    · rfl
    · exact h.got
  have hG1l : G1 ≤ sent.length := by rw [hG]; have := h.len; split <;> omega
  have hB1 : b1 a b = { b with got := sent.take G1, owes := b.owes || decide (0 < k) } := by unfold b1; rw [hf, hr, hg1]
  have hlen : (sent.take G1).length = G1 := by rw [List.length_take]; omega
  have hGs : G1 ≤ last a ∧ b.got.length ≤ G1 := by rw [hG]; split <;> omega
  have K1 : K sent (outS a) (b1 a b) := by
    have ho := h.out.1
    have hib : Inv (b1 a b) := by
      unfold b1
      have key : ∀ (l : List Fr) (s : Ln), Inv s → Inv (l.foldl hearS s) := by
        intro l
        induction l with
        | nil => intro s hs; exact hs
        | cons f l ih => intro s hs; exact ih _ (inv_hear hs)
      exact key _ _ h.ib
    rw [hB1] at hib ⊢
    refine ⟨ho.ia, hib, ho.all, ho.ao, h.ball, ?_, ?_, ?_, h.sz⟩
    · show sent.take G1 = sent.take (sent.take G1).length; rw [hlen]
    · show (sent.take G1).length ≤ max a.said (last a); rw [hlen]; omega
    · show a.acked ≤ (sent.take G1).length; rw [hlen]; omega
  have hball : (b1 a b).all = [] := by rw [hB1]; exact h.ball
  obtain ⟨_, _, hob⟩ := out_b hball
  obtain ⟨_, hha, K2⟩ := K1.heara
  have hb1g : (b1 a b).got.length = G1 := by rw [hB1]; exact hlen
  rw [hb1g] at hob hha K2
  obtain ⟨ow, how⟩ : ∃ ow, ow = (b1 a b).owes := ⟨_, rfl⟩
  rw [← how] at hob
  -- a behind it
  have hA : a2 a b = if ow then { outS a with acked := G1 } else outS a := by
    unfold a2
    rw [hob]
    cases ow
    · rfl
    · show hearS (outS a) (true, (G1 : Int), e0) = _
      rw [hha]; rfl
  have KA : K sent (a3 a b) (b2 a b) := by
    have : K sent (a2 a b) (b1 a b) := by
      rw [hA]
      cases ow
      · exact K1
      · show K sent { outS a with acked := G1 } (b1 a b)
        rw [← hha]; exact K2
    exact this.outb.tick
  refine ⟨KA, ?_⟩
  have how2 : ow = (b.owes || decide (0 < k)) := by rw [how, hB1]
  have e1 : (a3 a b).acked = if ow then G1 else a.acked := by unfold a3; rw [hA]; cases ow <;> rfl
  have e2 : (a3 a b).said = max a.said (last a) := by unfold a3; rw [hA]; cases ow <;> rfl
  have e3 : (a3 a b).all = sent := KA.all
  have e4 : (a3 a b).wait = a.wait := by unfold a3; rw [hA]; cases ow <;> rfl
  have e5 : (a3 a b).win = a.win := by unfold a3; rw [hA]; cases ow <;> rfl
  have e6 : (a3 a b).ticks = (if k = 0 then a.ticks else 0) + 1 := by
    have : (outS a).ticks = if k = 0 then a.ticks else 0 := by
      show (if saysN a = [] then a.ticks else 0) = _
      by_cases hk : k = 0
      · rw [if_pos hk, if_pos (hk0.2 hk)]
      · rw [if_neg hk, if_neg (fun e => hk (hk0.1 e))]
    unfold a3; rw [hA, ← this]; cases ow <;> rfl
  have e7 : (b2 a b).got.length = G1 := hb1g
  have e8 : last (a3 a b) = min ((if ow then G1 else a.acked) + a.win) sent.length := by unfold last; rw [e1, e3, e5]
  unfold phi
  rw [e1, e2, e3, e4, e6, e7, e8, hall, show max a.said (last a) = last a by omega]
  have hlate : late a = true ↔ a.wait ≤ a.ticks := by unfold late; simp
  by_cases hk : k = 0
  · have how3 : ow = b.owes := by rw [how2, decide_eq_false (by omega)]; simp
    have hnl : late a = false := by
      cases hl2 : late a with
      | false => rfl
      | true =>
        rcases hw with ⟨_, e⟩ | ⟨e, _⟩
        · exfalso; omega
        · rw [hl2] at e; cases e
    have hms : m = a.said := by rcases hw with ⟨e, _⟩ | ⟨_, e⟩; (rw [hnl] at e; cases e); exact e
    have hnw : ¬ a.wait ≤ a.ticks := fun e => by rw [hlate.2 e] at hnl; cases hnl
    have hGe : G1 = b.got.length := by rw [hG]; split <;> omega
    rw [if_pos hk]
    cases ow
    · simp only [Bool.false_eq_true, if_false]
      by_cases hs : a.acked = last a ∧ G1 = last a
      · rw [if_pos hs]; omega
      · rw [if_neg hs, if_neg (show ¬ (a.acked = a.said ∧ b.got.length = a.said) by omega)]
        repeat' split
        all_goals omega
    · simp only [if_true]
      by_cases hs : G1 = last a ∧ G1 = last a
      · rw [if_pos hs]
        split
        · omega
        · omega
      · rw [if_neg hs, if_neg (show ¬ (a.acked = a.said ∧ b.got.length = a.said) by omega)]
        repeat' split
        all_goals omega
  · have how3 : ow = true := by rw [how2, decide_eq_true (by omega)]; simp
    subst how3
    simp only [if_true]
    rw [if_neg hk]
    by_cases hs : G1 = last a ∧ G1 = last a
    · rw [if_pos hs]
      split
      · omega
      · omega
    · have hnl : late a = false ∧ m = a.said := by
        rcases hw with ⟨_, e⟩ | e
        · exfalso
          apply hs
          have : G1 = last a := by rw [hG]; split <;> omega
          exact ⟨this, this⟩
        · exact e
      have hnw : ¬ a.wait ≤ a.ticks := fun e => by rw [hlate.2 e] at hnl; cases hnl.1
      have hGe : G1 = b.got.length ∧ b.got.length < a.said := by
        have h9 : ¬ m ≤ b.got.length := fun e => by
          apply hs
          have : G1 = last a := by rw [hG, if_pos e]; omega
          exact ⟨this, this⟩
        rw [hG, if_neg h9]
        exact ⟨rfl, by omega⟩
      rw [if_neg hs, if_neg (show ¬ (a.acked = a.said ∧ b.got.length = a.said) by omega)]
      repeat' split
      all_goals omega

end Ed
end Go.Proofs.YtaicacnijlneaaaDoor
