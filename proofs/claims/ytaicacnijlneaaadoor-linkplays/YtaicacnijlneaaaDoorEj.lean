/- Two ends, what was sent, and what is under way, side by side in memory: each call of package link carried over them. -/
import Derived.Test.YtaicacnijlneaaaDoorEe
import Derived.Test.YtaicacnijlneaaaDoorEg
import Derived.Test.YtaicacnijlneaaaDoorEh
namespace Go.Proofs.YtaicacnijlneaaaDoor
namespace Ej
set_option linter.unusedVariables false
open Go.ChangeShapes Go.WideShapes Go.ChangeAt Go.RowKit Ka Kb Ec Ed Ef Eg Eh

structure St (L : LinkSays) (B : Nat) (sent : List ByteArray) (w : World) (X Y : Nat) (a b : Ln) (F G : Nat → Prop) (T : Value) (i : Nat) : Prop where
  two : Two L B w X Y a b F G
  k : K sent a b
  fa : a.got.length ≤ 0 ∧ a.ticks ≤ i
  fb : b.ticks ≤ 0
  row : RowT B w T sent
  few : sent.length ≤ 30
  off : ∀ g, T.ownBlock = some g → ¬ F g ∧ ¬ G g
theorem St.fitA {L : LinkSays} {B : Nat} {sent : List ByteArray} {w : World} {X Y : Nat} {a b : Ln} {F G : Nat → Prop} {T : Value} {i : Nat} (h : St L B sent w X Y a b F G T i) (hi : i ≤ 10000) : Fit a := ⟨by rw [h.k.all]; have := h.few; omega, by have := h.fa.1; omega, by have := h.fa.2; omega⟩
theorem St.fitB {L : LinkSays} {B : Nat} {sent : List ByteArray} {w : World} {X Y : Nat} {a b : Ln} {F G : Nat → Prop} {T : Value} {i : Nat} (h : St L B sent w X Y a b F G T i) : Fit b := ⟨by rw [h.k.ball]; exact Nat.zero_le _, by have := h.k.len; have := h.few; omega, by have := h.fb; omega⟩
theorem St.below {L : LinkSays} {B : Nat} {sent : List ByteArray} {w w' : World} {X Y : Nat} {a b : Ln} {F G : Nat → Prop} {T : Value} {i : Nat} (h : St L B sent w X Y a b F G T i) (hb : Below w.heap.size w w') : St L B sent w' X Y a b F G T i := ⟨h.two.below hb, h.k, h.fa, h.fb, own_below h.row hb, h.few, h.off⟩
theorem St.set_x {L : LinkSays} {B : Nat} {sent : List ByteArray} {w w' : World} {X Y : Nat} {a a' b : Ln} {F F' G : Nat → Prop} {T : Value} {i j : Nat} (h : St L B sent w X Y a b F G T i) (hB : B ≤ w.heap.size) (hx : L.At w' X a' F') (hc : Chg F w w') (hf : ∀ g, F' g → F g ∨ w.heap.size ≤ g) (hk : K sent a' b) (hfa : a'.got.length ≤ 0 ∧ a'.ticks ≤ j) : St L B sent w' X Y a' b F' G T j :=
  ⟨h.two.set_x hB hx hc hf, hk, hfa, h.fb, own_stay h.row fun g hg => hc.block g (own_lt h.row g hg).1 (h.off g hg).1, h.few, fun g hg => ⟨fun e => by
    rcases hf g e with e | e
    · exact (h.off g hg).1 e
    · have := (own_lt h.row g hg).1; omega, (h.off g hg).2⟩⟩
theorem St.set_y {L : LinkSays} {B : Nat} {sent : List ByteArray} {w w' : World} {X Y : Nat} {a b b' : Ln} {F G G' : Nat → Prop} {T : Value} {i : Nat} (h : St L B sent w X Y a b F G T i) (hB : B ≤ w.heap.size) (hy : L.At w' Y b' G') (hc : Chg G w w') (hf : ∀ g, G' g → G g ∨ w.heap.size ≤ g) (hk : K sent a b') (hfb : b'.ticks ≤ 0) : St L B sent w' X Y a b' F G' T i :=
  ⟨h.two.set_y hB hy hc hf, hk, h.fa, hfb, own_stay h.row fun g hg => hc.block g (own_lt h.row g hg).1 (h.off g hg).2, h.few, fun g hg => ⟨(h.off g hg).1, fun e => by
    rcases hf g e with e | e
    · exact (h.off g hg).2 e
    · have := (own_lt h.row g hg).1; omega⟩⟩
/- other blocks are written -/
theorem St.other {L : LinkSays} {B : Nat} {sent : List ByteArray} {w w' : World} {X Y : Nat} {a b : Ln} {F G U : Nat → Prop} {T : Value} {i : Nat} (h : St L B sent w X Y a b F G T i) (hc : Chg U w w') (hd : ∀ g, U g → ¬ F g ∧ ¬ G g ∧ T.ownBlock ≠ some g) : St L B sent w' X Y a b F G T i :=
  ⟨⟨L.chg h.two.x hc (fun g h1 h2 => (hd g h2).1 h1), L.chg h.two.y hc (fun g h1 h2 => (hd g h2).2.1 h1), h.two.off, h.two.lx, h.two.ly⟩, h.k, h.fa, h.fb, own_stay h.row fun g hg => hc.block g (own_lt h.row g hg).1 (fun e => (hd g e).2.2 hg), h.few, h.off⟩
/- what is under way lies apart -/
def Ap (F G : Nat → Prop) (T : Value) (U : Nat → Prop) : Prop := ∀ g, U g → ¬ F g ∧ ¬ G g ∧ T.ownBlock ≠ some g
theorem Ap.x {w : World} {F F' G U : Nat → Prop} {T : Value} (h : Ap F G T U) (hu : ∀ g, U g → g < w.heap.size) (hf : ∀ g, F' g → F g ∨ w.heap.size ≤ g) : Ap F' G T U := fun g hg => ⟨fun e => by
    rcases hf g e with e | e
    · exact (h g hg).1 e
    · have := hu g hg; omega, (h g hg).2⟩
theorem Ap.y {w : World} {F G G' U : Nat → Prop} {T : Value} (h : Ap F G T U) (hu : ∀ g, U g → g < w.heap.size) (hf : ∀ g, G' g → G g ∨ w.heap.size ≤ g) : Ap F G' T U := fun g hg => ⟨(h g hg).1, fun e => by
    rcases hf g e with e | e
    · exact (h g hg).2.1 e
    · have := hu g hg; omega, (h g hg).2.2⟩
theorem Ap.u {L : LinkSays} {B : Nat} {sent : List ByteArray} {w : World} {X Y : Nat} {a b : Ln} {F G U U' : Nat → Prop} {T : Value} {i : Nat} (h : Ap F G T U) (hs : St L B sent w X Y a b F G T i) (hf : ∀ g, U' g → U g ∨ w.heap.size ≤ g) : Ap F G T U' := fun g hg => by
  rcases hf g hg with e | e
  · exact h g e
  · refine ⟨fun e9 => ?_, fun e9 => ?_, fun e9 => ?_⟩
    · have := L.lt hs.two.x g e9; omega
    · have := L.lt hs.two.y g e9; omega
    · have := (own_lt hs.row g e9).1; omega
theorem hear_keeps (s : Ln) (f : Fr) : (hearS s f).ticks = s.ticks ∧ (f.1 = true → (hearS s f).got = s.got) := by
  unfold hearS
  by_cases he : hearE s f = 0
  · rw [if_neg (by simpa using he)]
    cases hf : f.1 with
    | true => rw [if_pos rfl]; exact ⟨rfl, fun _ => rfl⟩
    | false => exact ⟨rfl, fun h => by cases h⟩
  · rw [if_pos he]; exact ⟨rfl, fun _ => rfl⟩
theorem hear_wait (s : Ln) (f : Fr) : (hearS s f).wait = s.wait := by unfold hearS; split; rfl; split <;> rfl
theorem out_ticks (s : Ln) : (outS s).ticks ≤ s.ticks := by
  show (if saysN s = [] then s.ticks else 0) ≤ s.ticks
  split <;> omega
section
variable {L : LinkSays} {B : Nat} {sent : List ByteArray} {w : World} {X Y : Nat} {a b : Ln} {F G : Nat → Prop} {T : Value} {i : Nat}
theorem out_a (h : St L B sent w X Y a b F G T i) (hB : B ≤ w.heap.size) (hi : i ≤ 10000) : Calls Tryd.prog 8 #[ptr X] w fun e w' => ∃ p n c F', e = .returned (.slice p n c) ∧ FrsJ (fun g => New w.heap.size w' g ∧ ¬ F' g) w' (.slice p n c) (outF a) ∧ St L B sent w' X Y (outS a) b F' G T i ∧ Chg F w w' ∧ ∀ g, F' g → F g ∨ w.heap.size ≤ g := by
  refine (L.out X a F w h.two.x (h.fitA hi)).mono ?_
  rintro e w' ⟨p, n, c, F', h1, h2, h3, h4, h5⟩
  exact ⟨p, n, c, F', h1, h2, h.set_x hB h3 h4 h5 h.k.out.1 ⟨h.fa.1, Nat.le_trans (out_ticks a) h.fa.2⟩, h4, h5⟩
theorem tick_a (h : St L B sent w X Y a b F G T i) (hB : B ≤ w.heap.size) (hi : i ≤ 10000) : Calls Tryd.prog 10 #[ptr X] w fun e w' => ∃ v F', e = .returned v ∧ St L B sent w' X Y (tick a) b F' G T (i + 1) ∧ Chg F w w' ∧ ∀ g, F' g → F g ∨ w.heap.size ≤ g := by
  refine (L.tick X a F w h.two.x (h.fitA hi)).mono ?_
  rintro e w' ⟨⟨v, h1⟩, F', h3, h4, h5⟩
  exact ⟨v, F', h1, h.set_x hB h3 h4 h5 h.k.tick ⟨h.fa.1, by show a.ticks + 1 ≤ i + 1; have := h.fa.2; omega⟩, h4, h5⟩
theorem hear_b (h : St L B sent w X Y a b F G T i) (hB : B ≤ w.heap.size) (f1 : Bool) (f2 : Int) (f3 : ByteArray) (hu : Un sent a (f1, f2, f3)) : Calls Tryd.prog 12 #[ptr Y, .agg #[.bool f1, .int .i64 f2, .string f3]] w fun e w' => ∃ k G', e = .returned (errV k) ∧ St L B sent w' X Y a (hearS b (f1, f2, f3)) F G' T i ∧ Chg G w w' ∧ ∀ g, G' g → G g ∨ w.heap.size ≤ g := by
  have hsz : f3.size ≤ maxLen := by
    obtain ⟨n, h1, h2, h3⟩ := hu
    have h9 := h.k.ia.sd
    rw [h.k.all] at h9
    have e3 : f3 = sent.getD (n - 1) e0 := congrArg (fun z : Fr => z.2.2) h3
    have := h.k.sz f3 (by rw [e3, List.getD_eq_getElem?_getD, List.getElem?_eq_getElem (by omega)]; exact List.getElem_mem _)
    unfold maxLen; omega
  refine (L.hear Y b G f1 f2 f3 w h.two.y h.fitB hsz).mono ?_
  rintro e w' ⟨h1, G', h3, h4, h5⟩
  exact ⟨_, G', h1, h.set_y hB h3 h4 h5 (h.k.hearb hu) (by rw [(hear_keeps b _).1]; exact h.fb), h4, h5⟩
theorem out_bb (h : St L B sent w X Y a b F G T i) (hB : B ≤ w.heap.size) : Calls Tryd.prog 8 #[ptr Y] w fun e w' => ∃ p n c G', e = .returned (.slice p n c) ∧ FrsJ (fun g => New w.heap.size w' g ∧ ¬ G' g) w' (.slice p n c) (outF b) ∧ St L B sent w' X Y a (outS b) F G' T i ∧ Chg G w w' ∧ ∀ g, G' g → G g ∨ w.heap.size ≤ g := by
  refine (L.out Y b G w h.two.y h.fitB).mono ?_
  rintro e w' ⟨p, n, c, G', h1, h2, h3, h4, h5⟩
  exact ⟨p, n, c, G', h1, h2, h.set_y hB h3 h4 h5 h.k.outb (Nat.le_trans (out_ticks b) h.fb), h4, h5⟩
theorem hear_a (h : St L B sent w X Y a b F G T i) (hB : B ≤ w.heap.size) (hi : i ≤ 10000) (q : Int) (hq : q = (b.got.length : Int)) : Calls Tryd.prog 12 #[ptr X, .agg #[.bool true, .int .i64 q, .string e0]] w fun e w' => ∃ F', e = .returned .nilIface ∧ St L B sent w' X Y (hearS a (true, q, e0)) b F' G T i ∧ Chg F w w' ∧ ∀ g, F' g → F g ∨ w.heap.size ≤ g := by
  obtain ⟨k1, k2, k3⟩ := h.k.heara
  refine (L.hear X a F true q e0 w h.two.x (h.fitA hi) (by unfold maxLen e0; decide)).mono ?_
  rintro e w' ⟨h1, F', h3, h4, h5⟩
  rw [hq] at h1 h3 ⊢
  rw [k1, errV_zero] at h1
  exact ⟨F', h1, h.set_x hB h3 h4 h5 k3 ⟨by rw [(hear_keeps a _).2 rfl]; exact h.fa.1, by rw [(hear_keeps a _).1]; exact h.fa.2⟩, h4, h5⟩
theorem got_b (h : St L B sent w X Y a b F G T i) : Calls Tryd.prog 14 #[ptr Y] w fun e w' => ∃ p n c, e = .returned (.slice p n c) ∧ TxJ (New w.heap.size w') w' (.slice p n c) b.got ∧ Below w.heap.size w w' := L.got Y b G w h.two.y h.fitB
theorem left_a (h : St L B sent w X Y a b F G T i) (hi : i ≤ 10000) : Calls Tryd.prog 15 #[ptr X] w fun e w' => e = .returned (.int .i64 (Ec.left a)) ∧ Below w.heap.size w w' := L.left X a F w h.two.x (h.fitA hi)
end
/- acknowledgements -/
theorem acks {sent : List ByteArray} {b : Ln} : ∀ (l : List Fr) {a : Ln}, (∀ f ∈ l, f = (true, (b.got.length : Int), e0)) → K sent a b → K sent (l.foldl hearS a) b
  | [], a, _, h => h
  | f :: l, a, hl, h => by
    rw [List.foldl_cons, hl f (List.mem_cons_self ..)]
    exact acks l (fun x hx => hl x (List.mem_cons_of_mem _ hx)) h.heara.2.2
theorem out_acks {b : Ln} (h : b.all = []) : ∀ f ∈ outF b, f = (true, ((outS b).got.length : Int), e0) := by
  intro f hf
  rw [(out_b h).2.2] at hf
  split at hf
  · exact List.mem_singleton.1 hf
  · cases hf
/- frames as an append's source -/
theorem src_of {R : Nat → Prop} {w : World} {p : Option Addr} {n c : Nat} {l : List Fr} (h : FrsJ R w (.slice p n c) l) : l.length = n ∧ Src Tryd.prog 3 24 (.slice p n c) n (flatF l) w := by
  obtain ⟨q, d, e, hk, h1, h2, h3⟩ := h
  injection e with e1 e2 e3
  subst e1 e3
  refine ⟨e2.symm, ?_⟩
  subst e2
  cases p with
  | none =>
    have hc := h3 rfl
    subst hc
    have hl : l = [] := List.eq_nil_of_length_eq_zero (by omega)
    subst hl
    exact Src.ofNil w Tryd.underlying24 0
  | some ad =>
    refine Src.ofSlice w Tryd.underlying24 ad l.length c (flatF l) (flatF_length l) (fun j u hu => ?_) (frames_one l)
    rcases hk with e | ⟨b, o, hp, _, hc⟩
    · subst e; simp [flatF] at hu
    · injection hp with hp
      subst hp
      have hj := (List.getElem?_eq_some_iff.1 hu).1
      rw [flatF_length] at hj
      have hd : j / 3 < l.length := by omega
      have hF := hc (j / 3) hd
      rw [Addr.add_lit]
      have hm : j % 3 < 3 := Nat.mod_lt _ (by decide)
      have key : ∀ i u, (cells3 (l.getD (j / 3) fz))[i]? = some u → (flatF l)[j / 3 * 3 + i]? = some u := fun i u hu => flatF_at l (j / 3) hd i u hu
      have he : j = j / 3 * 3 + j % 3 := by omega
      have h3c : j % 3 = 0 ∨ j % 3 = 1 ∨ j % 3 = 2 := by omega
      rcases h3c with e | e | e
      · have h9 := key 0 _ rfl
        rw [show j / 3 * 3 + 0 = j by omega, hu] at h9
        injection h9 with h9
        rw [h9, show o + j = o + j / 3 * 3 by omega]; exact hF.1
      · have h9 := key 1 _ rfl
        rw [show j / 3 * 3 + 1 = j by omega, hu] at h9
        injection h9 with h9
        rw [h9, show o + j = o + j / 3 * 3 + 1 by omega]; exact hF.2.1
      · have h9 := key 2 _ rfl
        rw [show j / 3 * 3 + 2 = j by omega, hu] at h9
        injection h9 with h9
        rw [h9, show o + j = o + j / 3 * 3 + 2 by omega]; exact hF.2.2
/- numbers that came in -/
def Nums (w : World) (v : Value) (l : List Int) : Prop := ∃ p c, v = .slice p l.length c ∧ (l = [] ∨ ∃ b o, p = some ⟨b, o, none⟩ ∧ ∀ j, j < l.length → w.cell? ⟨b, o + j, none⟩ = some (.int .i64 (l.getD j 0))) ∧ l.length ≤ maxLen
/- texts that came in -/
def Txts (w : World) (v : Value) (l : List ByteArray) : Prop := TxJ (fun g => g < w.heap.size) w v l ∧ ∀ d ∈ l, d.size ≤ maxLen

end Ej
end Go.Proofs.YtaicacnijlneaaaDoor
