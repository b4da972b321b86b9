/- The worlds between Apply's calls. -/
import Derived.Test.YtgefpcchcegcpaaGreatDoorIi
namespace Go.Proofs.YtgefpcchcegcpaaGreatDoor
namespace Ij
set_option linter.unusedVariables false
open Go.ChangeShapes Go.WideShapes Go.ChangeAt Go.RowKit Cm Ka Kb Na Om Oa Oz Oc Og Oi Hm Ia Ib Ic Idc Ie If Ig Ih Ii
open La (bel bel_drew errV_zero errV_ne own_ge own_grow own_below Lies)

/- what Apply leaves -/
def ApPost (w : World) (D : Nat) (S : Dq) (F : Nat → Prop) (o : Ox) (e : Ending) (w' : World) : Prop :=
  e = .returned (.tuple #[.bool (isNew S o), errV (apE S o)]) ∧ (isNew S o = false → Below w.heap.size w w') ∧ ∃ F', DocAt w' D (apS S o) F' ∧ Chg F w w' ∧ ∀ g, F' g → F g ∨ w.heap.size ≤ g
theorem ApPost.no {w w' : World} {D : Nat} {S : Dq} {F : Nat → Prop} {o : Ox} {v : Value} (h : DocAt w D S F) (hn : isNew S o = false) (he : errV (apE S o) = v) (hb : Below w.heap.size w w') : ApPost w D S F o (.returned (.tuple #[.bool false, v])) w' := by
  refine ⟨by rw [hn, he], fun _ => hb, F, ?_, Chg.ofBelow hb F, fun g hg => Or.inl hg⟩
  unfold apS
  rw [hn]
  exact h.below hb

def Mid (w : World) (F : Nat → Prop) (m' : Mem) (S' : Dq) (W : World) : Prop := ∃ G', DocMem W m' S' G' ∧ Chg F w W ∧ (∀ g, G' g → F g ∨ w.heap.size ≤ g) ∧ (∀ g, Wr m' g → F g ∨ w.heap.size ≤ g)
theorem Mid.below {w W W' : World} {F : Nat → Prop} {m' : Mem} {S' : Dq} (h : Mid w F m' S' W) (hb : Below W.heap.size W W') : Mid w F m' S' W' := by
  obtain ⟨G', h1, h2, h3, h4⟩ := h
  exact ⟨G', h1.below hb, h2.trans (Chg.ofBelow hb _), h3, h4⟩
theorem Mid.blk {w W : World} {F : Nat → Prop} {m' : Mem} {S' : Dq} (h : Mid w F m' S' W) : W.heap[m'.D]? = some (.cells #[m'.vb, m'.vm, m'.vk, m'.vo, .map (some m'.B)] 74) := by
  obtain ⟨G', h1, _⟩ := h; exact h1.blk
theorem Mid.chg {w W : World} {F : Nat → Prop} {m' : Mem} {S' : Dq} (h : Mid w F m' S' W) : Chg F w W := by obtain ⟨G', _, h2, _⟩ := h; exact h2

/- at whatever world behind the first ones: all new blocks may be the doc's -/
/- the block in which behind's content lies -/
def Ct (W : World) (g : Nat) : Prop := W.heap[g]? = some (.cells #[.slice none 0 0, .slice none 0 0, .slice none 0 0] 71)
theorem ct_new (w : World) (O : Obj) : Ct ((w.alloc O).alloc (.cells #[.slice none 0 0, .slice none 0 0, .slice none 0 0] 71)) (w.heap.size + 1) := by
  have h := heap_alloc_new (w.alloc O) (.cells #[.slice none 0 0, .slice none 0 0, .slice none 0 0] 71)
  rwa [show (w.alloc O).heap.size = w.heap.size + 1 by simp] at h
theorem Ct.lt {W : World} {g : Nat} (h : Ct W g) : g < W.heap.size := (Array.getElem?_eq_some_iff.1 h).1
abbrev set3 (w : World) (g : Nat) (x y z : Value) : World := ((w.setCell ⟨g, 0, none⟩ x).setCell ⟨g, 1, none⟩ y).setCell ⟨g, 2, none⟩ z
theorem set3_block (w : World) (g : Nat) (x y z : Value) (k : Nat) (h : k ≠ g) : (set3 w g x y z).heap[k]? = w.heap[k]? := by
  rw [set_block _ _ _ _ h, set_block _ _ _ _ h, set_block _ _ _ _ h]
theorem set3_size (w : World) (g : Nat) (x y z : Value) : (set3 w g x y z).heap.size = w.heap.size := by rw [set_size, set_size, set_size]
theorem set3_below {B g : Nat} {w w' : World} (h : Below B w w') (hg : B ≤ g) (x y z : Value) : Below B w (set3 w' g x y z) :=
  ((h.setCell (p := ⟨g, 0, none⟩) hg _).setCell (p := ⟨g, 1, none⟩) hg _).setCell (p := ⟨g, 2, none⟩) hg _
/- what behind leaves -/
def BePost (w : World) (S : Dq) (G : Nat → Prop) (o : Ox) (e : Ending) (w' : World) : Prop :=
  ∃ pb nb cb pm nm cm pk nk ck, e = .returned (.tuple #[.agg #[.slice pb nb cb, .slice pm nm cm, .slice pk nk ck], .bool (isNew S o), errV (apE S o)]) ∧ Below w.heap.size w w' ∧
    (isNew S o = true → (Lj.BookAt w' (.slice pb nb cb) (doB S o) ∧ In (News G w w') (.slice pb nb cb)) ∧ (MksAt w' (.slice pm nm cm) (doM S o) ∧ In (News G w w') (.slice pm nm cm)) ∧ KnAt w' (.slice pk nk ck) (S.known.set (o.1.1 - 1).toNat o.1.2) ∧ In (News G w w') (.slice pk nk ck))
theorem BePost.no {w w' : World} {S : Dq} {G : Nat → Prop} {o : Ox} {v : Value} (hn : isNew S o = false) (he : errV (apE S o) = v) (hb : Below w.heap.size w w') : BePost w S G o (.returned (.tuple #[.agg #[.slice none 0 0, .slice none 0 0, .slice none 0 0], .bool false, v])) w' :=
  ⟨none, 0, 0, none, 0, 0, none, 0, 0, by rw [hn, he], hb, fun h => by rw [hn] at h; cases h⟩
theorem BePost.yes {w w4 w5 : World} {S : Dq} {G : Nat → Prop} {o : Ox} {pb pm : Option Addr} {nb cb nm cm gk ck : Nat} (hn : isNew S o = true) (hlt : ∀ g, G g → g < w.heap.size) (hb4 : Below w.heap.size w w4) (ht : Ct w4 (w.heap.size + 1)) (hb5 : Below w4.heap.size w4 w5)
    (h1 : Lj.BookAt w5 (.slice pb nb cb) (doB S o)) (i1 : In (News G w4 w5) (.slice pb nb cb)) (h2 : MksAt w5 (.slice pm nm cm) (doM S o)) (i2 : In (News G w4 w5) (.slice pm nm cm)) (hk : Za.IntsIn w4 (some ⟨gk, 0, none⟩) (S.known.set (o.1.1 - 1).toNat o.1.2)) (hl : (S.known.set (o.1.1 - 1).toNat o.1.2).length = 8) (hgk : w.heap.size + 1 < gk) :
    BePost w S G o (.returned (.tuple #[.agg #[.slice pb nb cb, .slice pm nm cm, .slice (some ⟨gk, 0, none⟩) 8 ck], .bool true, .nilIface])) (set3 w5 (w.heap.size + 1) (.slice pb nb cb) (.slice pm nm cm) (.slice (some ⟨gk, 0, none⟩) 8 ck)) := by
  obtain ⟨e0, hkn, hfew, hdo⟩ := isNew_iff.1 hn
  have hap : apE S o = 0 := by
    unfold apE
    rw [if_neg (by simpa using e0), if_neg (by omega), if_neg (by omega), if_neg (by omega)]
    exact hdo
  have hz4 := hb4.size
  have hz5 := hb5.size
  have htl := ht.lt
  have hs : Stay (News G w4 w5) w5 (set3 w5 (w.heap.size + 1) (.slice pb nb cb) (.slice pm nm cm) (.slice (some ⟨gk, 0, none⟩) 8 ck)) := fun g hg => set3_block _ _ _ _ _ g (by
    rcases hg with e | e
    · have := hlt g e; omega
    · omega)
  have hmono : ∀ g, News G w4 w5 g → News G w (set3 w5 (w.heap.size + 1) (.slice pb nb cb) (.slice pm nm cm) (.slice (some ⟨gk, 0, none⟩) 8 ck)) g := fun g hg => by
    rcases hg with e | e
    · exact Or.inl e
    · exact Or.inr ⟨by omega, by rw [set3_size]; exact e.2⟩
  have hgl : gk < w4.heap.size := by
    rcases hk with e | ⟨b, o9, hp, hcs⟩
    · rw [e] at hl; simp at hl
    · injection hp with hp
      injection hp with hp1 hp2
      rw [hp1]
      exact World.block_lt_of_cell? _ _ (hcs 0 (by omega))
  have hk5 : KnAt w5 (.slice (some ⟨gk, 0, none⟩) 8 ck) (S.known.set (o.1.1 - 1).toNat o.1.2) := ⟨_, _, by rw [hl], hk.below hb5⟩
  refine ⟨pb, nb, cb, pm, nm, cm, some ⟨gk, 0, none⟩, 8, ck, by rw [hn, hap]; rfl, set3_below (hb4.trans ⟨hb5.os, hb5.tape, hb5.output, hb5.size, fun k hk => hb5.block k (by omega)⟩) (by omega) _ _ _, fun _ => ⟨⟨book_stay h1 i1 hs, i1.mono hmono⟩, ⟨marks_stay h2 i2 hs, i2.mono hmono⟩, known_stay hk5 (G := fun g => g = gk) (fun a n c e _ => by injection e with e1; injection e1 with e1; rw [← e1]) (fun g e => set3_block _ _ _ _ _ g (by rw [e]; omega)), fun a n c e _ => ?_⟩⟩
  injection e with e1
  injection e1 with e1
  rw [← e1]
  exact Or.inr ⟨by show w.heap.size ≤ gk; omega, by rw [set3_size]; show gk < w5.heap.size; omega⟩

/- behind the store of the content -/
theorem mid_content {w w5 : World} {m : Mem} {S : Dq} {G F : Nat → Prop} {vb vm vk : Value} {B : List Bm.Leaf} {M : List Mk} {l : List Int} (h : DocOk w m S G) (hF : ∀ g, F g ↔ (G g ∨ Wr m g)) (hb : Below w.heap.size w w5) (h1 : Lj.BookAt w5 vb B) (i1 : In (News G w w5) vb) (h2 : MksAt w5 vm M) (i2 : In (News G w w5) vm) (h3 : KnAt w5 vk l) (i3 : In (News G w w5) vk) :
    Mid w F { m with vb := vb, vm := vm, vk := vk } ⟨B, M, l, S.ops⟩ (set3 w5 m.D vb vm vk) := by
  obtain ⟨r1, r2⟩ := do_end h.mem hb h1 i1 h2 i2
  have hoff : ∀ g, News G w w5 g → g ≠ m.D := fun g hg e => by
    rcases hg with e9 | e9
    · exact h.mem.off g e9 (Or.inl e)
    · have := h.mem.wr_lt m.D (Or.inl rfl); omega
  have k3 := known_stay h3 i3 (w' := (w5.setCell ⟨m.D, 0, none⟩ vb).setCell ⟨m.D, 1, none⟩ vm) (fun g hg => by rw [set_block _ _ _ _ (hoff g hg), set_block _ _ _ _ (hoff g hg)])
  obtain ⟨r3, r4⟩ := set_known r1 k3 i3
  have hDF : ∀ g, g = m.D → F g := fun g e => (hF g).2 (Or.inr (Or.inl e))
  refine ⟨_, r3, (r2.mono hDF).trans (r4.mono hDF), fun g hg => ?_, fun g hg => Or.inl ((hF g).2 (Or.inr hg))⟩
  rcases hg with e | e
  · exact Or.inl ((hF g).2 (Or.inl e))
  · exact Or.inr e.1
/- with one op more -/
theorem mid_ops {w w6 w7 w8 : World} {m : Mem} {S : Dq} {G' F : Nat → Prop} {o : Ox} {v9 vs' : Value} {L : List (Ox × Value)} (h1 : DocMem w6 m S G') (h2 : Chg F w w6) (h3 : ∀ g, G' g → F g ∨ w.heap.size ≤ g) (h4 : ∀ g, Wr m g → F g ∨ w.heap.size ≤ g)
    (q1 : L.map (·.1) = S.ops) (q2 : ∀ y ∈ L, DtsAt w6 y.2 y.1.2.2.2.2 ∧ In G' y.2) (hb : Below w6.heap.size w6 w7) (hn : w7.ownsRow w6.heap.size 31 2 vs' o.2.2.2.2.length (flatD o.2.2.2.2))
    (hg : w7.grownBy w8 m.vo.ownBlock) (hr : w8.ownsRow 0 34 6 v9 (S.ops.length + 1) (flatO (L ++ [(o, vs')]))) (hl : v9.ownBlock = m.vo.ownBlock ∨ v9.ownBlock = some w7.heap.size) :
    Mid w F { m with vo := v9 } { S with ops := S.ops ++ [o] } (w8.setCell ⟨m.D, 3, none⟩ v9) := by
  obtain ⟨r1, r2, r3⟩ := put_ops h1 q1 q2 hb hn hg hr hl
  have hz := h2.size
  refine ⟨_, r1, h2.next r2 h4, fun g hgg => ?_, fun g hgg => ?_⟩
  · rcases hgg with e | e
    · exact h3 g e
    · exact Or.inr (Nat.le_trans hz (own_ge hn g e))
  · rcases r3 g hgg with e | e
    · exact h4 g e
    · exact Or.inr (by omega)
theorem un_drew {B : Nat} {w w' : World} (h : Below B w.drew w') : Below B w w' := ⟨h.os, h.tape, h.output, h.size, h.block⟩
theorem six_same {W W' : World} {h : Nat} {a b t : Int} {p : ByteArray} {c : Int} {v : Value} (s : Six W h a b t p c v) (hs : W'.heap[h]? = W.heap[h]?) : Six W' h a b t p c v := by
  obtain ⟨h0, h1, h2, h3, h4, h5⟩ := s
  exact ⟨(cell_stay hs).trans h0, (cell_stay hs).trans h1, (cell_stay hs).trans h2, (cell_stay hs).trans h3, (cell_stay hs).trans h4, (cell_stay hs).trans h5⟩
theorem six_lt {W : World} {h : Nat} {a b t : Int} {p : ByteArray} {c : Int} {v : Value} (s : Six W h a b t p c v) : h < W.heap.size := World.block_lt_of_cell? _ _ s.1
/- behind settle -/
theorem mid_end {w w9 w10 : World} {m0 m : Mem} {S : Dq} {G F : Nat → Prop} {o : Ox} {vs : Value} {M' : List Ent} (h0 : DocOk w m0 S G) (hM : m.M = m0.M) (hnew : isNew S o = true) (G' : Nat → Prop) (h2 : Chg F w w9) (h3 : ∀ g, G' g → F g ∨ w.heap.size ≤ g) (h4 : ∀ g, Wr m g → F g ∨ w.heap.size ≤ g)
    (h : SetSt w9 m (next S o) G' (40 * S.ops.length) o.1.1 o.1.2 o.2.1 o.2.2.1 o.2.2.2.1 vs o.2.2.2.2 o.2.2.2.2.length w10 M') : ApPost w m.D S F o (.returned (.tuple #[.bool true, .nilIface])) w10 := by
  obtain ⟨e0, hk, hfew, hdo⟩ := isNew_iff.1 hnew
  have hs40 : o.2.2.2.2.length ≤ 40 := (lawOf_zero.1 (opE_zero.1 e0).2.2.2).2.2.2.1
  have hap : apE S o = 0 := by
    unfold apE
    rw [if_neg (by simpa using e0), if_neg (by omega), if_neg (by omega), if_neg (by omega)]
    exact hdo
  refine ⟨by rw [hnew, hap]; rfl, fun h9 => (by rw [hnew] at h9; cases h9), fun g => G' g ∨ Wr { m with M := M' } g, ?_, h2.next h.chg h4, fun g hg => ?_⟩
  · unfold apS
    rw [hnew, if_pos rfl]
    refine ⟨{ m with M := M' }, G', rfl, ⟨h.mem, inv_next h0.inv hnew, jn_next h0.inv hnew h0.jn ?_, fun x hx => ?_⟩, fun g => Iff.rfl⟩
    · intro d q hd
      have h9 := h.jn d q hd
      rw [List.take_length] at h9
      have e9 : getJ m.M d = getJ m0.M d := by rw [hM]
      rw [e9] at h9
      exact h9
    · have h9 := h.short x hx
      show x.2.2.length ≤ 40 * (S.ops ++ [o]).length
      rw [List.length_append]
      simp only [List.length_singleton]
      omega
  · have hz := h2.size
    rcases hg with e | e
    · exact h3 g e
    · rcases h.own g e with e | e
      · exact h4 g e
      · exact Or.inr (by omega)

end Ij
end Go.Proofs.YtgefpcchcegcpaaGreatDoor
