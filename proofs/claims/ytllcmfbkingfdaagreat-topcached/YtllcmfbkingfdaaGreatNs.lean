/- What marks.Places answers, at all marks. -/
import Derived.Test.YtllcmfbkingfdaaGreatNr
import Derived.Test.YtllcmfbkingfdaaGreatJ5
import Derived.OwnWalk
namespace Go.Proofs.YtllcmfbkingfdaaGreat
namespace Ns
set_option linter.unusedVariables false
open Go.ChangeShapes Go.WideShapes Go.ChangeAt Go.RowKit Cm Ka Kb Na Nb Nc Nd Nse Nl Nr
open La (bel bel_drew errV_zero errV_ne own_ge own_grow own_below)

/- a row of the call's own that is filled cell by cell -/
def Fill (w : World) (g n : Nat) (F : Nat → Value) (k : Nat) (wr : World) : Prop :=
  (∀ j, j < k → wr.cell? ⟨g, j, none⟩ = some (F j)) ∧ (∀ j, j < n → ∃ v, wr.cell? ⟨g, j, none⟩ = some v) ∧ (∀ j, wr.frozen? ⟨g, j, none⟩ = false) ∧ Below w.heap.size w wr ∧ w.heap.size ≤ g
theorem Fill.start {w w1 : World} {t : TypeId} {F : Nat → Value} {n cap : Nat} {g : Nat} {xs : List Value} (hg : w.heap.size ≤ g) (h : w1.ownsRow g t 1 (.slice (some ⟨g, 0, none⟩) n cap) n xs) (hb : Below w.heap.size w w1) : Fill w g n F 0 w1 := by
  refine ⟨fun j hj => absurd hj (by omega), ?_, ?_, hb, hg⟩
  · intro j hj
    rcases h.2 with ⟨e, _⟩ | ⟨g', cap', cur, e, _, h2, h3, h4, h5, h6⟩
    · cases e
    · injection e with e1
      injection e1 with e1
      injection e1 with e1
      subst e1
      refine ⟨cur[j]'(by omega), ?_⟩
      simp only [World.cell?, h2]
      simp [show j < cur.size by omega]
  · intro j
    rcases h.2 with ⟨e, _⟩ | ⟨g', cap', cur, e, _, h2, h3, h4, h5, h6⟩
    · cases e
    · injection e with e1
      injection e1 with e1
      injection e1 with e1
      subst e1
      simp [World.frozen?, h2]
theorem Fill.step {w wr : World} {g n k : Nat} {F : Nat → Value} (h : Fill w g n F k wr) (hk : k < n) (v : Value) (hv : v = F k) : Fill w g n F (k + 1) (wr.setCell ⟨g, k, none⟩ v) := by
  obtain ⟨h1, h2, h3, h4, h5⟩ := h
  refine ⟨fun j hj => ?_, fun j hj => ?_, fun j => ?_, h4.setCell (p := ⟨g, k, none⟩) h5 _, h5⟩
  · by_cases e : j = k
    · subst e
      obtain ⟨u, hu⟩ := h2 j hk
      rw [World.cell?_setCell_same _ _ _ hu, hv]
    · rw [World.cell?_setCell_other _ _ _ _ (by intro e2; injection e2; omega)]
      exact h1 j (by omega)
  · obtain ⟨u, hu⟩ := h2 j hj
    exact cell?_setCell_some hu
  · rw [World.frozen?_setCell]; exact h3 j
theorem Fill.below {w wr w2 : World} {g n k : Nat} {F : Nat → Value} (h : Fill w g n F k wr) (hg : g < wr.heap.size) (hb : Below wr.heap.size wr w2) : Fill w g n F k w2 := by
  obtain ⟨h1, h2, h3, h4, h5⟩ := h
  refine ⟨fun j hj => ?_, fun j hj => ?_, fun j => ?_, bel h4 hb, h5⟩
  · rw [hb.cell (p := ⟨g, j, none⟩) hg]; exact h1 j hj
  · rw [hb.cell (p := ⟨g, j, none⟩) hg]; exact h2 j hj
  · rw [hb.frozen (p := ⟨g, j, none⟩) hg]; exact h3 j
theorem Fill.drew {w wr : World} {g n k : Nat} {F : Nat → Value} (h : Fill w g n F k wr) (q : Nat) : Fill w g n F k (wr.drewN q) :=
  ⟨h.1, h.2.1, h.2.2.1, bel_drew h.2.2.2.1 q, h.2.2.2.2⟩
theorem Fill.drew1 {w wr : World} {g n k : Nat} {F : Nat → Value} (h : Fill w g n F k wr) : Fill w g n F k wr.drew :=
  ⟨h.1, h.2.1, h.2.2.1, h.2.2.2.1.drew, h.2.2.2.2⟩
theorem Fill.lt {w wr : World} {g n k : Nat} {F : Nat → Value} (h : Fill w g n F k wr) (hn : 0 < n) : g < wr.heap.size := by
  obtain ⟨v, hv⟩ := h.2.1 0 hn
  exact World.block_lt_of_cell? _ _ hv

theorem made_lt {w2 : World} {g n : Nat} {t : TypeId} {xs : List Value} (h : w2.ownsRow g t 1 (.slice (some ⟨g, 0, none⟩) n n) n xs) : g < w2.heap.size := by
  rcases h.2 with ⟨e, _⟩ | ⟨g', cap', cur, e, _, h2, _⟩
  · cases e
  · injection e with e1
    injection e1 with e1
    injection e1 with e1
    subst e1
    rcases Nat.lt_or_ge g w2.heap.size with e | e
    · exact e
    · rw [Array.getElem?_eq_none e] at h2; cases h2
theorem infoStr : (Tryz.prog.info? 9).map (fun i => (i.zero, i.size, i.bytes)) = some (some (.string ⟨#[]⟩), 1, 16) := by kernel_rfl
def names (l : List Mk) : List ByteArray := l.map (·.1)
theorem names_get {l : List Mk} {j : Nat} (hj : j < l.length) : (names l).getD j noS = (l.getD j none1).1 := by
  unfold names
  rw [List.getD_eq_getElem?_getD, List.getElem?_map, List.getD_eq_getElem?_getD, List.getElem?_eq_getElem hj]; rfl
def placesOf (l : List Mk) : List ByteArray := if marksE l = 0 then compTo (names l) l.length else []

set_option maxRecDepth 100000 in
set_option maxHeartbeats 2000000 in
theorem places_ok (q : Option Addr) (n c : Nat) (l : List Mk) (w : World) (hA : MksAt w (.slice q n c) l) (hs : ∀ x ∈ l, x.1.size ≤ maxLen) (h0 : marksE l = 0) :
    Calls Tryz.prog 43 #[.slice q n c] w fun e w' => ∃ v', e = .returned (.tuple #[v', .nilIface]) ∧ StsAt w' v' (compTo (names l) l.length) ∧ Below w.heap.size w w' := by
  have C := checkM_any _ l w hA hs
  rw [h0, errV_zero] at C
  obtain ⟨hl40, _, _⟩ := marksE_zero.1 h0
  obtain ⟨q', c', hv, hlf, hcc, hcm, _⟩ := hA
  injection hv with hv1 hv2 hv3
  subst hv1 hv3
  have hn40 : n ≤ 40 := by omega
  have HL : Hid (l.length = n) := hv2.symm
  have HI : Hid (MarksIn w q l) := hlf
  obtain ⟨i0, hi, hz0, hz1, hz2⟩ := info_parts infoStr
  have hby : i0.bytes * n ≤ 281474976710656 := by rw [hz2]; omega
  have hml : n ≤ maxLen := by unfold maxLen; omega
  clear hs h0 hl40 hlf hcc hcm hv2
  go_enter Tryz.func43, Tryz.ntmps43
  go_wp2_with fail
  refine C.mono ?_
  rintro e w1 ⟨rfl, hb1⟩
  have HB1 : Hid (Below w.heap.size w w1) := hb1
  clear hb1 C
  go_wp2_with (at_make; refine wpList_make_full _ rfl (.tmp 14) (.tmp 14) 71 rfl w1.heap.size 9 i0 (.string ⟨#[]⟩) 1 Tryz.underlying71 hi hz0 hz1 .i64 .i64 (n : Int) (n : Int) n rfl rfl rfl rfl hby hml (Nat.le_refl _) ?_; intro w2 hown hgrow; have HF : Hid (Fill w w1.heap.size n (fun j => .string (l.getD j none1).1) 0 w2) := Fill.start HB1.out.size hown (HB1.out.grown hgrow HB1.out.size (fun k hk => by cases hk)); have HGL : Hid (w1.heap.size < w2.heap.size) := made_lt hown; clear hown hgrow)
  obtain ⟨g, hgg⟩ : ∃ g, g = w1.heap.size := ⟨_, rfl⟩
  rw [← hgg] at HF HGL
  rw [← hgg]
  clear hgg
  go_loopw [18] (fun vi wr => ∃ k : Nat, k ≤ n ∧ vi = .int .i64 k ∧ Hid (Fill w g n (fun j => .string (l.getD j none1).1) k wr) ∧ Hid (g < wr.heap.size)) (fun vi _ => n - (intOf vi).toNat)
  case atStart => exact ⟨0, by omega, rfl, HF, HGL⟩
  case round =>
    clear HF HGL
    obtain ⟨k, hk, rfl, HF, HGL⟩ := hrel
    by_cases hlt : k < n
    · have hltz : (k : Int) < n := by omega
      obtain ⟨b, o, rfl, hc⟩ := HI.out.some (by intro e; have := HL.out; rw [e] at this; simp at this; omega)
      have hkl : k < l.length := by rw [HL.out]; exact hlt
      have ha := (hc k hkl).below HF.out.2.2.2.1 (hc k hkl).lt
      obtain ⟨x, hx⟩ : ∃ x, x = l.getD k none1 := ⟨_, rfl⟩
      rw [← hx] at ha
      have HX : Hid (x = l.getD k none1) := hx
      obtain ⟨sx, x1, x2⟩ := x
      obtain ⟨a1, a2, a3⟩ := ha
      simp only at a1 a2 a3
      have HF1 : Hid (Fill w g n (fun j => .string (l.getD j none1).1) k (wr.alloc (.cells #[.string sx, .int .i64 x1, .int .i64 x2] 82))) := HF.out.below HGL.out ((Below.refl _ wr).alloc (Nat.le_refl _) _)
      obtain ⟨u, hu⟩ := HF1.out.2.1 k hlt
      have hf := HF1.out.2.2.1 k
      have HF2 : Hid (Fill w g n (fun j => .string (l.getD j none1).1) (k + 1) ((wr.alloc (.cells #[.string sx, .int .i64 x1, .int .i64 x2] 82)).setCell ⟨g, k, none⟩ (.string sx))) := HF1.out.step hlt _ (by rw [← HX.out])
      have HGL2 : Hid (g < ((wr.alloc (.cells #[.string sx, .int .i64 x1, .int .i64 x2] 82)).setCell ⟨g, k, none⟩ (.string sx)).heap.size) := by have := HGL.out; unfold Hid; simp; omega
      clear hc hx HF HF1
      go_wp2_with fail
      go_roundw
      case rel => exact ⟨k + 1, by omega, by go_num, HF2, HGL2⟩
      case measure => simp [intOf]; omega
    · obtain rfl : k = n := by omega
      have C2 := compact_any w wr g k k (names l) (by unfold names; rw [List.length_map]; exact HL.out) (fun j hj => by
          unfold names at hj; rw [List.length_map, HL.out] at hj
          rw [HF.out.1 j hj, names_get (by rw [HL.out]; exact hj)]) HF.out.2.2.1 HF.out.2.2.2.2 HF.out.2.2.2.1 (by omega) (Nat.le_refl _) (by omega)
      go_wp2_with fail
      refine C2.mono ?_
      rintro e w3 ⟨v3, rfl, hk3, hb3⟩
      have HB3 : Hid (Below w.heap.size w w3) := hb3
      have HK3 : Hid (StsAt w3 v3 (compTo (names l) l.length)) := by unfold Hid; rw [HL.out]; exact hk3
      clear C2 hk3 hb3
      go_wp2_with fail
      go_ret2
      exact ⟨_, rfl, HK3.out, HB3.out⟩

theorem places_any (v : Value) (l : List Mk) (w : World) (h : MksAt w v l) (hs : ∀ x ∈ l, x.1.size ≤ maxLen) :
    Calls Tryz.prog 43 #[v] w fun e w' => ∃ v', e = .returned (.tuple #[v', errV (marksE l)]) ∧ StsAt w' v' (placesOf l) ∧ Below w.heap.size w w' := by
  by_cases h0 : marksE l = 0
  · have e : placesOf l = compTo (names l) l.length := by unfold placesOf; rw [if_pos h0]
    rw [h0, e, errV_zero]
    have h2 := h
    obtain ⟨q, c, rfl, _⟩ := h2
    exact places_ok q _ c l w h hs h0
  · have e : placesOf l = [] := by unfold placesOf; rw [if_neg h0]
    have C := checkM_any v l w h hs
    rw [e]
    obtain ⟨z, hz⟩ : ∃ z, z = marksE l := ⟨_, rfl⟩
    rw [errV_ne h0, ← hz] at C ⊢
    clear h hs h0 e hz
    go_enter Tryz.func43, Tryz.ntmps43
    go_wp2_with fail
    refine C.mono ?_
    rintro e w1 ⟨rfl, hb1⟩
    have HB1 : Hid (Below w.heap.size w w1) := hb1
    clear hb1 C
    go_wp2_with fail
    go_ret2
    exact ⟨_, rfl, StsAt.nil _, HB1.out⟩

end Ns
end Go.Proofs.YtllcmfbkingfdaaGreat
