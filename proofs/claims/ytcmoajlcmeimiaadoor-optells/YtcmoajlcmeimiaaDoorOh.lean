/- What the reference's Decode answers. -/
import Derived.Test.YtcmoajlcmeimiaaDoorOi
import Derived.Test.YtcmoajlcmeimiaaDoorOe
import Derived.Test.YtcmoajlcmeimiaaDoorOb
namespace Go.Proofs.YtcmoajlcmeimiaaDoor
namespace Oh
set_option linter.unusedVariables false
open Go.ChangeShapes Go.WideShapes Go.ChangeAt Go.RowKit Cm Ka Kb Na Om Oa Oz Oc Od Oe Og Oi Ob
open La (bel bel_drew errV_zero errV_ne own_ge own_grow own_below)

def Z6 : Array Value := #[.int .i64 0, .int .i64 0, .int .i64 0, .string ⟨#[]⟩, .int .i64 0, .slice none 0 0]
theorem two_boxes {w w5 : World} {A B : Array Value} {t : TypeId} (hb : Below ((w.alloc (.cells A t)).alloc (.cells B t)).heap.size ((w.alloc (.cells A t)).alloc (.cells B t)) w5) :
    w5.heap[w.heap.size]? = some (.cells A t (0, 0)) ∧ w5.heap[w.heap.size + 1]? = some (.cells B t (0, 0)) ∧ Below w.heap.size w w5 ∧ w.heap.size + 2 ≤ w5.heap.size := by
  refine ⟨?_, ?_, bel (((Below.refl _ w).alloc (Nat.le_refl _) _).alloc (by simp) _) hb, ?_⟩
  · rw [hb.block _ (by simp; omega)]
    have := heap_alloc_old (w.alloc (.cells A t)) (.cells B t) (show w.heap.size < _ by simp)
    exact this.trans (heap_alloc_new w _)
  · rw [hb.block _ (by simp)]
    have := heap_alloc_new (w.alloc (.cells A t)) (.cells B t)
    rwa [show (w.alloc (.cells A t)).heap.size = w.heap.size + 1 by simp] at this
  · have := hb.size
    simp at this
    omega
/- six cells of one block are written -/
def six6 (w : World) (g : Nat) (x0 x1 x2 x3 x4 x5 : Value) : World := (((((w.setCell ⟨g, 0, none⟩ x0).setCell ⟨g, 1, none⟩ x1).setCell ⟨g, 2, none⟩ x2).setCell ⟨g, 3, none⟩ x3).setCell ⟨g, 4, none⟩ x4).setCell ⟨g, 5, none⟩ x5
theorem six6_block (w : World) (g : Nat) (x0 x1 x2 x3 x4 x5 : Value) (k : Nat) (h : k ≠ g) : (six6 w g x0 x1 x2 x3 x4 x5).heap[k]? = w.heap[k]? := by
  unfold six6
  rw [set_block _ _ _ _ h, set_block _ _ _ _ h, set_block _ _ _ _ h, set_block _ _ _ _ h, set_block _ _ _ _ h, set_block _ _ _ _ h]
theorem six6_size (w : World) (g : Nat) (x0 x1 x2 x3 x4 x5 : Value) : (six6 w g x0 x1 x2 x3 x4 x5).heap.size = w.heap.size := by
  simp [six6, World.setCell]
theorem six6_below {w0 w : World} {g B : Nat} (hb : Below B w0 w) (hg : B ≤ g) (x0 x1 x2 x3 x4 x5 : Value) : Below B w0 (six6 w g x0 x1 x2 x3 x4 x5) :=
  (((((hb.setCell (p := ⟨g, 0, none⟩) hg x0).setCell (p := ⟨g, 1, none⟩) hg x1).setCell (p := ⟨g, 2, none⟩) hg x2).setCell (p := ⟨g, 3, none⟩) hg x3).setCell (p := ⟨g, 4, none⟩) hg x4).setCell (p := ⟨g, 5, none⟩) hg x5
theorem keep_heap {W W' : World} {k : Nat} {o : Obj} (hb : Below W.heap.size W W') (h : W.heap[k]? = some o) : W'.heap[k]? = some o := by
  rw [hb.block k (by
    rcases Nat.lt_or_ge k W.heap.size with e | e
    · exact e
    · rw [Array.getElem?_eq_none e] at h; cases h)]
  exact h
set_option maxRecDepth 100000 in
set_option maxHeartbeats 4000000 in
theorem decode_ref (s : ByteArray) (w : World) (hs : s.size ≤ maxLen) :
    Calls Tryd.prog 25 #[.string s] w fun e w' => ∃ u, e = .returned (.tuple #[u, .bool (decB s.toList).isSome]) ∧ Kept w.heap.size w' u ((decB s.toList).getD oz) ∧ Below w.heap.size w w' := by
  have hm := hs
  unfold maxLen at hm
  by_cases h5 : s.size < 5
  · have HE : Hid (decB s.toList = none) := by unfold Hid decB; rw [if_pos (Or.inl (by rw [Om.len_eq]; exact h5))]
    have hz : (s.size : Int) < 5 := by omega
    go_enter Tryd.func25, Tryd.ntmps25
    go_wp2_with fail
    refine bodyPost_ret (v := .tuple #[opV oz (.slice none 0 0), .bool false]) ?_ rfl ⟨_, by rw [HE.out]; rfl, by rw [HE.out]; exact fun W _ => ⟨_, rfl, DtsAt.nil _⟩, ?_⟩
    · simp [results, Tryd.results25, opV, oz, go_sem, asAddr, Result.andThen]
      rfl
    · exact (Below.refl _ w).alloc (Nat.le_refl _) _
  have h4 : 4 < s.size := by omega
  have h0 : 0 < s.size := by omega
  have h1 : 1 < s.size := by omega
  have hb4 : s[4].toNat < 256 := UInt8.toNat_lt _
  have hz : ¬ (s.size : Int) < 5 := by omega
  by_cases h6 : s.size < 5 + s[4].toNat
  · have HE : Hid (decB s.toList = none) := by unfold Hid decB; rw [if_pos (Or.inr (by rw [Om.len_eq, at_list s 4 h4]; exact h6))]
    have hz2 : (s.size : Int) < 5 + (s[4].toNat : Int) := by omega
    go_enter Tryd.func25, Tryd.ntmps25
    go_wp2_with fail
    refine bodyPost_ret (v := .tuple #[opV oz (.slice none 0 0), .bool false]) ?_ rfl ⟨_, by rw [HE.out]; rfl, by rw [HE.out]; exact fun W _ => ⟨_, rfl, DtsAt.nil _⟩, ?_⟩
    · simp [results, Tryd.results25, opV, oz, go_sem, asAddr, Result.andThen]
      rfl
    · exact (Below.refl _ w).alloc (Nat.le_refl _) _
  have hz2 : ¬ (s.size : Int) < 5 + (s[4].toNat : Int) := by omega
  have hb0 : s[0].toNat < 256 := UInt8.toNat_lt _
  have hb1 : s[1].toNat < 256 := UInt8.toNat_lt _
  obtain ⟨E, hE⟩ : ∃ E : Nat, (5 : Int) + (s[4].toNat : Int) = (E : Int) := ⟨5 + s[4].toNat, by omega⟩
  have hE5 : 5 ≤ E := by omega
  have hEs : E ≤ s.size := by omega
  have hE5z : (5 : Int) ≤ E := by omega
  have hEsz : (E : Int) ≤ s.size := by omega
  obtain ⟨t, ht⟩ : ∃ t : Int, (s[0].toNat : Int) = t := ⟨_, rfl⟩
  obtain ⟨a, ha⟩ : ∃ a : Int, (s[1].toNat : Int) = a := ⟨_, rfl⟩
  obtain ⟨b, hb⟩ : ∃ b : Int, ((numAt s.toList 2 : Nat) : Int) = b := ⟨_, rfl⟩
  obtain ⟨P, hP⟩ : ∃ P, s.extract 5 E = P := ⟨_, rfl⟩
  obtain ⟨R0, hR⟩ : ∃ R0, s.extract E s.size = R0 := ⟨_, rfl⟩
  have HRD := read_of s E a b t P R0 h4 hE ht ha hb hP hR hEs
  have hRs : R0.size = s.size - E := by rw [← hR, size_extract s E s.size (Nat.le_refl _)]
  have hPm : P.size ≤ maxLen := by rw [← hP, size_extract s 5 E hEs]; omega
  have hRm : R0.size ≤ maxLen := by omega
  have CN := fun W => number_ref s 2 W (by omega) hs
  rw [hb] at CN
  clear hb
  have HSZ : Hid (R0.size = s.size - E) := hRs
  clear hRs
  by_cases hr0 : R0.size = 0
  · have hrl : R0.toList = [] := List.eq_nil_of_length_eq_zero (by rw [Om.len_eq]; exact hr0)
    have hrz : ¬ (0 : Int) < R0.size := by omega
    have HX : Hid (readB s.toList = ((a, b), t, P, 0, [])) := by
      unfold Hid; rw [HRD, hrl]; unfold letterIn seenIn
      simp [threes]
    clear HRD hrl
    by_cases t1 : t = 1
    · have t1b : (t == 1) = true := by simpa using t1
      have t4b : (t == 4) = false := by rw [t1]; rfl
      clear t1
      go_enter Tryd.func25, Tryd.ntmps25
      go_wp2_with fail
      refine (CN _).mono ?_
      rintro e w5 ⟨rfl, hb5⟩
      obtain ⟨hr5, ho5, hbb5, hsz5⟩ := two_boxes hb5
      have KR5 : Hid (w5.heap[w.heap.size]? = some (.cells Z6 53 (0, 0))) := hr5
      have O : Hid (w5.heap[w.heap.size + 1]? = some (.cells #[.int .i64 a, .int .i64 0, .int .i64 t, .string ⟨#[]⟩, .int .i64 0, .slice none 0 0] 53 (0, 0))) := ho5
      have K5 : Hid (Below w.heap.size w w5) := hbb5
      have HZ5 : Hid (w.heap.size + 2 ≤ w5.heap.size) := hsz5
      clear hb5 hr5 ho5 hbb5 hsz5 CN
      have o0 : w5.cell? ⟨w.heap.size + 1, 0, none⟩ = some (.int .i64 a) := cell_of O.out rfl
      have o1 : w5.cell? ⟨w.heap.size + 1, 1, none⟩ = some (.int .i64 0) := cell_of O.out rfl
      have o2 : w5.cell? ⟨w.heap.size + 1, 2, none⟩ = some (.int .i64 t) := cell_of O.out rfl
      have o3 : w5.cell? ⟨w.heap.size + 1, 3, none⟩ = some (.string ⟨#[]⟩) := cell_of O.out rfl
      have o4 : w5.cell? ⟨w.heap.size + 1, 4, none⟩ = some (.int .i64 0) := cell_of O.out rfl
      have o5 : w5.cell? ⟨w.heap.size + 1, 5, none⟩ = some (.slice none 0 0) := cell_of O.out rfl
      have fo0 : w5.frozen? ⟨w.heap.size + 1, 0, none⟩ = false := free_of O.out
      have fo1 : w5.frozen? ⟨w.heap.size + 1, 1, none⟩ = false := free_of O.out
      have fo2 : w5.frozen? ⟨w.heap.size + 1, 2, none⟩ = false := free_of O.out
      have fo3 : w5.frozen? ⟨w.heap.size + 1, 3, none⟩ = false := free_of O.out
      have fo4 : w5.frozen? ⟨w.heap.size + 1, 4, none⟩ = false := free_of O.out
      have fo5 : w5.frozen? ⟨w.heap.size + 1, 5, none⟩ = false := free_of O.out
      go_wp2_with fail
      have KO5 : Hid ((((w5.setCell ⟨w.heap.size + 1, 1, none⟩ (.int .i64 b)).setCell ⟨w.heap.size + 1, 3, none⟩ (.string P))).heap[w.heap.size + 1]? = some (.cells #[.int .i64 a, .int .i64 b, .int .i64 t, .string P, .int .i64 0, .slice none 0 0] 53 (0, 0))) := setCell_heap (setCell_heap O.out)
      have KR7 : Hid ((((w5.setCell ⟨w.heap.size + 1, 1, none⟩ (.int .i64 b)).setCell ⟨w.heap.size + 1, 3, none⟩ (.string P))).heap[w.heap.size]? = some (.cells Z6 53 (0, 0))) := by unfold Hid; rw [set_block _ _ _ _ (by simp), set_block _ _ _ _ (by simp)]; exact KR5.out
      have K75 : Hid (Below w.heap.size w (((w5.setCell ⟨w.heap.size + 1, 1, none⟩ (.int .i64 b)).setCell ⟨w.heap.size + 1, 3, none⟩ (.string P)))) := (K5.out.setCell (p := ⟨w.heap.size + 1, 1, none⟩) (by simp) _).setCell (p := ⟨w.heap.size + 1, 3, none⟩) (by simp) _
      obtain ⟨w7, hw7⟩ : ∃ w7, w7 = ((w5.setCell ⟨w.heap.size + 1, 1, none⟩ (.int .i64 b)).setCell ⟨w.heap.size + 1, 3, none⟩ (.string P)) := ⟨_, rfl⟩
      rw [← hw7] at KO5 KR7 K75
      rw [← hw7]
      have KO := KO5
      have KR := KR7
      have K7 := K75
      have HV : Hid (∀ W, (∀ k, w.heap.size + 2 ≤ k → k < w7.heap.size → W.heap[k]? = w7.heap[k]?) → DtsAt W (.slice none 0 0) []) := fun W _ => DtsAt.nil W
      clear KO5 KR7 K75 KR5 K5 O o0 o1 o2 o3 o4 o5 fo0 fo1 fo2 fo3 fo4 fo5 hw7
      have CO := op_ref a b t P (0) (.slice none 0 0) ([]) w7 hPm (HV.out w7 (fun _ _ _ => rfl))
      by_cases hop : opE ((a, b), t, P, 0, []) = 0
      case neg =>
        have HE : Hid (decB s.toList = none) := by
          unfold Hid decB
          split
          · rfl
          · rw [HX.out, if_neg (fun e => hop e.1)]
        obtain ⟨q, hq⟩ : ∃ q, q = opE ((a, b), t, P, 0, []) := ⟨_, rfl⟩
        have hqn : (q != 0) = true := by rw [hq]; simpa using hop
        rw [← hq] at CO
        clear hq hop
        refine CO.mono ?_
        rintro e w8 ⟨rfl, hb8⟩
        have KB8 : Hid (Below w.heap.size w w8) := bel K7.out hb8
        have R : Hid (w8.heap[w.heap.size]? = some (.cells Z6 53 (0, 0))) := keep_heap hb8 KR.out
        have r0 : w8.cell? ⟨w.heap.size, 0, none⟩ = some (.int .i64 0) := cell_of R.out rfl
        have r1 : w8.cell? ⟨w.heap.size, 1, none⟩ = some (.int .i64 0) := cell_of R.out rfl
        have r2 : w8.cell? ⟨w.heap.size, 2, none⟩ = some (.int .i64 0) := cell_of R.out rfl
        have r3 : w8.cell? ⟨w.heap.size, 3, none⟩ = some (.string ⟨#[]⟩) := cell_of R.out rfl
        have r4 : w8.cell? ⟨w.heap.size, 4, none⟩ = some (.int .i64 0) := cell_of R.out rfl
        have r5 : w8.cell? ⟨w.heap.size, 5, none⟩ = some (.slice none 0 0) := cell_of R.out rfl
        have fr0 : w8.frozen? ⟨w.heap.size, 0, none⟩ = false := free_of R.out
        have fr1 : w8.frozen? ⟨w.heap.size, 1, none⟩ = false := free_of R.out
        have fr2 : w8.frozen? ⟨w.heap.size, 2, none⟩ = false := free_of R.out
        have fr3 : w8.frozen? ⟨w.heap.size, 3, none⟩ = false := free_of R.out
        have fr4 : w8.frozen? ⟨w.heap.size, 4, none⟩ = false := free_of R.out
        have fr5 : w8.frozen? ⟨w.heap.size, 5, none⟩ = false := free_of R.out
        clear hb8 CO
        go_wp2_with fail
        refine bodyPost_ret (v := .tuple #[opV oz (.slice none 0 0), .bool false]) ?_ rfl ⟨_, by rw [HE.out]; rfl, by rw [HE.out]; exact fun W _ => ⟨_, rfl, DtsAt.nil _⟩, ?_⟩
        · simp [results, Tryd.results25, opV, oz, go_sem, asAddr, Result.andThen, r0, r1, r2, r3, r4, r5]
          rfl
        · exact six6_below KB8.out (Nat.le_refl _) _ _ _ _ _ _
      rw [hop] at CO
      refine CO.mono ?_
      rintro e w8 ⟨rfl, hb8⟩
      have KB8 : Hid (Below w.heap.size w w8) := bel K7.out hb8
      have KR8 : Hid (w8.heap[w.heap.size]? = some (.cells Z6 53 (0, 0))) := keep_heap hb8 KR.out
      have O : Hid (w8.heap[w.heap.size + 1]? = some (.cells #[.int .i64 a, .int .i64 b, .int .i64 t, .string P, .int .i64 (0), .slice none 0 0] 53 (0, 0))) := keep_heap hb8 KO.out
      have HS8 : Hid (w7.heap.size ≤ w8.heap.size) := hb8.size
      have HK8 : Hid (∀ k, k < w7.heap.size → w8.heap[k]? = w7.heap[k]?) := hb8.block
      have o0 : w8.cell? ⟨w.heap.size + 1, 0, none⟩ = some (.int .i64 a) := cell_of O.out rfl
      have o1 : w8.cell? ⟨w.heap.size + 1, 1, none⟩ = some (.int .i64 b) := cell_of O.out rfl
      have o2 : w8.cell? ⟨w.heap.size + 1, 2, none⟩ = some (.int .i64 t) := cell_of O.out rfl
      have o3 : w8.cell? ⟨w.heap.size + 1, 3, none⟩ = some (.string P) := cell_of O.out rfl
      have o4 : w8.cell? ⟨w.heap.size + 1, 4, none⟩ = some (.int .i64 (0)) := cell_of O.out rfl
      have o5 : w8.cell? ⟨w.heap.size + 1, 5, none⟩ = some (.slice none 0 0) := cell_of O.out rfl
      have CB := bytes_ref a b t P (0) (.slice none 0 0) ([]) w8 (HV.out w8 (fun k _ hk => HK8.out k hk)) hop
      obtain ⟨T8, hT8⟩ : ∃ T8, T8 = bytesS ((a, b), t, P, 0, []) := ⟨_, rfl⟩
      rw [← hT8] at CB
      have HT8 : Hid (T8.toList = bytesB ((a, b), t, P, 0, [])) := by unfold Hid; rw [hT8, bytesS_list]
      have HOP : Hid (opE ((a, b), t, P, 0, []) = 0) := hop
      clear hb8 CO hT8 hop
      go_wp2_with fail
      refine CB.mono ?_
      rintro e w9 ⟨rfl, hb9⟩
      have KB9 : Hid (Below w.heap.size w w9) := bel KB8.out hb9
      have R : Hid (w9.heap[w.heap.size]? = some (.cells Z6 53 (0, 0))) := keep_heap hb9 KR8.out
      have r0 : w9.cell? ⟨w.heap.size, 0, none⟩ = some (.int .i64 0) := cell_of R.out rfl
      have r1 : w9.cell? ⟨w.heap.size, 1, none⟩ = some (.int .i64 0) := cell_of R.out rfl
      have r2 : w9.cell? ⟨w.heap.size, 2, none⟩ = some (.int .i64 0) := cell_of R.out rfl
      have r3 : w9.cell? ⟨w.heap.size, 3, none⟩ = some (.string ⟨#[]⟩) := cell_of R.out rfl
      have r4 : w9.cell? ⟨w.heap.size, 4, none⟩ = some (.int .i64 0) := cell_of R.out rfl
      have r5 : w9.cell? ⟨w.heap.size, 5, none⟩ = some (.slice none 0 0) := cell_of R.out rfl
      have fr0 : w9.frozen? ⟨w.heap.size, 0, none⟩ = false := free_of R.out
      have fr1 : w9.frozen? ⟨w.heap.size, 1, none⟩ = false := free_of R.out
      have fr2 : w9.frozen? ⟨w.heap.size, 2, none⟩ = false := free_of R.out
      have fr3 : w9.frozen? ⟨w.heap.size, 3, none⟩ = false := free_of R.out
      have fr4 : w9.frozen? ⟨w.heap.size, 4, none⟩ = false := free_of R.out
      have fr5 : w9.frozen? ⟨w.heap.size, 5, none⟩ = false := free_of R.out
      have KO9 : Hid (w9.heap[w.heap.size + 1]? = some (.cells #[.int .i64 a, .int .i64 b, .int .i64 t, .string P, .int .i64 (0), .slice none 0 0] 53 (0, 0))) := keep_heap hb9 O.out
      have HK9 : Hid (∀ k, w.heap.size + 2 ≤ k → k < w7.heap.size → w9.heap[k]? = w7.heap[k]?) := fun k _ hk => (hb9.block k (Nat.lt_of_lt_of_le hk HS8.out)).trans (HK8.out k hk)
      have HS9 : Hid (w7.heap.size ≤ w9.heap.size) := Nat.le_trans HS8.out hb9.size
      clear o0 o1 o2 o3 o4 o5
      have x0 : w9.cell? ⟨w.heap.size + 1, 0, none⟩ = some (.int .i64 a) := cell_of KO9.out rfl
      have x1 : w9.cell? ⟨w.heap.size + 1, 1, none⟩ = some (.int .i64 b) := cell_of KO9.out rfl
      have x2 : w9.cell? ⟨w.heap.size + 1, 2, none⟩ = some (.int .i64 t) := cell_of KO9.out rfl
      have x3 : w9.cell? ⟨w.heap.size + 1, 3, none⟩ = some (.string P) := cell_of KO9.out rfl
      have x4 : w9.cell? ⟨w.heap.size + 1, 4, none⟩ = some (.int .i64 (0)) := cell_of KO9.out rfl
      have x5 : w9.cell? ⟨w.heap.size + 1, 5, none⟩ = some (.slice none 0 0) := cell_of KO9.out rfl
      clear CB hb9
      by_cases hes : T8.toList = s.toList
      · have HE : Hid (decB s.toList = some ((a, b), t, P, 0, [])) := decB_iff.2 ⟨HOP.out, by rw [← HT8.out]; exact hes⟩
        have hesb : (T8.toList == s.toList) = true := by simpa using hes
        have HV9 : Hid (∀ x0 x1 x2 x3 x4 x5 W, (∀ k, w.heap.size ≤ k → k < (six6 w9 w.heap.size x0 x1 x2 x3 x4 x5).heap.size → W.heap[k]? = (six6 w9 w.heap.size x0 x1 x2 x3 x4 x5).heap[k]?) → DtsAt W (.slice none 0 0) ([])) := fun x0 x1 x2 x3 x4 x5 W hW => HV.out _ (fun k hk1 hk2 => (hW k (by omega) (by rw [six6_size]; exact Nat.lt_of_lt_of_le hk2 HS9.out)).trans ((six6_block _ _ _ _ _ _ _ _ _ (by omega)).trans (HK9.out k hk1 hk2)))
        clear hes
        go_wp2_with fail
        refine bodyPost_ret (v := .tuple #[opV ((a, b), t, P, 0, []) (.slice none 0 0), .bool true]) ?_ rfl ⟨_, by rw [HE.out]; rfl, by rw [HE.out]; exact fun W hW => ⟨_, rfl, HV9.out _ _ _ _ _ _ W hW⟩, ?_⟩
        · simp [results, Tryd.results25, opV, go_sem, asAddr, Result.andThen, r0, r1, r2, r3, r4, r5]
        · exact six6_below KB9.out (Nat.le_refl _) _ _ _ _ _ _
      · have HE : Hid (decB s.toList = none) := by
          unfold Hid decB
          split
          · rfl
          · rw [HX.out, if_neg (fun e => hes (HT8.out.trans e.2))]
        have hesb : (T8.toList == s.toList) = false := by simpa using hes
        clear hes
        go_wp2_with fail
        refine bodyPost_ret (v := .tuple #[opV oz (.slice none 0 0), .bool false]) ?_ rfl ⟨_, by rw [HE.out]; rfl, by rw [HE.out]; exact fun W _ => ⟨_, rfl, DtsAt.nil _⟩, ?_⟩
        · simp [results, Tryd.results25, opV, oz, go_sem, asAddr, Result.andThen, r0, r1, r2, r3, r4, r5]
          rfl
        · exact six6_below KB9.out (Nat.le_refl _) _ _ _ _ _ _
    · have t1b : (t == 1) = false := by simpa using t1
      clear t1
      by_cases t4 : t = 4
      · have t4b : (t == 4) = true := by simpa using t4
        clear t4
        go_enter Tryd.func25, Tryd.ntmps25
        go_wp2_with fail
        refine (CN _).mono ?_
        rintro e w5 ⟨rfl, hb5⟩
        obtain ⟨hr5, ho5, hbb5, hsz5⟩ := two_boxes hb5
        have KR5 : Hid (w5.heap[w.heap.size]? = some (.cells Z6 53 (0, 0))) := hr5
        have O : Hid (w5.heap[w.heap.size + 1]? = some (.cells #[.int .i64 a, .int .i64 0, .int .i64 t, .string ⟨#[]⟩, .int .i64 0, .slice none 0 0] 53 (0, 0))) := ho5
        have K5 : Hid (Below w.heap.size w w5) := hbb5
        have HZ5 : Hid (w.heap.size + 2 ≤ w5.heap.size) := hsz5
        clear hb5 hr5 ho5 hbb5 hsz5 CN
        have o0 : w5.cell? ⟨w.heap.size + 1, 0, none⟩ = some (.int .i64 a) := cell_of O.out rfl
        have o1 : w5.cell? ⟨w.heap.size + 1, 1, none⟩ = some (.int .i64 0) := cell_of O.out rfl
        have o2 : w5.cell? ⟨w.heap.size + 1, 2, none⟩ = some (.int .i64 t) := cell_of O.out rfl
        have o3 : w5.cell? ⟨w.heap.size + 1, 3, none⟩ = some (.string ⟨#[]⟩) := cell_of O.out rfl
        have o4 : w5.cell? ⟨w.heap.size + 1, 4, none⟩ = some (.int .i64 0) := cell_of O.out rfl
        have o5 : w5.cell? ⟨w.heap.size + 1, 5, none⟩ = some (.slice none 0 0) := cell_of O.out rfl
        have fo0 : w5.frozen? ⟨w.heap.size + 1, 0, none⟩ = false := free_of O.out
        have fo1 : w5.frozen? ⟨w.heap.size + 1, 1, none⟩ = false := free_of O.out
        have fo2 : w5.frozen? ⟨w.heap.size + 1, 2, none⟩ = false := free_of O.out
        have fo3 : w5.frozen? ⟨w.heap.size + 1, 3, none⟩ = false := free_of O.out
        have fo4 : w5.frozen? ⟨w.heap.size + 1, 4, none⟩ = false := free_of O.out
        have fo5 : w5.frozen? ⟨w.heap.size + 1, 5, none⟩ = false := free_of O.out
        go_wp2_with fail
        have KO5 : Hid ((((w5.setCell ⟨w.heap.size + 1, 1, none⟩ (.int .i64 b)).setCell ⟨w.heap.size + 1, 3, none⟩ (.string P))).heap[w.heap.size + 1]? = some (.cells #[.int .i64 a, .int .i64 b, .int .i64 t, .string P, .int .i64 0, .slice none 0 0] 53 (0, 0))) := setCell_heap (setCell_heap O.out)
        have KR7 : Hid ((((w5.setCell ⟨w.heap.size + 1, 1, none⟩ (.int .i64 b)).setCell ⟨w.heap.size + 1, 3, none⟩ (.string P))).heap[w.heap.size]? = some (.cells Z6 53 (0, 0))) := by unfold Hid; rw [set_block _ _ _ _ (by simp), set_block _ _ _ _ (by simp)]; exact KR5.out
        have K75 : Hid (Below w.heap.size w (((w5.setCell ⟨w.heap.size + 1, 1, none⟩ (.int .i64 b)).setCell ⟨w.heap.size + 1, 3, none⟩ (.string P)))) := (K5.out.setCell (p := ⟨w.heap.size + 1, 1, none⟩) (by simp) _).setCell (p := ⟨w.heap.size + 1, 3, none⟩) (by simp) _
        obtain ⟨w7, hw7⟩ : ∃ w7, w7 = ((w5.setCell ⟨w.heap.size + 1, 1, none⟩ (.int .i64 b)).setCell ⟨w.heap.size + 1, 3, none⟩ (.string P)) := ⟨_, rfl⟩
        rw [← hw7] at KO5 KR7 K75
        rw [← hw7]
        have KO := KO5
        have KR := KR7
        have K7 := K75
        have HV : Hid (∀ W, (∀ k, w.heap.size + 2 ≤ k → k < w7.heap.size → W.heap[k]? = w7.heap[k]?) → DtsAt W (.slice none 0 0) []) := fun W _ => DtsAt.nil W
        clear KO5 KR7 K75 KR5 K5 O o0 o1 o2 o3 o4 o5 fo0 fo1 fo2 fo3 fo4 fo5 hw7
        have CO := op_ref a b t P (0) (.slice none 0 0) ([]) w7 hPm (HV.out w7 (fun _ _ _ => rfl))
        by_cases hop : opE ((a, b), t, P, 0, []) = 0
        case neg =>
          have HE : Hid (decB s.toList = none) := by
            unfold Hid decB
            split
            · rfl
            · rw [HX.out, if_neg (fun e => hop e.1)]
          obtain ⟨q, hq⟩ : ∃ q, q = opE ((a, b), t, P, 0, []) := ⟨_, rfl⟩
          have hqn : (q != 0) = true := by rw [hq]; simpa using hop
          rw [← hq] at CO
          clear hq hop
          refine CO.mono ?_
          rintro e w8 ⟨rfl, hb8⟩
          have KB8 : Hid (Below w.heap.size w w8) := bel K7.out hb8
          have R : Hid (w8.heap[w.heap.size]? = some (.cells Z6 53 (0, 0))) := keep_heap hb8 KR.out
          have r0 : w8.cell? ⟨w.heap.size, 0, none⟩ = some (.int .i64 0) := cell_of R.out rfl
          have r1 : w8.cell? ⟨w.heap.size, 1, none⟩ = some (.int .i64 0) := cell_of R.out rfl
          have r2 : w8.cell? ⟨w.heap.size, 2, none⟩ = some (.int .i64 0) := cell_of R.out rfl
          have r3 : w8.cell? ⟨w.heap.size, 3, none⟩ = some (.string ⟨#[]⟩) := cell_of R.out rfl
          have r4 : w8.cell? ⟨w.heap.size, 4, none⟩ = some (.int .i64 0) := cell_of R.out rfl
          have r5 : w8.cell? ⟨w.heap.size, 5, none⟩ = some (.slice none 0 0) := cell_of R.out rfl
          have fr0 : w8.frozen? ⟨w.heap.size, 0, none⟩ = false := free_of R.out
          have fr1 : w8.frozen? ⟨w.heap.size, 1, none⟩ = false := free_of R.out
          have fr2 : w8.frozen? ⟨w.heap.size, 2, none⟩ = false := free_of R.out
          have fr3 : w8.frozen? ⟨w.heap.size, 3, none⟩ = false := free_of R.out
          have fr4 : w8.frozen? ⟨w.heap.size, 4, none⟩ = false := free_of R.out
          have fr5 : w8.frozen? ⟨w.heap.size, 5, none⟩ = false := free_of R.out
          clear hb8 CO
          go_wp2_with fail
          refine bodyPost_ret (v := .tuple #[opV oz (.slice none 0 0), .bool false]) ?_ rfl ⟨_, by rw [HE.out]; rfl, by rw [HE.out]; exact fun W _ => ⟨_, rfl, DtsAt.nil _⟩, ?_⟩
          · simp [results, Tryd.results25, opV, oz, go_sem, asAddr, Result.andThen, r0, r1, r2, r3, r4, r5]
            rfl
          · exact six6_below KB8.out (Nat.le_refl _) _ _ _ _ _ _
        rw [hop] at CO
        refine CO.mono ?_
        rintro e w8 ⟨rfl, hb8⟩
        have KB8 : Hid (Below w.heap.size w w8) := bel K7.out hb8
        have KR8 : Hid (w8.heap[w.heap.size]? = some (.cells Z6 53 (0, 0))) := keep_heap hb8 KR.out
        have O : Hid (w8.heap[w.heap.size + 1]? = some (.cells #[.int .i64 a, .int .i64 b, .int .i64 t, .string P, .int .i64 (0), .slice none 0 0] 53 (0, 0))) := keep_heap hb8 KO.out
        have HS8 : Hid (w7.heap.size ≤ w8.heap.size) := hb8.size
        have HK8 : Hid (∀ k, k < w7.heap.size → w8.heap[k]? = w7.heap[k]?) := hb8.block
        have o0 : w8.cell? ⟨w.heap.size + 1, 0, none⟩ = some (.int .i64 a) := cell_of O.out rfl
        have o1 : w8.cell? ⟨w.heap.size + 1, 1, none⟩ = some (.int .i64 b) := cell_of O.out rfl
        have o2 : w8.cell? ⟨w.heap.size + 1, 2, none⟩ = some (.int .i64 t) := cell_of O.out rfl
        have o3 : w8.cell? ⟨w.heap.size + 1, 3, none⟩ = some (.string P) := cell_of O.out rfl
        have o4 : w8.cell? ⟨w.heap.size + 1, 4, none⟩ = some (.int .i64 (0)) := cell_of O.out rfl
        have o5 : w8.cell? ⟨w.heap.size + 1, 5, none⟩ = some (.slice none 0 0) := cell_of O.out rfl
        have CB := bytes_ref a b t P (0) (.slice none 0 0) ([]) w8 (HV.out w8 (fun k _ hk => HK8.out k hk)) hop
        obtain ⟨T8, hT8⟩ : ∃ T8, T8 = bytesS ((a, b), t, P, 0, []) := ⟨_, rfl⟩
        rw [← hT8] at CB
        have HT8 : Hid (T8.toList = bytesB ((a, b), t, P, 0, [])) := by unfold Hid; rw [hT8, bytesS_list]
        have HOP : Hid (opE ((a, b), t, P, 0, []) = 0) := hop
        clear hb8 CO hT8 hop
        go_wp2_with fail
        refine CB.mono ?_
        rintro e w9 ⟨rfl, hb9⟩
        have KB9 : Hid (Below w.heap.size w w9) := bel KB8.out hb9
        have R : Hid (w9.heap[w.heap.size]? = some (.cells Z6 53 (0, 0))) := keep_heap hb9 KR8.out
        have r0 : w9.cell? ⟨w.heap.size, 0, none⟩ = some (.int .i64 0) := cell_of R.out rfl
        have r1 : w9.cell? ⟨w.heap.size, 1, none⟩ = some (.int .i64 0) := cell_of R.out rfl
        have r2 : w9.cell? ⟨w.heap.size, 2, none⟩ = some (.int .i64 0) := cell_of R.out rfl
        have r3 : w9.cell? ⟨w.heap.size, 3, none⟩ = some (.string ⟨#[]⟩) := cell_of R.out rfl
        have r4 : w9.cell? ⟨w.heap.size, 4, none⟩ = some (.int .i64 0) := cell_of R.out rfl
        have r5 : w9.cell? ⟨w.heap.size, 5, none⟩ = some (.slice none 0 0) := cell_of R.out rfl
        have fr0 : w9.frozen? ⟨w.heap.size, 0, none⟩ = false := free_of R.out
        have fr1 : w9.frozen? ⟨w.heap.size, 1, none⟩ = false := free_of R.out
        have fr2 : w9.frozen? ⟨w.heap.size, 2, none⟩ = false := free_of R.out
        have fr3 : w9.frozen? ⟨w.heap.size, 3, none⟩ = false := free_of R.out
        have fr4 : w9.frozen? ⟨w.heap.size, 4, none⟩ = false := free_of R.out
        have fr5 : w9.frozen? ⟨w.heap.size, 5, none⟩ = false := free_of R.out
        have KO9 : Hid (w9.heap[w.heap.size + 1]? = some (.cells #[.int .i64 a, .int .i64 b, .int .i64 t, .string P, .int .i64 (0), .slice none 0 0] 53 (0, 0))) := keep_heap hb9 O.out
        have HK9 : Hid (∀ k, w.heap.size + 2 ≤ k → k < w7.heap.size → w9.heap[k]? = w7.heap[k]?) := fun k _ hk => (hb9.block k (Nat.lt_of_lt_of_le hk HS8.out)).trans (HK8.out k hk)
        have HS9 : Hid (w7.heap.size ≤ w9.heap.size) := Nat.le_trans HS8.out hb9.size
        clear o0 o1 o2 o3 o4 o5
        have x0 : w9.cell? ⟨w.heap.size + 1, 0, none⟩ = some (.int .i64 a) := cell_of KO9.out rfl
        have x1 : w9.cell? ⟨w.heap.size + 1, 1, none⟩ = some (.int .i64 b) := cell_of KO9.out rfl
        have x2 : w9.cell? ⟨w.heap.size + 1, 2, none⟩ = some (.int .i64 t) := cell_of KO9.out rfl
        have x3 : w9.cell? ⟨w.heap.size + 1, 3, none⟩ = some (.string P) := cell_of KO9.out rfl
        have x4 : w9.cell? ⟨w.heap.size + 1, 4, none⟩ = some (.int .i64 (0)) := cell_of KO9.out rfl
        have x5 : w9.cell? ⟨w.heap.size + 1, 5, none⟩ = some (.slice none 0 0) := cell_of KO9.out rfl
        clear CB hb9
        by_cases hes : T8.toList = s.toList
        · have HE : Hid (decB s.toList = some ((a, b), t, P, 0, [])) := decB_iff.2 ⟨HOP.out, by rw [← HT8.out]; exact hes⟩
          have hesb : (T8.toList == s.toList) = true := by simpa using hes
          have HV9 : Hid (∀ x0 x1 x2 x3 x4 x5 W, (∀ k, w.heap.size ≤ k → k < (six6 w9 w.heap.size x0 x1 x2 x3 x4 x5).heap.size → W.heap[k]? = (six6 w9 w.heap.size x0 x1 x2 x3 x4 x5).heap[k]?) → DtsAt W (.slice none 0 0) ([])) := fun x0 x1 x2 x3 x4 x5 W hW => HV.out _ (fun k hk1 hk2 => (hW k (by omega) (by rw [six6_size]; exact Nat.lt_of_lt_of_le hk2 HS9.out)).trans ((six6_block _ _ _ _ _ _ _ _ _ (by omega)).trans (HK9.out k hk1 hk2)))
          clear hes
          go_wp2_with fail
          refine bodyPost_ret (v := .tuple #[opV ((a, b), t, P, 0, []) (.slice none 0 0), .bool true]) ?_ rfl ⟨_, by rw [HE.out]; rfl, by rw [HE.out]; exact fun W hW => ⟨_, rfl, HV9.out _ _ _ _ _ _ W hW⟩, ?_⟩
          · simp [results, Tryd.results25, opV, go_sem, asAddr, Result.andThen, r0, r1, r2, r3, r4, r5]
          · exact six6_below KB9.out (Nat.le_refl _) _ _ _ _ _ _
        · have HE : Hid (decB s.toList = none) := by
            unfold Hid decB
            split
            · rfl
            · rw [HX.out, if_neg (fun e => hes (HT8.out.trans e.2))]
          have hesb : (T8.toList == s.toList) = false := by simpa using hes
          clear hes
          go_wp2_with fail
          refine bodyPost_ret (v := .tuple #[opV oz (.slice none 0 0), .bool false]) ?_ rfl ⟨_, by rw [HE.out]; rfl, by rw [HE.out]; exact fun W _ => ⟨_, rfl, DtsAt.nil _⟩, ?_⟩
          · simp [results, Tryd.results25, opV, oz, go_sem, asAddr, Result.andThen, r0, r1, r2, r3, r4, r5]
            rfl
          · exact six6_below KB9.out (Nat.le_refl _) _ _ _ _ _ _
      · have t4b : (t == 4) = false := by simpa using t4
        clear t4
        go_enter Tryd.func25, Tryd.ntmps25
        go_wp2_with fail
        refine (CN _).mono ?_
        rintro e w5 ⟨rfl, hb5⟩
        obtain ⟨hr5, ho5, hbb5, hsz5⟩ := two_boxes hb5
        have KR5 : Hid (w5.heap[w.heap.size]? = some (.cells Z6 53 (0, 0))) := hr5
        have O : Hid (w5.heap[w.heap.size + 1]? = some (.cells #[.int .i64 a, .int .i64 0, .int .i64 t, .string ⟨#[]⟩, .int .i64 0, .slice none 0 0] 53 (0, 0))) := ho5
        have K5 : Hid (Below w.heap.size w w5) := hbb5
        have HZ5 : Hid (w.heap.size + 2 ≤ w5.heap.size) := hsz5
        clear hb5 hr5 ho5 hbb5 hsz5 CN
        have o0 : w5.cell? ⟨w.heap.size + 1, 0, none⟩ = some (.int .i64 a) := cell_of O.out rfl
        have o1 : w5.cell? ⟨w.heap.size + 1, 1, none⟩ = some (.int .i64 0) := cell_of O.out rfl
        have o2 : w5.cell? ⟨w.heap.size + 1, 2, none⟩ = some (.int .i64 t) := cell_of O.out rfl
        have o3 : w5.cell? ⟨w.heap.size + 1, 3, none⟩ = some (.string ⟨#[]⟩) := cell_of O.out rfl
        have o4 : w5.cell? ⟨w.heap.size + 1, 4, none⟩ = some (.int .i64 0) := cell_of O.out rfl
        have o5 : w5.cell? ⟨w.heap.size + 1, 5, none⟩ = some (.slice none 0 0) := cell_of O.out rfl
        have fo0 : w5.frozen? ⟨w.heap.size + 1, 0, none⟩ = false := free_of O.out
        have fo1 : w5.frozen? ⟨w.heap.size + 1, 1, none⟩ = false := free_of O.out
        have fo2 : w5.frozen? ⟨w.heap.size + 1, 2, none⟩ = false := free_of O.out
        have fo3 : w5.frozen? ⟨w.heap.size + 1, 3, none⟩ = false := free_of O.out
        have fo4 : w5.frozen? ⟨w.heap.size + 1, 4, none⟩ = false := free_of O.out
        have fo5 : w5.frozen? ⟨w.heap.size + 1, 5, none⟩ = false := free_of O.out
        go_wp2_with fail
        have KO5 : Hid ((((w5.setCell ⟨w.heap.size + 1, 1, none⟩ (.int .i64 b)).setCell ⟨w.heap.size + 1, 3, none⟩ (.string P))).heap[w.heap.size + 1]? = some (.cells #[.int .i64 a, .int .i64 b, .int .i64 t, .string P, .int .i64 0, .slice none 0 0] 53 (0, 0))) := setCell_heap (setCell_heap O.out)
        have KR7 : Hid ((((w5.setCell ⟨w.heap.size + 1, 1, none⟩ (.int .i64 b)).setCell ⟨w.heap.size + 1, 3, none⟩ (.string P))).heap[w.heap.size]? = some (.cells Z6 53 (0, 0))) := by unfold Hid; rw [set_block _ _ _ _ (by simp), set_block _ _ _ _ (by simp)]; exact KR5.out
        have K75 : Hid (Below w.heap.size w (((w5.setCell ⟨w.heap.size + 1, 1, none⟩ (.int .i64 b)).setCell ⟨w.heap.size + 1, 3, none⟩ (.string P)))) := (K5.out.setCell (p := ⟨w.heap.size + 1, 1, none⟩) (by simp) _).setCell (p := ⟨w.heap.size + 1, 3, none⟩) (by simp) _
        obtain ⟨w7, hw7⟩ : ∃ w7, w7 = ((w5.setCell ⟨w.heap.size + 1, 1, none⟩ (.int .i64 b)).setCell ⟨w.heap.size + 1, 3, none⟩ (.string P)) := ⟨_, rfl⟩
        rw [← hw7] at KO5 KR7 K75
        rw [← hw7]
        have KO := KO5
        have KR := KR7
        have K7 := K75
        have HV : Hid (∀ W, (∀ k, w.heap.size + 2 ≤ k → k < w7.heap.size → W.heap[k]? = w7.heap[k]?) → DtsAt W (.slice none 0 0) []) := fun W _ => DtsAt.nil W
        clear KO5 KR7 K75 KR5 K5 O o0 o1 o2 o3 o4 o5 fo0 fo1 fo2 fo3 fo4 fo5 hw7
        have CO := op_ref a b t P (0) (.slice none 0 0) ([]) w7 hPm (HV.out w7 (fun _ _ _ => rfl))
        by_cases hop : opE ((a, b), t, P, 0, []) = 0
        case neg =>
          have HE : Hid (decB s.toList = none) := by
            unfold Hid decB
            split
            · rfl
            · rw [HX.out, if_neg (fun e => hop e.1)]
          obtain ⟨q, hq⟩ : ∃ q, q = opE ((a, b), t, P, 0, []) := ⟨_, rfl⟩
          have hqn : (q != 0) = true := by rw [hq]; simpa using hop
          rw [← hq] at CO
          clear hq hop
          refine CO.mono ?_
          rintro e w8 ⟨rfl, hb8⟩
          have KB8 : Hid (Below w.heap.size w w8) := bel K7.out hb8
          have R : Hid (w8.heap[w.heap.size]? = some (.cells Z6 53 (0, 0))) := keep_heap hb8 KR.out
          have r0 : w8.cell? ⟨w.heap.size, 0, none⟩ = some (.int .i64 0) := cell_of R.out rfl
          have r1 : w8.cell? ⟨w.heap.size, 1, none⟩ = some (.int .i64 0) := cell_of R.out rfl
          have r2 : w8.cell? ⟨w.heap.size, 2, none⟩ = some (.int .i64 0) := cell_of R.out rfl
          have r3 : w8.cell? ⟨w.heap.size, 3, none⟩ = some (.string ⟨#[]⟩) := cell_of R.out rfl
          have r4 : w8.cell? ⟨w.heap.size, 4, none⟩ = some (.int .i64 0) := cell_of R.out rfl
          have r5 : w8.cell? ⟨w.heap.size, 5, none⟩ = some (.slice none 0 0) := cell_of R.out rfl
          have fr0 : w8.frozen? ⟨w.heap.size, 0, none⟩ = false := free_of R.out
          have fr1 : w8.frozen? ⟨w.heap.size, 1, none⟩ = false := free_of R.out
          have fr2 : w8.frozen? ⟨w.heap.size, 2, none⟩ = false := free_of R.out
          have fr3 : w8.frozen? ⟨w.heap.size, 3, none⟩ = false := free_of R.out
          have fr4 : w8.frozen? ⟨w.heap.size, 4, none⟩ = false := free_of R.out
          have fr5 : w8.frozen? ⟨w.heap.size, 5, none⟩ = false := free_of R.out
          clear hb8 CO
          go_wp2_with fail
          refine bodyPost_ret (v := .tuple #[opV oz (.slice none 0 0), .bool false]) ?_ rfl ⟨_, by rw [HE.out]; rfl, by rw [HE.out]; exact fun W _ => ⟨_, rfl, DtsAt.nil _⟩, ?_⟩
          · simp [results, Tryd.results25, opV, oz, go_sem, asAddr, Result.andThen, r0, r1, r2, r3, r4, r5]
            rfl
          · exact six6_below KB8.out (Nat.le_refl _) _ _ _ _ _ _
        rw [hop] at CO
        refine CO.mono ?_
        rintro e w8 ⟨rfl, hb8⟩
        have KB8 : Hid (Below w.heap.size w w8) := bel K7.out hb8
        have KR8 : Hid (w8.heap[w.heap.size]? = some (.cells Z6 53 (0, 0))) := keep_heap hb8 KR.out
        have O : Hid (w8.heap[w.heap.size + 1]? = some (.cells #[.int .i64 a, .int .i64 b, .int .i64 t, .string P, .int .i64 (0), .slice none 0 0] 53 (0, 0))) := keep_heap hb8 KO.out
        have HS8 : Hid (w7.heap.size ≤ w8.heap.size) := hb8.size
        have HK8 : Hid (∀ k, k < w7.heap.size → w8.heap[k]? = w7.heap[k]?) := hb8.block
        have o0 : w8.cell? ⟨w.heap.size + 1, 0, none⟩ = some (.int .i64 a) := cell_of O.out rfl
        have o1 : w8.cell? ⟨w.heap.size + 1, 1, none⟩ = some (.int .i64 b) := cell_of O.out rfl
        have o2 : w8.cell? ⟨w.heap.size + 1, 2, none⟩ = some (.int .i64 t) := cell_of O.out rfl
        have o3 : w8.cell? ⟨w.heap.size + 1, 3, none⟩ = some (.string P) := cell_of O.out rfl
        have o4 : w8.cell? ⟨w.heap.size + 1, 4, none⟩ = some (.int .i64 (0)) := cell_of O.out rfl
        have o5 : w8.cell? ⟨w.heap.size + 1, 5, none⟩ = some (.slice none 0 0) := cell_of O.out rfl
        have CB := bytes_ref a b t P (0) (.slice none 0 0) ([]) w8 (HV.out w8 (fun k _ hk => HK8.out k hk)) hop
        obtain ⟨T8, hT8⟩ : ∃ T8, T8 = bytesS ((a, b), t, P, 0, []) := ⟨_, rfl⟩
        rw [← hT8] at CB
        have HT8 : Hid (T8.toList = bytesB ((a, b), t, P, 0, [])) := by unfold Hid; rw [hT8, bytesS_list]
        have HOP : Hid (opE ((a, b), t, P, 0, []) = 0) := hop
        clear hb8 CO hT8 hop
        go_wp2_with fail
        refine CB.mono ?_
        rintro e w9 ⟨rfl, hb9⟩
        have KB9 : Hid (Below w.heap.size w w9) := bel KB8.out hb9
        have R : Hid (w9.heap[w.heap.size]? = some (.cells Z6 53 (0, 0))) := keep_heap hb9 KR8.out
        have r0 : w9.cell? ⟨w.heap.size, 0, none⟩ = some (.int .i64 0) := cell_of R.out rfl
        have r1 : w9.cell? ⟨w.heap.size, 1, none⟩ = some (.int .i64 0) := cell_of R.out rfl
        have r2 : w9.cell? ⟨w.heap.size, 2, none⟩ = some (.int .i64 0) := cell_of R.out rfl
        have r3 : w9.cell? ⟨w.heap.size, 3, none⟩ = some (.string ⟨#[]⟩) := cell_of R.out rfl
        have r4 : w9.cell? ⟨w.heap.size, 4, none⟩ = some (.int .i64 0) := cell_of R.out rfl
        have r5 : w9.cell? ⟨w.heap.size, 5, none⟩ = some (.slice none 0 0) := cell_of R.out rfl
        have fr0 : w9.frozen? ⟨w.heap.size, 0, none⟩ = false := free_of R.out
        have fr1 : w9.frozen? ⟨w.heap.size, 1, none⟩ = false := free_of R.out
        have fr2 : w9.frozen? ⟨w.heap.size, 2, none⟩ = false := free_of R.out
        have fr3 : w9.frozen? ⟨w.heap.size, 3, none⟩ = false := free_of R.out
        have fr4 : w9.frozen? ⟨w.heap.size, 4, none⟩ = false := free_of R.out
        have fr5 : w9.frozen? ⟨w.heap.size, 5, none⟩ = false := free_of R.out
        have KO9 : Hid (w9.heap[w.heap.size + 1]? = some (.cells #[.int .i64 a, .int .i64 b, .int .i64 t, .string P, .int .i64 (0), .slice none 0 0] 53 (0, 0))) := keep_heap hb9 O.out
        have HK9 : Hid (∀ k, w.heap.size + 2 ≤ k → k < w7.heap.size → w9.heap[k]? = w7.heap[k]?) := fun k _ hk => (hb9.block k (Nat.lt_of_lt_of_le hk HS8.out)).trans (HK8.out k hk)
        have HS9 : Hid (w7.heap.size ≤ w9.heap.size) := Nat.le_trans HS8.out hb9.size
        clear o0 o1 o2 o3 o4 o5
        have x0 : w9.cell? ⟨w.heap.size + 1, 0, none⟩ = some (.int .i64 a) := cell_of KO9.out rfl
        have x1 : w9.cell? ⟨w.heap.size + 1, 1, none⟩ = some (.int .i64 b) := cell_of KO9.out rfl
        have x2 : w9.cell? ⟨w.heap.size + 1, 2, none⟩ = some (.int .i64 t) := cell_of KO9.out rfl
        have x3 : w9.cell? ⟨w.heap.size + 1, 3, none⟩ = some (.string P) := cell_of KO9.out rfl
        have x4 : w9.cell? ⟨w.heap.size + 1, 4, none⟩ = some (.int .i64 (0)) := cell_of KO9.out rfl
        have x5 : w9.cell? ⟨w.heap.size + 1, 5, none⟩ = some (.slice none 0 0) := cell_of KO9.out rfl
        clear CB hb9
        by_cases hes : T8.toList = s.toList
        · have HE : Hid (decB s.toList = some ((a, b), t, P, 0, [])) := decB_iff.2 ⟨HOP.out, by rw [← HT8.out]; exact hes⟩
          have hesb : (T8.toList == s.toList) = true := by simpa using hes
          have HV9 : Hid (∀ x0 x1 x2 x3 x4 x5 W, (∀ k, w.heap.size ≤ k → k < (six6 w9 w.heap.size x0 x1 x2 x3 x4 x5).heap.size → W.heap[k]? = (six6 w9 w.heap.size x0 x1 x2 x3 x4 x5).heap[k]?) → DtsAt W (.slice none 0 0) ([])) := fun x0 x1 x2 x3 x4 x5 W hW => HV.out _ (fun k hk1 hk2 => (hW k (by omega) (by rw [six6_size]; exact Nat.lt_of_lt_of_le hk2 HS9.out)).trans ((six6_block _ _ _ _ _ _ _ _ _ (by omega)).trans (HK9.out k hk1 hk2)))
          clear hes
          go_wp2_with fail
          refine bodyPost_ret (v := .tuple #[opV ((a, b), t, P, 0, []) (.slice none 0 0), .bool true]) ?_ rfl ⟨_, by rw [HE.out]; rfl, by rw [HE.out]; exact fun W hW => ⟨_, rfl, HV9.out _ _ _ _ _ _ W hW⟩, ?_⟩
          · simp [results, Tryd.results25, opV, go_sem, asAddr, Result.andThen, r0, r1, r2, r3, r4, r5]
          · exact six6_below KB9.out (Nat.le_refl _) _ _ _ _ _ _
        · have HE : Hid (decB s.toList = none) := by
            unfold Hid decB
            split
            · rfl
            · rw [HX.out, if_neg (fun e => hes (HT8.out.trans e.2))]
          have hesb : (T8.toList == s.toList) = false := by simpa using hes
          clear hes
          go_wp2_with fail
          refine bodyPost_ret (v := .tuple #[opV oz (.slice none 0 0), .bool false]) ?_ rfl ⟨_, by rw [HE.out]; rfl, by rw [HE.out]; exact fun W _ => ⟨_, rfl, DtsAt.nil _⟩, ?_⟩
          · simp [results, Tryd.results25, opV, oz, go_sem, asAddr, Result.andThen, r0, r1, r2, r3, r4, r5]
            rfl
          · exact six6_below KB9.out (Nat.le_refl _) _ _ _ _ _ _
  have hr1 : 0 < R0.size := by omega
  have hrz : (0 : Int) < R0.size := by omega
  have hrb : R0[0].toNat < 256 := UInt8.toNat_lt _
  have hR0 := at_list R0 0 hr1
  by_cases t1 : t = 1
  · have t1b : (t == 1) = true := by simpa using t1
    have t4b : (t == 4) = false := by rw [t1]; rfl
    obtain ⟨c, hc⟩ : ∃ c : Int, (R0[0].toNat : Int) = c := ⟨_, rfl⟩
    have HX : Hid (readB s.toList = ((a, b), t, P, c, [])) := by
      unfold Hid; rw [HRD]; unfold letterIn seenIn
      rw [if_pos t1, if_neg (by rw [t1]; decide), ← head_at, hR0, hc]
    clear HRD hR0 t1
    go_enter Tryd.func25, Tryd.ntmps25
    go_wp2_with fail
    refine (CN _).mono ?_
    rintro e w5 ⟨rfl, hb5⟩
    obtain ⟨hr5, ho5, hbb5, hsz5⟩ := two_boxes hb5
    have KR5 : Hid (w5.heap[w.heap.size]? = some (.cells Z6 53 (0, 0))) := hr5
    have O : Hid (w5.heap[w.heap.size + 1]? = some (.cells #[.int .i64 a, .int .i64 0, .int .i64 t, .string ⟨#[]⟩, .int .i64 0, .slice none 0 0] 53 (0, 0))) := ho5
    have K5 : Hid (Below w.heap.size w w5) := hbb5
    have HZ5 : Hid (w.heap.size + 2 ≤ w5.heap.size) := hsz5
    clear hb5 hr5 ho5 hbb5 hsz5 CN
    have o0 : w5.cell? ⟨w.heap.size + 1, 0, none⟩ = some (.int .i64 a) := cell_of O.out rfl
    have o1 : w5.cell? ⟨w.heap.size + 1, 1, none⟩ = some (.int .i64 0) := cell_of O.out rfl
    have o2 : w5.cell? ⟨w.heap.size + 1, 2, none⟩ = some (.int .i64 t) := cell_of O.out rfl
    have o3 : w5.cell? ⟨w.heap.size + 1, 3, none⟩ = some (.string ⟨#[]⟩) := cell_of O.out rfl
    have o4 : w5.cell? ⟨w.heap.size + 1, 4, none⟩ = some (.int .i64 0) := cell_of O.out rfl
    have o5 : w5.cell? ⟨w.heap.size + 1, 5, none⟩ = some (.slice none 0 0) := cell_of O.out rfl
    have fo0 : w5.frozen? ⟨w.heap.size + 1, 0, none⟩ = false := free_of O.out
    have fo1 : w5.frozen? ⟨w.heap.size + 1, 1, none⟩ = false := free_of O.out
    have fo2 : w5.frozen? ⟨w.heap.size + 1, 2, none⟩ = false := free_of O.out
    have fo3 : w5.frozen? ⟨w.heap.size + 1, 3, none⟩ = false := free_of O.out
    have fo4 : w5.frozen? ⟨w.heap.size + 1, 4, none⟩ = false := free_of O.out
    have fo5 : w5.frozen? ⟨w.heap.size + 1, 5, none⟩ = false := free_of O.out
    go_wp2_with fail
    have KO5 : Hid (((((w5.setCell ⟨w.heap.size + 1, 1, none⟩ (.int .i64 b)).setCell ⟨w.heap.size + 1, 3, none⟩ (.string P)).setCell ⟨w.heap.size + 1, 4, none⟩ (.int .i64 c))).heap[w.heap.size + 1]? = some (.cells #[.int .i64 a, .int .i64 b, .int .i64 t, .string P, .int .i64 c, .slice none 0 0] 53 (0, 0))) := setCell_heap (setCell_heap (setCell_heap O.out))
    have KR7 : Hid (((((w5.setCell ⟨w.heap.size + 1, 1, none⟩ (.int .i64 b)).setCell ⟨w.heap.size + 1, 3, none⟩ (.string P)).setCell ⟨w.heap.size + 1, 4, none⟩ (.int .i64 c))).heap[w.heap.size]? = some (.cells Z6 53 (0, 0))) := by unfold Hid; rw [set_block _ _ _ _ (by simp), set_block _ _ _ _ (by simp), set_block _ _ _ _ (by simp)]; exact KR5.out
    have K75 : Hid (Below w.heap.size w ((((w5.setCell ⟨w.heap.size + 1, 1, none⟩ (.int .i64 b)).setCell ⟨w.heap.size + 1, 3, none⟩ (.string P)).setCell ⟨w.heap.size + 1, 4, none⟩ (.int .i64 c)))) := ((K5.out.setCell (p := ⟨w.heap.size + 1, 1, none⟩) (by simp) _).setCell (p := ⟨w.heap.size + 1, 3, none⟩) (by simp) _).setCell (p := ⟨w.heap.size + 1, 4, none⟩) (by simp) _
    obtain ⟨w7, hw7⟩ : ∃ w7, w7 = (((w5.setCell ⟨w.heap.size + 1, 1, none⟩ (.int .i64 b)).setCell ⟨w.heap.size + 1, 3, none⟩ (.string P)).setCell ⟨w.heap.size + 1, 4, none⟩ (.int .i64 c)) := ⟨_, rfl⟩
    rw [← hw7] at KO5 KR7 K75
    rw [← hw7]
    have KO := KO5
    have KR := KR7
    have K7 := K75
    have HV : Hid (∀ W, (∀ k, w.heap.size + 2 ≤ k → k < w7.heap.size → W.heap[k]? = w7.heap[k]?) → DtsAt W (.slice none 0 0) []) := fun W _ => DtsAt.nil W
    clear KO5 KR7 K75 KR5 K5 O o0 o1 o2 o3 o4 o5 fo0 fo1 fo2 fo3 fo4 fo5 hw7
    have CO := op_ref a b t P (c) (.slice none 0 0) ([]) w7 hPm (HV.out w7 (fun _ _ _ => rfl))
    by_cases hop : opE ((a, b), t, P, c, []) = 0
    case neg =>
      have HE : Hid (decB s.toList = none) := by
        unfold Hid decB
        split
        · rfl
        · rw [HX.out, if_neg (fun e => hop e.1)]
      obtain ⟨q, hq⟩ : ∃ q, q = opE ((a, b), t, P, c, []) := ⟨_, rfl⟩
      have hqn : (q != 0) = true := by rw [hq]; simpa using hop
      rw [← hq] at CO
      clear hq hop
      refine CO.mono ?_
      rintro e w8 ⟨rfl, hb8⟩
      have KB8 : Hid (Below w.heap.size w w8) := bel K7.out hb8
      have R : Hid (w8.heap[w.heap.size]? = some (.cells Z6 53 (0, 0))) := keep_heap hb8 KR.out
      have r0 : w8.cell? ⟨w.heap.size, 0, none⟩ = some (.int .i64 0) := cell_of R.out rfl
      have r1 : w8.cell? ⟨w.heap.size, 1, none⟩ = some (.int .i64 0) := cell_of R.out rfl
      have r2 : w8.cell? ⟨w.heap.size, 2, none⟩ = some (.int .i64 0) := cell_of R.out rfl
      have r3 : w8.cell? ⟨w.heap.size, 3, none⟩ = some (.string ⟨#[]⟩) := cell_of R.out rfl
      have r4 : w8.cell? ⟨w.heap.size, 4, none⟩ = some (.int .i64 0) := cell_of R.out rfl
      have r5 : w8.cell? ⟨w.heap.size, 5, none⟩ = some (.slice none 0 0) := cell_of R.out rfl
      have fr0 : w8.frozen? ⟨w.heap.size, 0, none⟩ = false := free_of R.out
      have fr1 : w8.frozen? ⟨w.heap.size, 1, none⟩ = false := free_of R.out
      have fr2 : w8.frozen? ⟨w.heap.size, 2, none⟩ = false := free_of R.out
      have fr3 : w8.frozen? ⟨w.heap.size, 3, none⟩ = false := free_of R.out
      have fr4 : w8.frozen? ⟨w.heap.size, 4, none⟩ = false := free_of R.out
      have fr5 : w8.frozen? ⟨w.heap.size, 5, none⟩ = false := free_of R.out
      clear hb8 CO
      go_wp2_with fail
      refine bodyPost_ret (v := .tuple #[opV oz (.slice none 0 0), .bool false]) ?_ rfl ⟨_, by rw [HE.out]; rfl, by rw [HE.out]; exact fun W _ => ⟨_, rfl, DtsAt.nil _⟩, ?_⟩
      · simp [results, Tryd.results25, opV, oz, go_sem, asAddr, Result.andThen, r0, r1, r2, r3, r4, r5]
        rfl
      · exact six6_below KB8.out (Nat.le_refl _) _ _ _ _ _ _
    rw [hop] at CO
    refine CO.mono ?_
    rintro e w8 ⟨rfl, hb8⟩
    have KB8 : Hid (Below w.heap.size w w8) := bel K7.out hb8
    have KR8 : Hid (w8.heap[w.heap.size]? = some (.cells Z6 53 (0, 0))) := keep_heap hb8 KR.out
    have O : Hid (w8.heap[w.heap.size + 1]? = some (.cells #[.int .i64 a, .int .i64 b, .int .i64 t, .string P, .int .i64 (c), .slice none 0 0] 53 (0, 0))) := keep_heap hb8 KO.out
    have HS8 : Hid (w7.heap.size ≤ w8.heap.size) := hb8.size
    have HK8 : Hid (∀ k, k < w7.heap.size → w8.heap[k]? = w7.heap[k]?) := hb8.block
    have o0 : w8.cell? ⟨w.heap.size + 1, 0, none⟩ = some (.int .i64 a) := cell_of O.out rfl
    have o1 : w8.cell? ⟨w.heap.size + 1, 1, none⟩ = some (.int .i64 b) := cell_of O.out rfl
    have o2 : w8.cell? ⟨w.heap.size + 1, 2, none⟩ = some (.int .i64 t) := cell_of O.out rfl
    have o3 : w8.cell? ⟨w.heap.size + 1, 3, none⟩ = some (.string P) := cell_of O.out rfl
    have o4 : w8.cell? ⟨w.heap.size + 1, 4, none⟩ = some (.int .i64 (c)) := cell_of O.out rfl
    have o5 : w8.cell? ⟨w.heap.size + 1, 5, none⟩ = some (.slice none 0 0) := cell_of O.out rfl
    have CB := bytes_ref a b t P (c) (.slice none 0 0) ([]) w8 (HV.out w8 (fun k _ hk => HK8.out k hk)) hop
    obtain ⟨T8, hT8⟩ : ∃ T8, T8 = bytesS ((a, b), t, P, c, []) := ⟨_, rfl⟩
    rw [← hT8] at CB
    have HT8 : Hid (T8.toList = bytesB ((a, b), t, P, c, [])) := by unfold Hid; rw [hT8, bytesS_list]
    have HOP : Hid (opE ((a, b), t, P, c, []) = 0) := hop
    clear hb8 CO hT8 hop
    go_wp2_with fail
    refine CB.mono ?_
    rintro e w9 ⟨rfl, hb9⟩
    have KB9 : Hid (Below w.heap.size w w9) := bel KB8.out hb9
    have R : Hid (w9.heap[w.heap.size]? = some (.cells Z6 53 (0, 0))) := keep_heap hb9 KR8.out
    have r0 : w9.cell? ⟨w.heap.size, 0, none⟩ = some (.int .i64 0) := cell_of R.out rfl
    have r1 : w9.cell? ⟨w.heap.size, 1, none⟩ = some (.int .i64 0) := cell_of R.out rfl
    have r2 : w9.cell? ⟨w.heap.size, 2, none⟩ = some (.int .i64 0) := cell_of R.out rfl
    have r3 : w9.cell? ⟨w.heap.size, 3, none⟩ = some (.string ⟨#[]⟩) := cell_of R.out rfl
    have r4 : w9.cell? ⟨w.heap.size, 4, none⟩ = some (.int .i64 0) := cell_of R.out rfl
    have r5 : w9.cell? ⟨w.heap.size, 5, none⟩ = some (.slice none 0 0) := cell_of R.out rfl
    have fr0 : w9.frozen? ⟨w.heap.size, 0, none⟩ = false := free_of R.out
    have fr1 : w9.frozen? ⟨w.heap.size, 1, none⟩ = false := free_of R.out
    have fr2 : w9.frozen? ⟨w.heap.size, 2, none⟩ = false := free_of R.out
    have fr3 : w9.frozen? ⟨w.heap.size, 3, none⟩ = false := free_of R.out
    have fr4 : w9.frozen? ⟨w.heap.size, 4, none⟩ = false := free_of R.out
    have fr5 : w9.frozen? ⟨w.heap.size, 5, none⟩ = false := free_of R.out
    have KO9 : Hid (w9.heap[w.heap.size + 1]? = some (.cells #[.int .i64 a, .int .i64 b, .int .i64 t, .string P, .int .i64 (c), .slice none 0 0] 53 (0, 0))) := keep_heap hb9 O.out
    have HK9 : Hid (∀ k, w.heap.size + 2 ≤ k → k < w7.heap.size → w9.heap[k]? = w7.heap[k]?) := fun k _ hk => (hb9.block k (Nat.lt_of_lt_of_le hk HS8.out)).trans (HK8.out k hk)
    have HS9 : Hid (w7.heap.size ≤ w9.heap.size) := Nat.le_trans HS8.out hb9.size
    clear o0 o1 o2 o3 o4 o5
    have x0 : w9.cell? ⟨w.heap.size + 1, 0, none⟩ = some (.int .i64 a) := cell_of KO9.out rfl
    have x1 : w9.cell? ⟨w.heap.size + 1, 1, none⟩ = some (.int .i64 b) := cell_of KO9.out rfl
    have x2 : w9.cell? ⟨w.heap.size + 1, 2, none⟩ = some (.int .i64 t) := cell_of KO9.out rfl
    have x3 : w9.cell? ⟨w.heap.size + 1, 3, none⟩ = some (.string P) := cell_of KO9.out rfl
    have x4 : w9.cell? ⟨w.heap.size + 1, 4, none⟩ = some (.int .i64 (c)) := cell_of KO9.out rfl
    have x5 : w9.cell? ⟨w.heap.size + 1, 5, none⟩ = some (.slice none 0 0) := cell_of KO9.out rfl
    clear CB hb9
    by_cases hes : T8.toList = s.toList
    · have HE : Hid (decB s.toList = some ((a, b), t, P, c, [])) := decB_iff.2 ⟨HOP.out, by rw [← HT8.out]; exact hes⟩
      have hesb : (T8.toList == s.toList) = true := by simpa using hes
      have HV9 : Hid (∀ x0 x1 x2 x3 x4 x5 W, (∀ k, w.heap.size ≤ k → k < (six6 w9 w.heap.size x0 x1 x2 x3 x4 x5).heap.size → W.heap[k]? = (six6 w9 w.heap.size x0 x1 x2 x3 x4 x5).heap[k]?) → DtsAt W (.slice none 0 0) ([])) := fun x0 x1 x2 x3 x4 x5 W hW => HV.out _ (fun k hk1 hk2 => (hW k (by omega) (by rw [six6_size]; exact Nat.lt_of_lt_of_le hk2 HS9.out)).trans ((six6_block _ _ _ _ _ _ _ _ _ (by omega)).trans (HK9.out k hk1 hk2)))
      clear hes
      go_wp2_with fail
      refine bodyPost_ret (v := .tuple #[opV ((a, b), t, P, c, []) (.slice none 0 0), .bool true]) ?_ rfl ⟨_, by rw [HE.out]; rfl, by rw [HE.out]; exact fun W hW => ⟨_, rfl, HV9.out _ _ _ _ _ _ W hW⟩, ?_⟩
      · simp [results, Tryd.results25, opV, go_sem, asAddr, Result.andThen, r0, r1, r2, r3, r4, r5]
      · exact six6_below KB9.out (Nat.le_refl _) _ _ _ _ _ _
    · have HE : Hid (decB s.toList = none) := by
        unfold Hid decB
        split
        · rfl
        · rw [HX.out, if_neg (fun e => hes (HT8.out.trans e.2))]
      have hesb : (T8.toList == s.toList) = false := by simpa using hes
      clear hes
      go_wp2_with fail
      refine bodyPost_ret (v := .tuple #[opV oz (.slice none 0 0), .bool false]) ?_ rfl ⟨_, by rw [HE.out]; rfl, by rw [HE.out]; exact fun W _ => ⟨_, rfl, DtsAt.nil _⟩, ?_⟩
      · simp [results, Tryd.results25, opV, oz, go_sem, asAddr, Result.andThen, r0, r1, r2, r3, r4, r5]
        rfl
      · exact six6_below KB9.out (Nat.le_refl _) _ _ _ _ _ _
  have t1b : (t == 1) = false := by simpa using t1
  by_cases t4 : t = 4
  case neg =>
    have t4b : (t == 4) = false := by simpa using t4
    have HX : Hid (readB s.toList = ((a, b), t, P, 0, [])) := by
      unfold Hid; rw [HRD]; unfold letterIn seenIn
      rw [if_neg t1, if_neg t4]
    clear HRD hR0 t1 t4
    go_enter Tryd.func25, Tryd.ntmps25
    go_wp2_with fail
    refine (CN _).mono ?_
    rintro e w5 ⟨rfl, hb5⟩
    obtain ⟨hr5, ho5, hbb5, hsz5⟩ := two_boxes hb5
    have KR5 : Hid (w5.heap[w.heap.size]? = some (.cells Z6 53 (0, 0))) := hr5
    have O : Hid (w5.heap[w.heap.size + 1]? = some (.cells #[.int .i64 a, .int .i64 0, .int .i64 t, .string ⟨#[]⟩, .int .i64 0, .slice none 0 0] 53 (0, 0))) := ho5
    have K5 : Hid (Below w.heap.size w w5) := hbb5
    have HZ5 : Hid (w.heap.size + 2 ≤ w5.heap.size) := hsz5
    clear hb5 hr5 ho5 hbb5 hsz5 CN
    have o0 : w5.cell? ⟨w.heap.size + 1, 0, none⟩ = some (.int .i64 a) := cell_of O.out rfl
    have o1 : w5.cell? ⟨w.heap.size + 1, 1, none⟩ = some (.int .i64 0) := cell_of O.out rfl
    have o2 : w5.cell? ⟨w.heap.size + 1, 2, none⟩ = some (.int .i64 t) := cell_of O.out rfl
    have o3 : w5.cell? ⟨w.heap.size + 1, 3, none⟩ = some (.string ⟨#[]⟩) := cell_of O.out rfl
    have o4 : w5.cell? ⟨w.heap.size + 1, 4, none⟩ = some (.int .i64 0) := cell_of O.out rfl
    have o5 : w5.cell? ⟨w.heap.size + 1, 5, none⟩ = some (.slice none 0 0) := cell_of O.out rfl
    have fo0 : w5.frozen? ⟨w.heap.size + 1, 0, none⟩ = false := free_of O.out
    have fo1 : w5.frozen? ⟨w.heap.size + 1, 1, none⟩ = false := free_of O.out
    have fo2 : w5.frozen? ⟨w.heap.size + 1, 2, none⟩ = false := free_of O.out
    have fo3 : w5.frozen? ⟨w.heap.size + 1, 3, none⟩ = false := free_of O.out
    have fo4 : w5.frozen? ⟨w.heap.size + 1, 4, none⟩ = false := free_of O.out
    have fo5 : w5.frozen? ⟨w.heap.size + 1, 5, none⟩ = false := free_of O.out
    go_wp2_with fail
    have KO5 : Hid ((((w5.setCell ⟨w.heap.size + 1, 1, none⟩ (.int .i64 b)).setCell ⟨w.heap.size + 1, 3, none⟩ (.string P))).heap[w.heap.size + 1]? = some (.cells #[.int .i64 a, .int .i64 b, .int .i64 t, .string P, .int .i64 0, .slice none 0 0] 53 (0, 0))) := setCell_heap (setCell_heap O.out)
    have KR7 : Hid ((((w5.setCell ⟨w.heap.size + 1, 1, none⟩ (.int .i64 b)).setCell ⟨w.heap.size + 1, 3, none⟩ (.string P))).heap[w.heap.size]? = some (.cells Z6 53 (0, 0))) := by unfold Hid; rw [set_block _ _ _ _ (by simp), set_block _ _ _ _ (by simp)]; exact KR5.out
    have K75 : Hid (Below w.heap.size w (((w5.setCell ⟨w.heap.size + 1, 1, none⟩ (.int .i64 b)).setCell ⟨w.heap.size + 1, 3, none⟩ (.string P)))) := (K5.out.setCell (p := ⟨w.heap.size + 1, 1, none⟩) (by simp) _).setCell (p := ⟨w.heap.size + 1, 3, none⟩) (by simp) _
    obtain ⟨w7, hw7⟩ : ∃ w7, w7 = ((w5.setCell ⟨w.heap.size + 1, 1, none⟩ (.int .i64 b)).setCell ⟨w.heap.size + 1, 3, none⟩ (.string P)) := ⟨_, rfl⟩
    rw [← hw7] at KO5 KR7 K75
    rw [← hw7]
    have KO := KO5
    have KR := KR7
    have K7 := K75
    have HV : Hid (∀ W, (∀ k, w.heap.size + 2 ≤ k → k < w7.heap.size → W.heap[k]? = w7.heap[k]?) → DtsAt W (.slice none 0 0) []) := fun W _ => DtsAt.nil W
    clear KO5 KR7 K75 KR5 K5 O o0 o1 o2 o3 o4 o5 fo0 fo1 fo2 fo3 fo4 fo5 hw7
    have CO := op_ref a b t P (0) (.slice none 0 0) ([]) w7 hPm (HV.out w7 (fun _ _ _ => rfl))
    by_cases hop : opE ((a, b), t, P, 0, []) = 0
    case neg =>
      have HE : Hid (decB s.toList = none) := by
        unfold Hid decB
        split
        · rfl
        · rw [HX.out, if_neg (fun e => hop e.1)]
      obtain ⟨q, hq⟩ : ∃ q, q = opE ((a, b), t, P, 0, []) := ⟨_, rfl⟩
      have hqn : (q != 0) = true := by rw [hq]; simpa using hop
      rw [← hq] at CO
      clear hq hop
      refine CO.mono ?_
      rintro e w8 ⟨rfl, hb8⟩
      have KB8 : Hid (Below w.heap.size w w8) := bel K7.out hb8
      have R : Hid (w8.heap[w.heap.size]? = some (.cells Z6 53 (0, 0))) := keep_heap hb8 KR.out
      have r0 : w8.cell? ⟨w.heap.size, 0, none⟩ = some (.int .i64 0) := cell_of R.out rfl
      have r1 : w8.cell? ⟨w.heap.size, 1, none⟩ = some (.int .i64 0) := cell_of R.out rfl
      have r2 : w8.cell? ⟨w.heap.size, 2, none⟩ = some (.int .i64 0) := cell_of R.out rfl
      have r3 : w8.cell? ⟨w.heap.size, 3, none⟩ = some (.string ⟨#[]⟩) := cell_of R.out rfl
      have r4 : w8.cell? ⟨w.heap.size, 4, none⟩ = some (.int .i64 0) := cell_of R.out rfl
      have r5 : w8.cell? ⟨w.heap.size, 5, none⟩ = some (.slice none 0 0) := cell_of R.out rfl
      have fr0 : w8.frozen? ⟨w.heap.size, 0, none⟩ = false := free_of R.out
      have fr1 : w8.frozen? ⟨w.heap.size, 1, none⟩ = false := free_of R.out
      have fr2 : w8.frozen? ⟨w.heap.size, 2, none⟩ = false := free_of R.out
      have fr3 : w8.frozen? ⟨w.heap.size, 3, none⟩ = false := free_of R.out
      have fr4 : w8.frozen? ⟨w.heap.size, 4, none⟩ = false := free_of R.out
      have fr5 : w8.frozen? ⟨w.heap.size, 5, none⟩ = false := free_of R.out
      clear hb8 CO
      go_wp2_with fail
      refine bodyPost_ret (v := .tuple #[opV oz (.slice none 0 0), .bool false]) ?_ rfl ⟨_, by rw [HE.out]; rfl, by rw [HE.out]; exact fun W _ => ⟨_, rfl, DtsAt.nil _⟩, ?_⟩
      · simp [results, Tryd.results25, opV, oz, go_sem, asAddr, Result.andThen, r0, r1, r2, r3, r4, r5]
        rfl
      · exact six6_below KB8.out (Nat.le_refl _) _ _ _ _ _ _
    rw [hop] at CO
    refine CO.mono ?_
    rintro e w8 ⟨rfl, hb8⟩
    have KB8 : Hid (Below w.heap.size w w8) := bel K7.out hb8
    have KR8 : Hid (w8.heap[w.heap.size]? = some (.cells Z6 53 (0, 0))) := keep_heap hb8 KR.out
    have O : Hid (w8.heap[w.heap.size + 1]? = some (.cells #[.int .i64 a, .int .i64 b, .int .i64 t, .string P, .int .i64 (0), .slice none 0 0] 53 (0, 0))) := keep_heap hb8 KO.out
    have HS8 : Hid (w7.heap.size ≤ w8.heap.size) := hb8.size
    have HK8 : Hid (∀ k, k < w7.heap.size → w8.heap[k]? = w7.heap[k]?) := hb8.block
    have o0 : w8.cell? ⟨w.heap.size + 1, 0, none⟩ = some (.int .i64 a) := cell_of O.out rfl
    have o1 : w8.cell? ⟨w.heap.size + 1, 1, none⟩ = some (.int .i64 b) := cell_of O.out rfl
    have o2 : w8.cell? ⟨w.heap.size + 1, 2, none⟩ = some (.int .i64 t) := cell_of O.out rfl
    have o3 : w8.cell? ⟨w.heap.size + 1, 3, none⟩ = some (.string P) := cell_of O.out rfl
    have o4 : w8.cell? ⟨w.heap.size + 1, 4, none⟩ = some (.int .i64 (0)) := cell_of O.out rfl
    have o5 : w8.cell? ⟨w.heap.size + 1, 5, none⟩ = some (.slice none 0 0) := cell_of O.out rfl
    have CB := bytes_ref a b t P (0) (.slice none 0 0) ([]) w8 (HV.out w8 (fun k _ hk => HK8.out k hk)) hop
    obtain ⟨T8, hT8⟩ : ∃ T8, T8 = bytesS ((a, b), t, P, 0, []) := ⟨_, rfl⟩
    rw [← hT8] at CB
    have HT8 : Hid (T8.toList = bytesB ((a, b), t, P, 0, [])) := by unfold Hid; rw [hT8, bytesS_list]
    have HOP : Hid (opE ((a, b), t, P, 0, []) = 0) := hop
    clear hb8 CO hT8 hop
    go_wp2_with fail
    refine CB.mono ?_
    rintro e w9 ⟨rfl, hb9⟩
    have KB9 : Hid (Below w.heap.size w w9) := bel KB8.out hb9
    have R : Hid (w9.heap[w.heap.size]? = some (.cells Z6 53 (0, 0))) := keep_heap hb9 KR8.out
    have r0 : w9.cell? ⟨w.heap.size, 0, none⟩ = some (.int .i64 0) := cell_of R.out rfl
    have r1 : w9.cell? ⟨w.heap.size, 1, none⟩ = some (.int .i64 0) := cell_of R.out rfl
    have r2 : w9.cell? ⟨w.heap.size, 2, none⟩ = some (.int .i64 0) := cell_of R.out rfl
    have r3 : w9.cell? ⟨w.heap.size, 3, none⟩ = some (.string ⟨#[]⟩) := cell_of R.out rfl
    have r4 : w9.cell? ⟨w.heap.size, 4, none⟩ = some (.int .i64 0) := cell_of R.out rfl
    have r5 : w9.cell? ⟨w.heap.size, 5, none⟩ = some (.slice none 0 0) := cell_of R.out rfl
    have fr0 : w9.frozen? ⟨w.heap.size, 0, none⟩ = false := free_of R.out
    have fr1 : w9.frozen? ⟨w.heap.size, 1, none⟩ = false := free_of R.out
    have fr2 : w9.frozen? ⟨w.heap.size, 2, none⟩ = false := free_of R.out
    have fr3 : w9.frozen? ⟨w.heap.size, 3, none⟩ = false := free_of R.out
    have fr4 : w9.frozen? ⟨w.heap.size, 4, none⟩ = false := free_of R.out
    have fr5 : w9.frozen? ⟨w.heap.size, 5, none⟩ = false := free_of R.out
    have KO9 : Hid (w9.heap[w.heap.size + 1]? = some (.cells #[.int .i64 a, .int .i64 b, .int .i64 t, .string P, .int .i64 (0), .slice none 0 0] 53 (0, 0))) := keep_heap hb9 O.out
    have HK9 : Hid (∀ k, w.heap.size + 2 ≤ k → k < w7.heap.size → w9.heap[k]? = w7.heap[k]?) := fun k _ hk => (hb9.block k (Nat.lt_of_lt_of_le hk HS8.out)).trans (HK8.out k hk)
    have HS9 : Hid (w7.heap.size ≤ w9.heap.size) := Nat.le_trans HS8.out hb9.size
    clear o0 o1 o2 o3 o4 o5
    have x0 : w9.cell? ⟨w.heap.size + 1, 0, none⟩ = some (.int .i64 a) := cell_of KO9.out rfl
    have x1 : w9.cell? ⟨w.heap.size + 1, 1, none⟩ = some (.int .i64 b) := cell_of KO9.out rfl
    have x2 : w9.cell? ⟨w.heap.size + 1, 2, none⟩ = some (.int .i64 t) := cell_of KO9.out rfl
    have x3 : w9.cell? ⟨w.heap.size + 1, 3, none⟩ = some (.string P) := cell_of KO9.out rfl
    have x4 : w9.cell? ⟨w.heap.size + 1, 4, none⟩ = some (.int .i64 (0)) := cell_of KO9.out rfl
    have x5 : w9.cell? ⟨w.heap.size + 1, 5, none⟩ = some (.slice none 0 0) := cell_of KO9.out rfl
    clear CB hb9
    by_cases hes : T8.toList = s.toList
    · have HE : Hid (decB s.toList = some ((a, b), t, P, 0, [])) := decB_iff.2 ⟨HOP.out, by rw [← HT8.out]; exact hes⟩
      have hesb : (T8.toList == s.toList) = true := by simpa using hes
      have HV9 : Hid (∀ x0 x1 x2 x3 x4 x5 W, (∀ k, w.heap.size ≤ k → k < (six6 w9 w.heap.size x0 x1 x2 x3 x4 x5).heap.size → W.heap[k]? = (six6 w9 w.heap.size x0 x1 x2 x3 x4 x5).heap[k]?) → DtsAt W (.slice none 0 0) ([])) := fun x0 x1 x2 x3 x4 x5 W hW => HV.out _ (fun k hk1 hk2 => (hW k (by omega) (by rw [six6_size]; exact Nat.lt_of_lt_of_le hk2 HS9.out)).trans ((six6_block _ _ _ _ _ _ _ _ _ (by omega)).trans (HK9.out k hk1 hk2)))
      clear hes
      go_wp2_with fail
      refine bodyPost_ret (v := .tuple #[opV ((a, b), t, P, 0, []) (.slice none 0 0), .bool true]) ?_ rfl ⟨_, by rw [HE.out]; rfl, by rw [HE.out]; exact fun W hW => ⟨_, rfl, HV9.out _ _ _ _ _ _ W hW⟩, ?_⟩
      · simp [results, Tryd.results25, opV, go_sem, asAddr, Result.andThen, r0, r1, r2, r3, r4, r5]
      · exact six6_below KB9.out (Nat.le_refl _) _ _ _ _ _ _
    · have HE : Hid (decB s.toList = none) := by
        unfold Hid decB
        split
        · rfl
        · rw [HX.out, if_neg (fun e => hes (HT8.out.trans e.2))]
      have hesb : (T8.toList == s.toList) = false := by simpa using hes
      clear hes
      go_wp2_with fail
      refine bodyPost_ret (v := .tuple #[opV oz (.slice none 0 0), .bool false]) ?_ rfl ⟨_, by rw [HE.out]; rfl, by rw [HE.out]; exact fun W _ => ⟨_, rfl, DtsAt.nil _⟩, ?_⟩
      · simp [results, Tryd.results25, opV, oz, go_sem, asAddr, Result.andThen, r0, r1, r2, r3, r4, r5]
        rfl
      · exact six6_below KB9.out (Nat.le_refl _) _ _ _ _ _ _
  have t4b : (t == 4) = true := by simpa using t4
  obtain ⟨m, hm0⟩ : ∃ m : Nat, (R0[0].toNat : Int) = (m : Int) := ⟨_, rfl⟩
  obtain ⟨TT, hTT⟩ : ∃ TT, TT = threes m R0.toList.tail := ⟨_, rfl⟩
  have HX : Hid (readB s.toList = ((a, b), t, P, 0, TT)) := by
    unfold Hid; rw [HRD]; unfold letterIn seenIn
    rw [if_neg t1, if_pos t4, ← head_at, hR0, show R0[0].toNat = m by omega, ← hTT]
  have HTL : Hid (TT.length = min m ((R0.size - 1) / 3)) := by
    unfold Hid; rw [hTT, threes_len, List.length_tail, Om.len_eq]
  have HTA : Hid (∀ k, k < TT.length → TT.getD k noneD = (((R0.toList.getD (1 + 3 * k) 0).toNat : Int), ((numAt R0.toList (2 + 3 * k) : Nat) : Int))) := by
    intro k hk
    rw [hTT] at hk ⊢
    rw [threes_at m _ k hk]
    unfold numAt
    rw [tail_at, tail_at, tail_at, show 3 * k + 1 = 1 + 3 * k by omega, show 1 + 3 * k + 1 = 2 + 3 * k by omega]
  obtain ⟨n, hn⟩ : ∃ n, n = TT.length := ⟨_, rfl⟩
  have HN : Hid (n = TT.length) := hn
  have hnm : n ≤ m := by rw [hn, HTL.out]; omega
  have hn255 : n ≤ 255 := by omega
  have HNE : Hid (∀ k, k < n ↔ k < m ∧ 4 + 3 * k ≤ R0.size) := by intro k; rw [hn, HTL.out]; omega
  clear HRD hR0 t1 t4 hTT hn hnm
  go_enter Tryd.func25, Tryd.ntmps25
  go_wp2_with fail
  refine (CN _).mono ?_
  rintro e w5 ⟨rfl, hb5⟩
  obtain ⟨hr5, ho5, hbb5, hsz5⟩ := two_boxes hb5
  have KR5 : Hid (w5.heap[w.heap.size]? = some (.cells Z6 53 (0, 0))) := hr5
  have O : Hid (w5.heap[w.heap.size + 1]? = some (.cells #[.int .i64 a, .int .i64 0, .int .i64 t, .string ⟨#[]⟩, .int .i64 0, .slice none 0 0] 53 (0, 0))) := ho5
  have K5 : Hid (Below w.heap.size w w5) := hbb5
  have HZ5 : Hid (w.heap.size + 2 ≤ w5.heap.size) := hsz5
  clear hb5 hr5 ho5 hbb5 hsz5 CN
  have o0 : w5.cell? ⟨w.heap.size + 1, 0, none⟩ = some (.int .i64 a) := cell_of O.out rfl
  have o1 : w5.cell? ⟨w.heap.size + 1, 1, none⟩ = some (.int .i64 0) := cell_of O.out rfl
  have o2 : w5.cell? ⟨w.heap.size + 1, 2, none⟩ = some (.int .i64 t) := cell_of O.out rfl
  have o3 : w5.cell? ⟨w.heap.size + 1, 3, none⟩ = some (.string ⟨#[]⟩) := cell_of O.out rfl
  have o4 : w5.cell? ⟨w.heap.size + 1, 4, none⟩ = some (.int .i64 0) := cell_of O.out rfl
  have o5 : w5.cell? ⟨w.heap.size + 1, 5, none⟩ = some (.slice none 0 0) := cell_of O.out rfl
  have fo0 : w5.frozen? ⟨w.heap.size + 1, 0, none⟩ = false := free_of O.out
  have fo1 : w5.frozen? ⟨w.heap.size + 1, 1, none⟩ = false := free_of O.out
  have fo2 : w5.frozen? ⟨w.heap.size + 1, 2, none⟩ = false := free_of O.out
  have fo3 : w5.frozen? ⟨w.heap.size + 1, 3, none⟩ = false := free_of O.out
  have fo4 : w5.frozen? ⟨w.heap.size + 1, 4, none⟩ = false := free_of O.out
  have fo5 : w5.frozen? ⟨w.heap.size + 1, 5, none⟩ = false := free_of O.out
  go_wp2_with fail
  have KO5 : Hid (((w5.setCell ⟨w.heap.size + 1, 1, none⟩ (.int .i64 b)).setCell ⟨w.heap.size + 1, 3, none⟩ (.string P)).heap[w.heap.size + 1]? = some (.cells #[.int .i64 a, .int .i64 b, .int .i64 t, .string P, .int .i64 0, .slice none 0 0] 53 (0, 0))) := setCell_heap (setCell_heap O.out)
  have KR7 : Hid (((w5.setCell ⟨w.heap.size + 1, 1, none⟩ (.int .i64 b)).setCell ⟨w.heap.size + 1, 3, none⟩ (.string P)).heap[w.heap.size]? = some (.cells Z6 53 (0, 0))) := by unfold Hid; rw [set_block _ _ _ _ (by simp), set_block _ _ _ _ (by simp)]; exact KR5.out
  have K75 : Hid (Below w.heap.size w ((w5.setCell ⟨w.heap.size + 1, 1, none⟩ (.int .i64 b)).setCell ⟨w.heap.size + 1, 3, none⟩ (.string P))) := (K5.out.setCell (p := ⟨w.heap.size + 1, 1, none⟩) (by simp) _).setCell (p := ⟨w.heap.size + 1, 3, none⟩) (by simp) _
  have HZ7 : Hid (w.heap.size + 2 ≤ ((w5.setCell ⟨w.heap.size + 1, 1, none⟩ (.int .i64 b)).setCell ⟨w.heap.size + 1, 3, none⟩ (.string P)).heap.size) := by have := HZ5.out; unfold Hid; simpa [World.setCell] using this
  obtain ⟨w7, hw7⟩ : ∃ w7, w7 = ((w5.setCell ⟨w.heap.size + 1, 1, none⟩ (.int .i64 b)).setCell ⟨w.heap.size + 1, 3, none⟩ (.string P)) := ⟨_, rfl⟩
  rw [← hw7] at KO5 KR7 K75 HZ7
  rw [← hw7]
  clear KR5 K5 O o0 o1 o2 o3 o4 o5 fo0 fo1 fo2 fo3 fo4 fo5 hw7 HZ5
  obtain ⟨i0, hi, hz0, hz1, hzz2⟩ := info_parts infoD
  go_loopw [7] (fun i wr => ∃ (k : Nat) (v : Value), k ≤ n ∧ i = .int .i64 k ∧ (∃ p0 n0 c0, v = .slice p0 n0 c0) ∧ Hid (wr.heap[w.heap.size]? = some (.cells Z6 53 (0, 0))) ∧ Hid (wr.heap[w.heap.size + 1]? = some (.cells #[.int .i64 a, .int .i64 b, .int .i64 t, .string P, .int .i64 0, v] 53 (0, 0))) ∧ Hid (wr.ownsRow (w.heap.size + 2) 24 2 v (TT.take k).length (flatD (TT.take k))) ∧ Hid (Below w.heap.size w wr) ∧ Hid (w.heap.size + 2 ≤ wr.heap.size)) (fun i _ => n - (intOf i).toNat)
  case atStart => exact ⟨0, .slice none 0 0, by omega, rfl, ⟨_, _, _, rfl⟩, KR7, KO5, World.ownsRow_nil _ _ _ _, K75, HZ7⟩
  case round =>
    clear KR7 KO5 K75 HZ7
    obtain ⟨k, v, hk, rfl, ⟨p0, n0, c0, rfl⟩, KR, KO, KW, K7, KZ⟩ := hrel
    by_cases hlt : k < n
    · obtain ⟨hkm, hkr⟩ := (HNE.out k).1 hlt
      have hkmz : (k : Int) < m := by omega
      have hkrz : (4 : Int) + 3 * (k : Int) ≤ R0.size := by omega
      obtain ⟨q1, hq1⟩ : ∃ q1 : Nat, (1 : Int) + 3 * (k : Int) = (q1 : Int) := ⟨1 + 3 * k, by omega⟩
      obtain ⟨q2, hq2⟩ : ∃ q2 : Nat, (2 : Int) + 3 * (k : Int) = (q2 : Int) := ⟨2 + 3 * k, by omega⟩
      have hq1s : q1 < R0.size := by omega
      have hq2s : q2 + 1 < R0.size := by omega
      have hqb : R0[q1].toNat < 256 := UInt8.toNat_lt _
      obtain ⟨x1, hx1⟩ : ∃ x1 : Int, (R0[q1].toNat : Int) = x1 := ⟨_, rfl⟩
      obtain ⟨x2, hx2⟩ : ∃ x2 : Int, ((numAt R0.toList q2 : Nat) : Int) = x2 := ⟨_, rfl⟩
      have HTK : Hid (TT.take (k + 1) = TT.take k ++ [(x1, x2)]) := by
        have hk2 : k < TT.length := by rw [← HN.out]; exact hlt
        have h9 := HTA.out k hk2
        rw [show 1 + 3 * k = q1 by omega, show 2 + 3 * k = q2 by omega, at_list R0 q1 hq1s, hx1, hx2, List.getD_eq_getElem?_getD, List.getElem?_eq_getElem hk2] at h9
        unfold Hid
        rw [List.take_add_one, List.getElem?_eq_getElem hk2]
        simp only [Option.getD_some] at h9
        rw [h9]; rfl
      have CN2 := fun W => number_ref R0 q2 W hq2s hRm
      rw [hx2] at CN2
      clear hx2
      go_wp2_with fail
      refine (CN2 _).mono ?_
      rintro e w8 ⟨rfl, hb8⟩
      have hb89 : Below wr.heap.size wr w8 := bel_new (Below.refl _ wr) hb8
      have KR8 : Hid (w8.heap[w.heap.size]? = some (.cells Z6 53 (0, 0))) := keep_heap hb89 KR.out
      have O : Hid (w8.heap[w.heap.size + 1]? = some (.cells #[.int .i64 a, .int .i64 b, .int .i64 t, .string P, .int .i64 0, .slice p0 n0 c0] 53 (0, 0))) := keep_heap hb89 KO.out
      have KW8 : Hid (w8.ownsRow (w.heap.size + 2) 24 2 (.slice p0 n0 c0) (TT.take k).length (flatD (TT.take k))) := own_below KW.out hb89
      have K8 : Hid (Below w.heap.size w w8) := bel K7.out hb89
      have hsz8 : wr.heap.size + 1 ≤ w8.heap.size := by have := hb8.size; simpa using this
      have E2 : Hid (w8.heap[wr.heap.size]? = some (.cells #[.int .i64 x1, .int .i64 0] 24 (0, 0))) := keep_heap hb8 (heap_alloc_new wr _)
      have HLT : Hid (wr.heap.size < w8.heap.size ∧ w.heap.size + 2 ≤ wr.heap.size) := ⟨by omega, KZ.out⟩
      have g0 : w8.cell? ⟨wr.heap.size, 0, none⟩ = some (.int .i64 x1) := cell_of E2.out rfl
      have g1 : w8.cell? ⟨wr.heap.size, 1, none⟩ = some (.int .i64 0) := cell_of E2.out rfl
      have fg1 : w8.frozen? ⟨wr.heap.size, 1, none⟩ = false := free_of E2.out
      have hne : ¬ w.heap.size + 1 = wr.heap.size := by have := KZ.out; omega
      have o5 : (w8.setCell ⟨wr.heap.size, 1, none⟩ (.int .i64 x2)).cell? ⟨w.heap.size + 1, 5, none⟩ = some (.slice p0 n0 c0) := by
        rw [World.cell?_setCell_other _ _ _ _ (by intro e; injection e; omega)]; exact cell_of O.out rfl
      have HOW : Hid ((w8.setCell ⟨wr.heap.size, 1, none⟩ (.int .i64 x2)).ownsRow (w.heap.size + 2) 24 2 (.slice p0 n0 c0) (TT.take k).length (flatD (TT.take k))) := by
        refine own_at KW.out ?_
        intro j hj1 hj2
        rw [set_block _ _ _ _ (by show j ≠ wr.heap.size; omega)]
        exact hb89.block j hj2
      have hcap1 : (TT.take k).length + 1 ≤ maxLen := by rw [List.length_take]; unfold maxLen; omega
      have hcap2 : ((TT.take k).length + 1) * 16 ≤ 140737488355328 := by rw [List.length_take]; omega
      have HNW : Hid (∀ j u, (flatD [(x1, x2)])[j]? = some u → ((w8.setCell ⟨wr.heap.size, 1, none⟩ (.int .i64 x2)).alloc (.cells #[.int .i64 x1, .int .i64 x2] 24)).cell? ((⟨w8.heap.size, 0, none⟩ : Addr).add j) = some u) := by
        have := dot_new (w8.setCell ⟨wr.heap.size, 1, none⟩ (.int .i64 x2)) x1 x2 24
        rwa [show (w8.setCell ⟨wr.heap.size, 1, none⟩ (.int .i64 x2)).heap.size = w8.heap.size by simp [World.setCell]] at this
      have HSB : Hid (w.heap.size + 2 ≤ ((w8.setCell ⟨wr.heap.size, 1, none⟩ (.int .i64 x2)).alloc (.cells #[.int .i64 x1, .int .i64 x2] 24)).heap.size) := by
        have := KZ.out; unfold Hid; simp [World.setCell]; omega
      have HBL : Hid (Below w.heap.size w ((w8.setCell ⟨wr.heap.size, 1, none⟩ (.int .i64 x2)).alloc (.cells #[.int .i64 x1, .int .i64 x2] 24))) := (K8.out.setCell (p := ⟨wr.heap.size, 1, none⟩) K7.out.size _).alloc (by have := K8.out.size; simpa [World.setCell] using this) _
      have HBX : Hid (∀ j, j < w.heap.size + 2 → ((w8.setCell ⟨wr.heap.size, 1, none⟩ (.int .i64 x2)).alloc (.cells #[.int .i64 x1, .int .i64 x2] 24)).heap[j]? = w8.heap[j]?) := by
        intro j hj
        have h9 := HLT.out
        rw [heap_alloc_old _ _ (by simp [World.setCell]; omega), set_block _ _ _ _ (by show j ≠ wr.heap.size; omega)]
      clear hb8 hb89 CN2
      go_wp2_with (at_builtin; refine wpList_append_own_at _ rfl (.tmp 96) (.tmp 98) 27 rfl (w.heap.size + 2) 24 i0 (.agg #[.int .i64 0, .int .i64 0]) 2 16 Tryd.underlying27 hi hz0 hz1 hzz2 rfl (by decide) (.slice p0 n0 c0) (TT.take k).length (flatD (TT.take k)) rfl (HOW.out.alloc _) ⟨w8.heap.size, 0, none⟩ 1 1 (flatD [(x1, x2)]) rfl rfl HNW.out (flatD_one _) hcap1 hcap2 HSB.out ?_; intro v9 w9 hown9 hgrow9 _ hat9; have KW9 : Hid (w9.ownsRow (w.heap.size + 2) 24 2 v9 (TT.take k ++ [(x1, x2)]).length (flatD (TT.take k ++ [(x1, x2)]))) := own_appD rfl rfl hown9; have K9 : Hid (Below w.heap.size w w9) := HBL.out.grown hgrow9 (by have := HSB.out; omega) (fun j hj => by have := own_ge HOW.out j hj; omega); have KX9 : Hid (∀ j, j < w.heap.size + 2 → w9.heap[j]? = w8.heap[j]?) := fun j hj => (hgrow9.block j (by have := HSB.out; omega) (fun e => by have := own_ge HOW.out j e.symm; omega)).trans (HBX.out j hj); have KZ9 : Hid (w.heap.size + 2 ≤ w9.heap.size) := Nat.le_trans HSB.out hgrow9.size; have O9 : Hid (w9.heap[w.heap.size + 1]? = some (.cells #[.int .i64 a, .int .i64 b, .int .i64 t, .string P, .int .i64 0, .slice p0 n0 c0] 53 (0, 0))) := (KX9.out _ (by omega)).trans O.out; have y5 : w9.cell? ⟨w.heap.size + 1, 5, none⟩ = some (.slice p0 n0 c0) := cell_of O9.out rfl; have fy5 : w9.frozen? ⟨w.heap.size + 1, 5, none⟩ = false := free_of O9.out; obtain ⟨p9, N9, c9, hv9, _⟩ := own_shape KW9.out; subst hv9; clear hown9 hgrow9 hat9 o5)
      rw [← HTK.out] at KW9
      go_roundw
      case rel => exact ⟨k + 1, _, by omega, by go_num, ⟨_, _, _, rfl⟩, by unfold Hid; rw [set_block _ _ _ _ (by simp)]; exact (KX9.out _ (by omega)).trans KR8.out, setCell_heap O9.out, own_at KW9.out (fun j hj _ => set_block _ _ _ _ (by show j ≠ w.heap.size + 1; omega)), K9.out.setCell (p := ⟨w.heap.size + 1, 5, none⟩) (by simp) _, by have := KZ9.out; unfold Hid; simpa [World.setCell] using this⟩
      case measure => simp [intOf]; omega
    · obtain rfl : n = k := by omega
      have hnn := HNE.out n
      have HV : Hid (∀ W, (∀ k, w.heap.size + 2 ≤ k → k < wr.heap.size → W.heap[k]? = wr.heap[k]?) → DtsAt W (.slice p0 n0 c0) TT) := by
        intro W hW
        have h9 := own_dts (own_at KW.out hW)
        rwa [List.take_of_length_le (by rw [← HN.out]; exact Nat.le_refl _)] at h9
      by_cases hkm : (n : Int) < m
      · have hkr : ¬ (4 : Int) + 3 * (n : Int) ≤ R0.size := by omega
        clear hnn
        have o0 : wr.cell? ⟨w.heap.size + 1, 0, none⟩ = some (.int .i64 a) := cell_of KO.out rfl
        have o1 : wr.cell? ⟨w.heap.size + 1, 1, none⟩ = some (.int .i64 b) := cell_of KO.out rfl
        have o2 : wr.cell? ⟨w.heap.size + 1, 2, none⟩ = some (.int .i64 t) := cell_of KO.out rfl
        have o3 : wr.cell? ⟨w.heap.size + 1, 3, none⟩ = some (.string P) := cell_of KO.out rfl
        have o4 : wr.cell? ⟨w.heap.size + 1, 4, none⟩ = some (.int .i64 0) := cell_of KO.out rfl
        have o5 : wr.cell? ⟨w.heap.size + 1, 5, none⟩ = some (.slice p0 n0 c0) := cell_of KO.out rfl
        go_wp2_with fail
        clear o0 o1 o2 o3 o4 o5
        have CO := op_ref a b t P (0) (.slice p0 n0 c0) (TT) wr hPm (HV.out wr (fun _ _ _ => rfl))
        by_cases hop : opE ((a, b), t, P, 0, TT) = 0
        case neg =>
          have HE : Hid (decB s.toList = none) := by
            unfold Hid decB
            split
            · rfl
            · rw [HX.out, if_neg (fun e => hop e.1)]
          obtain ⟨q, hq⟩ : ∃ q, q = opE ((a, b), t, P, 0, TT) := ⟨_, rfl⟩
          have hqn : (q != 0) = true := by rw [hq]; simpa using hop
          rw [← hq] at CO
          clear hq hop
          refine CO.mono ?_
          rintro e w8 ⟨rfl, hb8⟩
          have KB8 : Hid (Below w.heap.size w w8) := bel K7.out hb8
          have R : Hid (w8.heap[w.heap.size]? = some (.cells Z6 53 (0, 0))) := keep_heap hb8 KR.out
          have r0 : w8.cell? ⟨w.heap.size, 0, none⟩ = some (.int .i64 0) := cell_of R.out rfl
          have r1 : w8.cell? ⟨w.heap.size, 1, none⟩ = some (.int .i64 0) := cell_of R.out rfl
          have r2 : w8.cell? ⟨w.heap.size, 2, none⟩ = some (.int .i64 0) := cell_of R.out rfl
          have r3 : w8.cell? ⟨w.heap.size, 3, none⟩ = some (.string ⟨#[]⟩) := cell_of R.out rfl
          have r4 : w8.cell? ⟨w.heap.size, 4, none⟩ = some (.int .i64 0) := cell_of R.out rfl
          have r5 : w8.cell? ⟨w.heap.size, 5, none⟩ = some (.slice none 0 0) := cell_of R.out rfl
          have fr0 : w8.frozen? ⟨w.heap.size, 0, none⟩ = false := free_of R.out
          have fr1 : w8.frozen? ⟨w.heap.size, 1, none⟩ = false := free_of R.out
          have fr2 : w8.frozen? ⟨w.heap.size, 2, none⟩ = false := free_of R.out
          have fr3 : w8.frozen? ⟨w.heap.size, 3, none⟩ = false := free_of R.out
          have fr4 : w8.frozen? ⟨w.heap.size, 4, none⟩ = false := free_of R.out
          have fr5 : w8.frozen? ⟨w.heap.size, 5, none⟩ = false := free_of R.out
          clear hb8 CO
          go_wp2_with fail
          refine bodyPost_ret (v := .tuple #[opV oz (.slice none 0 0), .bool false]) ?_ rfl ⟨_, by rw [HE.out]; rfl, by rw [HE.out]; exact fun W _ => ⟨_, rfl, DtsAt.nil _⟩, ?_⟩
          · simp [results, Tryd.results25, opV, oz, go_sem, asAddr, Result.andThen, r0, r1, r2, r3, r4, r5]
            rfl
          · exact six6_below KB8.out (Nat.le_refl _) _ _ _ _ _ _
        rw [hop] at CO
        refine CO.mono ?_
        rintro e w8 ⟨rfl, hb8⟩
        have KB8 : Hid (Below w.heap.size w w8) := bel K7.out hb8
        have KR8 : Hid (w8.heap[w.heap.size]? = some (.cells Z6 53 (0, 0))) := keep_heap hb8 KR.out
        have O : Hid (w8.heap[w.heap.size + 1]? = some (.cells #[.int .i64 a, .int .i64 b, .int .i64 t, .string P, .int .i64 (0), .slice p0 n0 c0] 53 (0, 0))) := keep_heap hb8 KO.out
        have HS8 : Hid (wr.heap.size ≤ w8.heap.size) := hb8.size
        have HK8 : Hid (∀ k, k < wr.heap.size → w8.heap[k]? = wr.heap[k]?) := hb8.block
        have o0 : w8.cell? ⟨w.heap.size + 1, 0, none⟩ = some (.int .i64 a) := cell_of O.out rfl
        have o1 : w8.cell? ⟨w.heap.size + 1, 1, none⟩ = some (.int .i64 b) := cell_of O.out rfl
        have o2 : w8.cell? ⟨w.heap.size + 1, 2, none⟩ = some (.int .i64 t) := cell_of O.out rfl
        have o3 : w8.cell? ⟨w.heap.size + 1, 3, none⟩ = some (.string P) := cell_of O.out rfl
        have o4 : w8.cell? ⟨w.heap.size + 1, 4, none⟩ = some (.int .i64 (0)) := cell_of O.out rfl
        have o5 : w8.cell? ⟨w.heap.size + 1, 5, none⟩ = some (.slice p0 n0 c0) := cell_of O.out rfl
        have CB := bytes_ref a b t P (0) (.slice p0 n0 c0) (TT) w8 (HV.out w8 (fun k _ hk => HK8.out k hk)) hop
        obtain ⟨T8, hT8⟩ : ∃ T8, T8 = bytesS ((a, b), t, P, 0, TT) := ⟨_, rfl⟩
        rw [← hT8] at CB
        have HT8 : Hid (T8.toList = bytesB ((a, b), t, P, 0, TT)) := by unfold Hid; rw [hT8, bytesS_list]
        have HOP : Hid (opE ((a, b), t, P, 0, TT) = 0) := hop
        clear hb8 CO hT8 hop
        go_wp2_with fail
        refine CB.mono ?_
        rintro e w9 ⟨rfl, hb9⟩
        have KB9 : Hid (Below w.heap.size w w9) := bel KB8.out hb9
        have R : Hid (w9.heap[w.heap.size]? = some (.cells Z6 53 (0, 0))) := keep_heap hb9 KR8.out
        have r0 : w9.cell? ⟨w.heap.size, 0, none⟩ = some (.int .i64 0) := cell_of R.out rfl
        have r1 : w9.cell? ⟨w.heap.size, 1, none⟩ = some (.int .i64 0) := cell_of R.out rfl
        have r2 : w9.cell? ⟨w.heap.size, 2, none⟩ = some (.int .i64 0) := cell_of R.out rfl
        have r3 : w9.cell? ⟨w.heap.size, 3, none⟩ = some (.string ⟨#[]⟩) := cell_of R.out rfl
        have r4 : w9.cell? ⟨w.heap.size, 4, none⟩ = some (.int .i64 0) := cell_of R.out rfl
        have r5 : w9.cell? ⟨w.heap.size, 5, none⟩ = some (.slice none 0 0) := cell_of R.out rfl
        have fr0 : w9.frozen? ⟨w.heap.size, 0, none⟩ = false := free_of R.out
        have fr1 : w9.frozen? ⟨w.heap.size, 1, none⟩ = false := free_of R.out
        have fr2 : w9.frozen? ⟨w.heap.size, 2, none⟩ = false := free_of R.out
        have fr3 : w9.frozen? ⟨w.heap.size, 3, none⟩ = false := free_of R.out
        have fr4 : w9.frozen? ⟨w.heap.size, 4, none⟩ = false := free_of R.out
        have fr5 : w9.frozen? ⟨w.heap.size, 5, none⟩ = false := free_of R.out
        have KO9 : Hid (w9.heap[w.heap.size + 1]? = some (.cells #[.int .i64 a, .int .i64 b, .int .i64 t, .string P, .int .i64 (0), .slice p0 n0 c0] 53 (0, 0))) := keep_heap hb9 O.out
        have HK9 : Hid (∀ k, w.heap.size + 2 ≤ k → k < wr.heap.size → w9.heap[k]? = wr.heap[k]?) := fun k _ hk => (hb9.block k (Nat.lt_of_lt_of_le hk HS8.out)).trans (HK8.out k hk)
        have HS9 : Hid (wr.heap.size ≤ w9.heap.size) := Nat.le_trans HS8.out hb9.size
        clear o0 o1 o2 o3 o4 o5
        have x0 : w9.cell? ⟨w.heap.size + 1, 0, none⟩ = some (.int .i64 a) := cell_of KO9.out rfl
        have x1 : w9.cell? ⟨w.heap.size + 1, 1, none⟩ = some (.int .i64 b) := cell_of KO9.out rfl
        have x2 : w9.cell? ⟨w.heap.size + 1, 2, none⟩ = some (.int .i64 t) := cell_of KO9.out rfl
        have x3 : w9.cell? ⟨w.heap.size + 1, 3, none⟩ = some (.string P) := cell_of KO9.out rfl
        have x4 : w9.cell? ⟨w.heap.size + 1, 4, none⟩ = some (.int .i64 (0)) := cell_of KO9.out rfl
        have x5 : w9.cell? ⟨w.heap.size + 1, 5, none⟩ = some (.slice p0 n0 c0) := cell_of KO9.out rfl
        clear CB hb9
        by_cases hes : T8.toList = s.toList
        · have HE : Hid (decB s.toList = some ((a, b), t, P, 0, TT)) := decB_iff.2 ⟨HOP.out, by rw [← HT8.out]; exact hes⟩
          have hesb : (T8.toList == s.toList) = true := by simpa using hes
          have HV9 : Hid (∀ x0 x1 x2 x3 x4 x5 W, (∀ k, w.heap.size ≤ k → k < (six6 w9 w.heap.size x0 x1 x2 x3 x4 x5).heap.size → W.heap[k]? = (six6 w9 w.heap.size x0 x1 x2 x3 x4 x5).heap[k]?) → DtsAt W (.slice p0 n0 c0) (TT)) := fun x0 x1 x2 x3 x4 x5 W hW => HV.out _ (fun k hk1 hk2 => (hW k (by omega) (by rw [six6_size]; exact Nat.lt_of_lt_of_le hk2 HS9.out)).trans ((six6_block _ _ _ _ _ _ _ _ _ (by omega)).trans (HK9.out k hk1 hk2)))
          clear hes
          go_wp2_with fail
          refine bodyPost_ret (v := .tuple #[opV ((a, b), t, P, 0, TT) (.slice p0 n0 c0), .bool true]) ?_ rfl ⟨_, by rw [HE.out]; rfl, by rw [HE.out]; exact fun W hW => ⟨_, rfl, HV9.out _ _ _ _ _ _ W hW⟩, ?_⟩
          · simp [results, Tryd.results25, opV, go_sem, asAddr, Result.andThen, r0, r1, r2, r3, r4, r5]
          · exact six6_below KB9.out (Nat.le_refl _) _ _ _ _ _ _
        · have HE : Hid (decB s.toList = none) := by
            unfold Hid decB
            split
            · rfl
            · rw [HX.out, if_neg (fun e => hes (HT8.out.trans e.2))]
          have hesb : (T8.toList == s.toList) = false := by simpa using hes
          clear hes
          go_wp2_with fail
          refine bodyPost_ret (v := .tuple #[opV oz (.slice none 0 0), .bool false]) ?_ rfl ⟨_, by rw [HE.out]; rfl, by rw [HE.out]; exact fun W _ => ⟨_, rfl, DtsAt.nil _⟩, ?_⟩
          · simp [results, Tryd.results25, opV, oz, go_sem, asAddr, Result.andThen, r0, r1, r2, r3, r4, r5]
            rfl
          · exact six6_below KB9.out (Nat.le_refl _) _ _ _ _ _ _
      · clear hnn
        have o0 : wr.cell? ⟨w.heap.size + 1, 0, none⟩ = some (.int .i64 a) := cell_of KO.out rfl
        have o1 : wr.cell? ⟨w.heap.size + 1, 1, none⟩ = some (.int .i64 b) := cell_of KO.out rfl
        have o2 : wr.cell? ⟨w.heap.size + 1, 2, none⟩ = some (.int .i64 t) := cell_of KO.out rfl
        have o3 : wr.cell? ⟨w.heap.size + 1, 3, none⟩ = some (.string P) := cell_of KO.out rfl
        have o4 : wr.cell? ⟨w.heap.size + 1, 4, none⟩ = some (.int .i64 0) := cell_of KO.out rfl
        have o5 : wr.cell? ⟨w.heap.size + 1, 5, none⟩ = some (.slice p0 n0 c0) := cell_of KO.out rfl
        go_wp2_with fail
        clear o0 o1 o2 o3 o4 o5
        have CO := op_ref a b t P (0) (.slice p0 n0 c0) (TT) wr hPm (HV.out wr (fun _ _ _ => rfl))
        by_cases hop : opE ((a, b), t, P, 0, TT) = 0
        case neg =>
          have HE : Hid (decB s.toList = none) := by
            unfold Hid decB
            split
            · rfl
            · rw [HX.out, if_neg (fun e => hop e.1)]
          obtain ⟨q, hq⟩ : ∃ q, q = opE ((a, b), t, P, 0, TT) := ⟨_, rfl⟩
          have hqn : (q != 0) = true := by rw [hq]; simpa using hop
          rw [← hq] at CO
          clear hq hop
          refine CO.mono ?_
          rintro e w8 ⟨rfl, hb8⟩
          have KB8 : Hid (Below w.heap.size w w8) := bel K7.out hb8
          have R : Hid (w8.heap[w.heap.size]? = some (.cells Z6 53 (0, 0))) := keep_heap hb8 KR.out
          have r0 : w8.cell? ⟨w.heap.size, 0, none⟩ = some (.int .i64 0) := cell_of R.out rfl
          have r1 : w8.cell? ⟨w.heap.size, 1, none⟩ = some (.int .i64 0) := cell_of R.out rfl
          have r2 : w8.cell? ⟨w.heap.size, 2, none⟩ = some (.int .i64 0) := cell_of R.out rfl
          have r3 : w8.cell? ⟨w.heap.size, 3, none⟩ = some (.string ⟨#[]⟩) := cell_of R.out rfl
          have r4 : w8.cell? ⟨w.heap.size, 4, none⟩ = some (.int .i64 0) := cell_of R.out rfl
          have r5 : w8.cell? ⟨w.heap.size, 5, none⟩ = some (.slice none 0 0) := cell_of R.out rfl
          have fr0 : w8.frozen? ⟨w.heap.size, 0, none⟩ = false := free_of R.out
          have fr1 : w8.frozen? ⟨w.heap.size, 1, none⟩ = false := free_of R.out
          have fr2 : w8.frozen? ⟨w.heap.size, 2, none⟩ = false := free_of R.out
          have fr3 : w8.frozen? ⟨w.heap.size, 3, none⟩ = false := free_of R.out
          have fr4 : w8.frozen? ⟨w.heap.size, 4, none⟩ = false := free_of R.out
          have fr5 : w8.frozen? ⟨w.heap.size, 5, none⟩ = false := free_of R.out
          clear hb8 CO
          go_wp2_with fail
          refine bodyPost_ret (v := .tuple #[opV oz (.slice none 0 0), .bool false]) ?_ rfl ⟨_, by rw [HE.out]; rfl, by rw [HE.out]; exact fun W _ => ⟨_, rfl, DtsAt.nil _⟩, ?_⟩
          · simp [results, Tryd.results25, opV, oz, go_sem, asAddr, Result.andThen, r0, r1, r2, r3, r4, r5]
            rfl
          · exact six6_below KB8.out (Nat.le_refl _) _ _ _ _ _ _
        rw [hop] at CO
        refine CO.mono ?_
        rintro e w8 ⟨rfl, hb8⟩
        have KB8 : Hid (Below w.heap.size w w8) := bel K7.out hb8
        have KR8 : Hid (w8.heap[w.heap.size]? = some (.cells Z6 53 (0, 0))) := keep_heap hb8 KR.out
        have O : Hid (w8.heap[w.heap.size + 1]? = some (.cells #[.int .i64 a, .int .i64 b, .int .i64 t, .string P, .int .i64 (0), .slice p0 n0 c0] 53 (0, 0))) := keep_heap hb8 KO.out
        have HS8 : Hid (wr.heap.size ≤ w8.heap.size) := hb8.size
        have HK8 : Hid (∀ k, k < wr.heap.size → w8.heap[k]? = wr.heap[k]?) := hb8.block
        have o0 : w8.cell? ⟨w.heap.size + 1, 0, none⟩ = some (.int .i64 a) := cell_of O.out rfl
        have o1 : w8.cell? ⟨w.heap.size + 1, 1, none⟩ = some (.int .i64 b) := cell_of O.out rfl
        have o2 : w8.cell? ⟨w.heap.size + 1, 2, none⟩ = some (.int .i64 t) := cell_of O.out rfl
        have o3 : w8.cell? ⟨w.heap.size + 1, 3, none⟩ = some (.string P) := cell_of O.out rfl
        have o4 : w8.cell? ⟨w.heap.size + 1, 4, none⟩ = some (.int .i64 (0)) := cell_of O.out rfl
        have o5 : w8.cell? ⟨w.heap.size + 1, 5, none⟩ = some (.slice p0 n0 c0) := cell_of O.out rfl
        have CB := bytes_ref a b t P (0) (.slice p0 n0 c0) (TT) w8 (HV.out w8 (fun k _ hk => HK8.out k hk)) hop
        obtain ⟨T8, hT8⟩ : ∃ T8, T8 = bytesS ((a, b), t, P, 0, TT) := ⟨_, rfl⟩
        rw [← hT8] at CB
        have HT8 : Hid (T8.toList = bytesB ((a, b), t, P, 0, TT)) := by unfold Hid; rw [hT8, bytesS_list]
        have HOP : Hid (opE ((a, b), t, P, 0, TT) = 0) := hop
        clear hb8 CO hT8 hop
        go_wp2_with fail
        refine CB.mono ?_
        rintro e w9 ⟨rfl, hb9⟩
        have KB9 : Hid (Below w.heap.size w w9) := bel KB8.out hb9
        have R : Hid (w9.heap[w.heap.size]? = some (.cells Z6 53 (0, 0))) := keep_heap hb9 KR8.out
        have r0 : w9.cell? ⟨w.heap.size, 0, none⟩ = some (.int .i64 0) := cell_of R.out rfl
        have r1 : w9.cell? ⟨w.heap.size, 1, none⟩ = some (.int .i64 0) := cell_of R.out rfl
        have r2 : w9.cell? ⟨w.heap.size, 2, none⟩ = some (.int .i64 0) := cell_of R.out rfl
        have r3 : w9.cell? ⟨w.heap.size, 3, none⟩ = some (.string ⟨#[]⟩) := cell_of R.out rfl
        have r4 : w9.cell? ⟨w.heap.size, 4, none⟩ = some (.int .i64 0) := cell_of R.out rfl
        have r5 : w9.cell? ⟨w.heap.size, 5, none⟩ = some (.slice none 0 0) := cell_of R.out rfl
        have fr0 : w9.frozen? ⟨w.heap.size, 0, none⟩ = false := free_of R.out
        have fr1 : w9.frozen? ⟨w.heap.size, 1, none⟩ = false := free_of R.out
        have fr2 : w9.frozen? ⟨w.heap.size, 2, none⟩ = false := free_of R.out
        have fr3 : w9.frozen? ⟨w.heap.size, 3, none⟩ = false := free_of R.out
        have fr4 : w9.frozen? ⟨w.heap.size, 4, none⟩ = false := free_of R.out
        have fr5 : w9.frozen? ⟨w.heap.size, 5, none⟩ = false := free_of R.out
        have KO9 : Hid (w9.heap[w.heap.size + 1]? = some (.cells #[.int .i64 a, .int .i64 b, .int .i64 t, .string P, .int .i64 (0), .slice p0 n0 c0] 53 (0, 0))) := keep_heap hb9 O.out
        have HK9 : Hid (∀ k, w.heap.size + 2 ≤ k → k < wr.heap.size → w9.heap[k]? = wr.heap[k]?) := fun k _ hk => (hb9.block k (Nat.lt_of_lt_of_le hk HS8.out)).trans (HK8.out k hk)
        have HS9 : Hid (wr.heap.size ≤ w9.heap.size) := Nat.le_trans HS8.out hb9.size
        clear o0 o1 o2 o3 o4 o5
        have x0 : w9.cell? ⟨w.heap.size + 1, 0, none⟩ = some (.int .i64 a) := cell_of KO9.out rfl
        have x1 : w9.cell? ⟨w.heap.size + 1, 1, none⟩ = some (.int .i64 b) := cell_of KO9.out rfl
        have x2 : w9.cell? ⟨w.heap.size + 1, 2, none⟩ = some (.int .i64 t) := cell_of KO9.out rfl
        have x3 : w9.cell? ⟨w.heap.size + 1, 3, none⟩ = some (.string P) := cell_of KO9.out rfl
        have x4 : w9.cell? ⟨w.heap.size + 1, 4, none⟩ = some (.int .i64 (0)) := cell_of KO9.out rfl
        have x5 : w9.cell? ⟨w.heap.size + 1, 5, none⟩ = some (.slice p0 n0 c0) := cell_of KO9.out rfl
        clear CB hb9
        by_cases hes : T8.toList = s.toList
        · have HE : Hid (decB s.toList = some ((a, b), t, P, 0, TT)) := decB_iff.2 ⟨HOP.out, by rw [← HT8.out]; exact hes⟩
          have hesb : (T8.toList == s.toList) = true := by simpa using hes
          have HV9 : Hid (∀ x0 x1 x2 x3 x4 x5 W, (∀ k, w.heap.size ≤ k → k < (six6 w9 w.heap.size x0 x1 x2 x3 x4 x5).heap.size → W.heap[k]? = (six6 w9 w.heap.size x0 x1 x2 x3 x4 x5).heap[k]?) → DtsAt W (.slice p0 n0 c0) (TT)) := fun x0 x1 x2 x3 x4 x5 W hW => HV.out _ (fun k hk1 hk2 => (hW k (by omega) (by rw [six6_size]; exact Nat.lt_of_lt_of_le hk2 HS9.out)).trans ((six6_block _ _ _ _ _ _ _ _ _ (by omega)).trans (HK9.out k hk1 hk2)))
          clear hes
          go_wp2_with fail
          refine bodyPost_ret (v := .tuple #[opV ((a, b), t, P, 0, TT) (.slice p0 n0 c0), .bool true]) ?_ rfl ⟨_, by rw [HE.out]; rfl, by rw [HE.out]; exact fun W hW => ⟨_, rfl, HV9.out _ _ _ _ _ _ W hW⟩, ?_⟩
          · simp [results, Tryd.results25, opV, go_sem, asAddr, Result.andThen, r0, r1, r2, r3, r4, r5]
          · exact six6_below KB9.out (Nat.le_refl _) _ _ _ _ _ _
        · have HE : Hid (decB s.toList = none) := by
            unfold Hid decB
            split
            · rfl
            · rw [HX.out, if_neg (fun e => hes (HT8.out.trans e.2))]
          have hesb : (T8.toList == s.toList) = false := by simpa using hes
          clear hes
          go_wp2_with fail
          refine bodyPost_ret (v := .tuple #[opV oz (.slice none 0 0), .bool false]) ?_ rfl ⟨_, by rw [HE.out]; rfl, by rw [HE.out]; exact fun W _ => ⟨_, rfl, DtsAt.nil _⟩, ?_⟩
          · simp [results, Tryd.results25, opV, oz, go_sem, asAddr, Result.andThen, r0, r1, r2, r3, r4, r5]
            rfl
          · exact six6_below KB9.out (Nat.le_refl _) _ _ _ _ _ _

end Oh
end Go.Proofs.YtcmoajlcmeimiaaDoor
