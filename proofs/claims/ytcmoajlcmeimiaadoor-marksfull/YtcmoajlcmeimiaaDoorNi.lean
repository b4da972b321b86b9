/- What marks.Seen answers, at all marks. -/
import Derived.Test.YtcmoajlcmeimiaaDoorNf
namespace Go.Proofs.YtcmoajlcmeimiaaDoor
namespace Ni
set_option linter.unusedVariables false
open Go.ChangeShapes Go.WideShapes Go.ChangeAt Go.RowKit Cm Ka Kb Na Nb Nc Nd Nse Nf
open La (bel bel_drew errV_zero errV_ne own_ge own_grow own_below)

theorem infoDot : (Tryd.prog.info? 24).map (fun i => (i.zero, i.size, i.bytes)) = some (some (.agg #[.int .i64 0, .int .i64 0]), 2, 16) := by kernel_rfl
theorem dot_new (w : World) (a b : Int) (t : TypeId) : ∀ j u, (flatD [(a, b)])[j]? = some u → (w.alloc (.cells #[.int .i64 a, .int .i64 b] t)).cell? ((⟨w.heap.size, 0, none⟩ : Addr).add j) = some u := by
  intro j u hu
  have h2 : (w.alloc (.cells #[.int .i64 a, .int .i64 b] t)).heap[w.heap.size]? = some (.cells #[.int .i64 a, .int .i64 b] t) := heap_alloc_new w _
  have e : flatD [(a, b)] = [.int .i64 a, .int .i64 b] := rfl
  rw [e] at hu
  rw [Addr.add_lit, Nat.zero_add]
  simp only [World.cell?, h2]
  simpa using hu
theorem own_appD {w : World} {base : Nat} {t : TypeId} {v : Value} {n m : Nat} {a b : List Dt} (hn : a.length = n) (hm : b.length = m) (h : w.ownsRow base t 2 v (n + m) (flatD a ++ flatD b)) : w.ownsRow base t 2 v (a ++ b).length (flatD (a ++ b)) := by
  rw [List.length_append, flatD_append, hn, hm]; exact h
theorem dotsAt_take {l : List Mk} {p : ByteArray} {k : Nat} {x : Mk} (hk : k < l.length) (hx : x = l.getD k none1) :
    dotsAt (l.take (k + 1)) p = if x.1 = p then dotsAt (l.take k) p ++ [x.2] else dotsAt (l.take k) p := by
  have e : l.take (k + 1) = l.take k ++ [x] := by
    rw [hx, List.getD_eq_getElem?_getD, List.getElem?_eq_getElem hk, List.take_add_one, List.getElem?_eq_getElem hk]; rfl
  unfold dotsAt at'
  rw [e, List.filter_append, List.map_append]
  by_cases h : x.1 = p
  · simp [h]
  · simp [h]
theorem dotsAt_len (l : List Mk) (p : ByteArray) : (dotsAt l p).length ≤ l.length := by
  unfold dotsAt at'; rw [List.length_map]; exact List.length_filter_le _ _

set_option maxRecDepth 100000 in
set_option maxHeartbeats 2000000 in
theorem seen_loc (q : Option Addr) (n c : Nat) (l : List Mk) (p : ByteArray) (w : World) (hA : MksAt w (.slice q n c) l) (hs : ∀ x ∈ l, x.1.size ≤ maxLen) (hp : p.size ≤ maxLen) (h0 : seenE l p = 0) :
    Calls Tryd.prog 16 #[.slice q n c, .string p] w fun e w' => ∃ v', e = .returned (.tuple #[v', .nilIface]) ∧ w'.ownsRow w.heap.size 24 2 v' (dotsAt l p).length (flatD (dotsAt l p)) ∧ Below w.heap.size w w' := by
  have C := checkMWith_any _ l p w hA hs hp
  rw [h0, errV_zero] at C
  obtain ⟨hl40, _, _⟩ := marksE_zero.1 (seenE_zero.1 h0).1
  obtain ⟨q', c', hv, hlf, hcc, hcm, _⟩ := hA
  injection hv with hv1 hv2 hv3
  subst hv1 hv3
  have hn40 : n ≤ 40 := by omega
  have HL : Hid (l.length = n) := hv2.symm
  have HI : Hid (MarksIn w q l) := hlf
  obtain ⟨i0, hi, hz0, hz1, hz2⟩ := info_parts infoDot
  clear hs hp h0 hl40 hlf hcc hcm hv2
  go_enter Tryd.func16, Tryd.ntmps16
  go_wp2_with fail
  refine C.mono ?_
  rintro e w1 ⟨rfl, hb1⟩
  have HB1 : Hid (Below w.heap.size w w1) := hb1
  clear hb1 C
  go_wp2_with fail
  go_loopw [7, 18] (fun d i wr => ∃ (k : Nat), k ≤ n ∧ i = .int .i64 k ∧ Hid (wr.ownsRow w.heap.size 24 2 d (dotsAt (l.take k) p).length (flatD (dotsAt (l.take k) p))) ∧ Hid (Below w.heap.size w wr)) (fun _ i _ => n - (intOf i).toNat)
  case atStart => exact ⟨0, by omega, rfl, World.ownsRow_nil _ _ _ _, HB1⟩
  case round =>
    clear HB1
    obtain ⟨k, hk, rfl, HO, HB⟩ := hrel
    by_cases hlt : k < n
    · have hltz : (k : Int) < n := by omega
      obtain ⟨b, o, rfl, hc⟩ := HI.out.some (by intro e; have := HL.out; rw [e] at this; simp at this; omega)
      have hkl : k < l.length := by rw [HL.out]; exact hlt
      have ha := (hc k hkl).below HB.out (hc k hkl).lt
      obtain ⟨x, hx⟩ : ∃ x, x = l.getD k none1 := ⟨_, rfl⟩
      have HT : Hid (dotsAt (l.take (k + 1)) p = if x.1 = p then dotsAt (l.take k) p ++ [x.2] else dotsAt (l.take k) p) := dotsAt_take hkl hx
      rw [← hx] at ha
      obtain ⟨sx, x1, x2⟩ := x
      obtain ⟨a1, a2, a3⟩ := ha
      simp only at a1 a2 a3
      have hdl := dotsAt_len (l.take k) p
      rw [List.length_take] at hdl
      obtain ⟨D, hD⟩ : ∃ D, D = dotsAt (l.take k) p := ⟨_, rfl⟩
      rw [← hD] at HO HT hdl
      have hd40 : D.length ≤ 40 := by omega
      clear hc hx hD hdl
      by_cases hpe : sx = p
      · subst hpe
        have HT2 : Hid (dotsAt (l.take (k + 1)) sx = D ++ [(x1, x2)]) := by unfold Hid; rw [HT.out, if_pos rfl]
        clear HT
        have HB2 : Hid (∀ O1 O2, Below w.heap.size w ((wr.alloc O1).alloc O2)) := fun O1 O2 => (HB.out.alloc HB.out.size O1).alloc (by have := HB.out.size; simp; omega) O2
        have HO2 : Hid (∀ O1 O2, ((wr.alloc O1).alloc O2).ownsRow w.heap.size 24 2 u7 D.length (flatD D)) := fun O1 O2 => (HO.out.alloc O1).alloc O2
        have HN : Hid (∀ O1, ∀ j u, (flatD [(x1, x2)])[j]? = some u → ((wr.alloc O1).alloc (.cells #[.int .i64 x1, .int .i64 x2] 24)).cell? ((⟨wr.heap.size + 1, 0, none⟩ : Addr).add j) = some u) := by
          intro O1
          have := dot_new (wr.alloc O1) x1 x2 24
          rwa [show (wr.alloc O1).heap.size = wr.heap.size + 1 by simp] at this
        have HSZ : Hid (∀ O1 O2, w.heap.size ≤ ((wr.alloc O1).alloc O2).heap.size) := fun O1 O2 => by have := HB.out.size; simp; omega
        have hcap1 : D.length + 1 ≤ maxLen := by unfold maxLen; omega
        have hcap2 : (D.length + 1) * 16 ≤ 140737488355328 := by omega
        go_wp2_with (at_builtin; refine wpList_append_own_at _ rfl (.tmp 26) (.tmp 29) 27 rfl w.heap.size 24 i0 (.agg #[.int .i64 0, .int .i64 0]) 2 16 Tryd.underlying27 hi hz0 hz1 hz2 rfl (by decide) u7 D.length (flatD D) rfl (HO2.out _ _) ⟨wr.heap.size + 1, 0, none⟩ 1 1 (flatD [(x1, x2)]) rfl rfl (HN.out _) (flatD_one _) hcap1 hcap2 (HSZ.out _ _) ?_; intro v' w3 hown' hgrow _ hat; have HB3 : Hid (Below w.heap.size w w3) := own_grow HO.out (HB2.out _ _) hgrow (HSZ.out _ _); have HW4 : Hid (w3.ownsRow w.heap.size 24 2 v' (D ++ [(x1, x2)]).length (flatD (D ++ [(x1, x2)]))) := own_appD rfl rfl hown'; clear hown' hgrow hat)
        rw [← HT2.out] at HW4
        go_roundw
        case rel => exact ⟨k + 1, by omega, by go_num, HW4, HB3⟩
        case measure => simp [intOf]; omega
      · have hne : ¬ sx.toList = p.toList := fun e => hpe (Bm.bytes_inj e)
        have hnb : (sx.toList == p.toList) = false := by simpa using hne
        have HW2 : Hid (∀ O, (wr.alloc O).ownsRow w.heap.size 24 2 u7 (dotsAt (l.take (k + 1)) p).length (flatD (dotsAt (l.take (k + 1)) p))) := by
          intro O; rw [HT.out, if_neg hpe]; exact HO.out.alloc _
        clear HT hne hpe
        have HB2 : Hid (∀ O, Below w.heap.size w (wr.alloc O)) := fun O => HB.out.alloc HB.out.size O
        go_wp2_with fail
        go_roundw
        case rel => exact ⟨k + 1, by omega, by go_num, HW2.out _, HB2.out _⟩
        case measure => simp [intOf]; omega
    · obtain rfl : k = n := by omega
      have HD : Hid (wr.ownsRow w.heap.size 24 2 u7 (dotsAt l p).length (flatD (dotsAt l p))) := by
        have := HO.out
        rwa [List.take_of_length_le (by rw [HL.out]; exact Nat.le_refl _)] at this
      go_wp2_with fail
      go_ret2
      exact ⟨_, rfl, HD.out, HB.out⟩

theorem seen_ok (q : Option Addr) (n c : Nat) (l : List Mk) (p : ByteArray) (w : World) (hA : MksAt w (.slice q n c) l) (hs : ∀ x ∈ l, x.1.size ≤ maxLen) (hp : p.size ≤ maxLen) (h0 : seenE l p = 0) :
    Calls Tryd.prog 16 #[.slice q n c, .string p] w fun e w' => ∃ v', e = .returned (.tuple #[v', .nilIface]) ∧ DtsAt w' v' (dotsAt l p) ∧ Below w.heap.size w w' := by
  refine (seen_loc q n c l p w hA hs hp h0).mono ?_
  rintro e w' ⟨v', rfl, h1, h2⟩
  exact ⟨v', rfl, own_dts h1, h2⟩
theorem seen_any (v : Value) (l : List Mk) (p : ByteArray) (w : World) (h : MksAt w v l) (hs : ∀ x ∈ l, x.1.size ≤ maxLen) (hp : p.size ≤ maxLen) :
    Calls Tryd.prog 16 #[v, .string p] w fun e w' => ∃ v', e = .returned (.tuple #[v', errV (seenE l p)]) ∧ DtsAt w' v' (seenL l p) ∧ Below w.heap.size w w' := by
  by_cases h0 : seenE l p = 0
  · have e : seenL l p = dotsAt l p := by unfold seenL; rw [if_pos h0]
    rw [h0, e, errV_zero]
    have h2 := h
    obtain ⟨q, c, rfl, _⟩ := h2
    exact seen_ok q _ c l p w h hs hp h0
  · have e : seenL l p = [] := by unfold seenL; rw [if_neg h0]
    have C := checkMWith_any v l p w h hs hp
    rw [e]
    obtain ⟨z, hz⟩ : ∃ z, z = seenE l p := ⟨_, rfl⟩
    rw [errV_ne h0, ← hz] at C ⊢
    clear h hs hp h0 e hz
    go_enter Tryd.func16, Tryd.ntmps16
    go_wp2_with fail
    refine C.mono ?_
    rintro e w1 ⟨rfl, hb1⟩
    have HB1 : Hid (Below w.heap.size w w1) := hb1
    clear hb1 C
    go_wp2_with fail
    go_ret2
    exact ⟨_, rfl, DtsAt.nil _, HB1.out⟩

end Ni
end Go.Proofs.YtcmoajlcmeimiaaDoor
