/- Package cache: add, remove. -/
import Derived.Test.YtllcmfbkingfdaaGreatFp
namespace Go.Proofs.YtllcmfbkingfdaaGreat
namespace Fq
set_option linter.unusedVariables false
set_option linter.unusedSimpArgs false
open Go.ChangeShapes Go.WideShapes Go.ChangeAt Go.RowKit Ka Kb Ef Fc Fl Fm Fo Fp
open Fb (Kp names get? off used trim Inv)
open Ec (e0)

/- what the cache keeps, in whichever order the map has it -/
def St (w : World) (X B b : Nat) (m : List Kp) (v : Value) : Prop := (names m).Nodup ∧ ∃ M, Raw w X B b (used m) v M (names m) ∧ Rel M m
/- what a call leaves -/
def Nxt (w : World) (X B b : Nat) (v : Value) (m' : List Kp) (w' : World) : Prop := ∃ v', St w' X B b m' v' ∧ Chg (Fs X B v) w w' ∧ ∀ k, v'.ownBlock = some k → v.ownBlock = some k ∨ w.heap.size ≤ k
theorem St.lt {w : World} {X B b : Nat} {m : List Kp} {v : Value} (h : St w X B b m v) : ∀ k, Fs X B v k → k < w.heap.size := by
  obtain ⟨_, M, r, _⟩ := h; exact r.lt
theorem St.stay {w w' : World} {X B b : Nat} {m : List Kp} {v : Value} (h : St w X B b m v) (hs : Stay (Fs X B v) w w') : St w' X B b m v := by
  obtain ⟨h1, M, r, h2⟩ := h; exact ⟨h1, M, r.stay hs, h2⟩
theorem St.below {w w' : World} {X B b : Nat} {m : List Kp} {v : Value} (h : St w X B b m v) (hb : Below w.heap.size w w') : St w' X B b m v := h.stay fun k hk => hb.block k (h.lt k hk)
theorem Nxt.same {w w' : World} {X B b : Nat} {m : List Kp} {v : Value} (h : St w X B b m v) (hb : Below w.heap.size w w') : Nxt w X B b v m w' := ⟨v, h.below hb, Chg.ofBelow hb _, fun k e => Or.inl e⟩
theorem Nxt.after {w w1 w2 : World} {X B b : Nat} {m2 : List Kp} {v v1 : Value} (hc : Chg (Fs X B v) w w1) (hl : ∀ k, v1.ownBlock = some k → v.ownBlock = some k ∨ w.heap.size ≤ k) (h2 : Nxt w1 X B b v1 m2 w2) : Nxt w X B b v m2 w2 := by
  obtain ⟨v2, s2, c2, l2⟩ := h2
  refine ⟨v2, s2, hc.next c2 ?_, fun k e => ?_⟩
  · rintro k (e | e | e)
    · exact Or.inl (Or.inl e)
    · exact Or.inl (Or.inr (Or.inl e))
    · rcases hl k e with e | e
      · exact Or.inl (Or.inr (Or.inr e))
      · exact Or.inr e
  · rcases l2 k e with e | e
    · exact hl k e
    · exact Or.inr (Nat.le_trans hc.size e)

set_option maxRecDepth 100000 in
set_option maxHeartbeats 2000000 in
theorem add_raw (X B : Nat) (b u : Int) (v : Value) (M : List Kp) (l : List ByteArray) (p s : ByteArray) (w : World) (h : Raw w X B b u v M l) (hg : get? p M = none) (h0 : 0 ≤ u) (h1 : u ≤ 30000) (hs : s.size ≤ 30000) (hl : l.length ≤ 100000) :
    Calls Tryz.prog 27 #[ptr X, .string p, .string s] w fun e w' => e = .returned (.tuple #[]) ∧ ∃ v', Raw w' X B b (u + s.size) v' (M ++ [(p, s)]) (l ++ [p]) ∧ Chg (Fs X B v) w w' ∧ ∀ k, v'.ownBlock = some k → v.ownBlock = some k ∨ w.heap.size ≤ k := by
  obtain ⟨i0, hi, hz0, hz1, hz2⟩ := info_parts infoS
  have c2 := blk_cell h.blk (i := 2) (u := .map (some B)) rfl
  obtain ⟨w1, hup, hm1, hg1⟩ := update_run h.map p s hg
  have m1 := h.set_m hm1 hg1
  have HC1 : Hid (Chg (Fs X B v) w w1) := Chg.grown hg1 (fun g e => by injection e with e; exact Or.inr (Or.inl e.symm))
  have d1 := blk_cell m1.blk (i := 1) (u := .int .i64 u) rfl
  have fd1 := blk_free m1.blk (i := 1)
  obtain ⟨z, hz⟩ : ∃ z, z = u + (s.size : Int) := ⟨_, rfl⟩
  have hw : IntKind.i64.wrap (u + (s.size : Int)) = z := by rw [hz]; exact wrap_in (by omega) (by omega)
  rw [← hz]
  have m2 := m1.set_u z
  have HC2 : Hid (Chg (Fs X B v) w (w1.setCell ⟨X, 1, none⟩ (.int .i64 z))) := HC1.out.setCell (p := ⟨X, 1, none⟩) (Or.inl rfl) _
  have hsz : Int.ofNat s.size = (s.size : Int) := rfl
  clear h hg hm1 hg1 HC1 m1 hz
  go_enter Tryz.func27, Tryz.ntmps27
  obtain ⟨q, n, c, rfl, hn⟩ := own_shape m2.row
  have HN := Hid.mk' hn.out
  have e3 := blk_cell m2.blk (i := 3) (u := .slice q n c) rfl
  have hn9 : n ≤ 100000 := by have := hn.out; omega
  have HM := Hid.mk' m2
  generalize hW2 : w1.setCell ⟨X, 1, none⟩ (.int .i64 z) = w2 at m2 HC2 HM e3
  have HBA : Hid (Below w2.heap.size w2 (w2.alloc (.cells #[.string p] 9))) := (Below.refl _ w2).alloc (Nat.le_refl _) _
  have HOA : Hid ((w2.alloc (.cells #[.string p] 9)).ownsRow 0 9 1 (.slice q n c) n (l.map Value.string)) := by
    have h9 := own_below m2.row HBA.out
    rw [← hn.out] at h9
    exact h9
  have HTN := Hid.mk' (text_new w2 p)
  clear m2 hn hs hl h0 h1
  go_wp2_with (first | rw [hW2] | (at_builtin; refine wpList_append_own_at _ rfl (.tmp 25) (.tmp 27) 71 rfl 0 9 i0 (.string ByteArray.empty) 1 16 Tryz.underlying71 hi hz0 hz1 hz2 rfl (by decide) (.slice q n c) n (l.map Value.string) rfl HOA.out ⟨w2.heap.size, 0, none⟩ 1 1 [.string p] rfl rfl HTN.out (by intro u hu; rw [List.mem_singleton.1 hu]; rfl) (by unfold maxLen; omega) (by omega) (Nat.zero_le _) ?_; intro v' w3 hown' hgrow _ hat; obtain ⟨p9, n9, c9, rfl, _⟩ := own_shape hown'; have HR : Hid (RowT 0 w3 (.slice p9 n9 c9) (l ++ [p])) := own_appT (b := [p]) HN.out.symm rfl hown'; have HC : Hid (Chg (fun k => (Value.slice q n c).ownBlock = some k) w2 w3) := (Chg.ofBelow HBA.out _).trans (Chg.grown hgrow (fun g e => e)); have hb9 : w3.heap[X]? = some (.cells (four b z B (.slice q n c)) 73) := (HC.out.block X (HM.out.lt X (Or.inl rfl)) (fun e => HM.out.offX X e rfl)).trans HM.out.blk; have q9 := blk_cell hb9 (i := 3) (u := .slice q n c) rfl; have fq9 := blk_free hb9 (i := 3); have HL : Hid (∀ k, (Value.slice p9 n9 c9).ownBlock = some k → (Value.slice q n c).ownBlock = some k ∨ w2.heap.size ≤ k) := at_new hat HBA.out.size; clear hown' hgrow hat hb9))
  go_end0
  obtain ⟨r1, r2⟩ := HM.out.set_v HC.out HR.out
  refine ⟨rfl, _, r1, HC2.out.trans r2, fun k e => ?_⟩
  rcases HL.out k e with e | e
  · exact Or.inl e
  · exact Or.inr (Nat.le_trans HC2.out.size e)
theorem add_st (X B b : Nat) (m : List Kp) (v : Value) (p s : ByteArray) (w : World) (h : St w X B b m v) (hp : p ∉ names m) (hu : used m ≤ 20000) (hs : s.size ≤ 10000) (hl : m.length ≤ 2000) :
    Calls Tryz.prog 27 #[ptr X, .string p, .string s] w fun e w' => e = .returned (.tuple #[]) ∧ Nxt w X B b v (m ++ [(p, s)]) w' := by
  obtain ⟨hn, M, r, hr⟩ := h
  have hg : get? p M = none := by rw [hr p]; exact Fb.get_none.2 hp
  refine (add_raw X B b (used m) v M (names m) p s w r hg (by omega) (by omega) (by omega) (by unfold names; rw [List.length_map]; omega)).mono ?_
  rintro e w' ⟨rfl, v', r1, r2, r3⟩
  refine ⟨rfl, v', ⟨Fb.nodup_snoc hn hp, M ++ [(p, s)], ?_, hr.snoc _⟩, r2, r3⟩
  have e1 : ((used (m ++ [(p, s)]) : Nat) : Int) = (used m : Int) + (s.size : Int) := by
    rw [Fb.used_append]
    show ((used m + (s.size + 0) : Nat) : Int) = _
    omega
  have e2 : names (m ++ [(p, s)]) = names m ++ [p] := by unfold names; rw [List.map_append]; rfl
  rw [e1, e2]; exact r1

theorem stays_names (p : ByteArray) (m : List Kp) : stays p (names m) = names (off p m) := by rw [Fb.names_off]; rfl
theorem below_al (w : World) (O : Obj) : Below w.heap.size w (w.alloc O) := (Below.refl _ w).alloc (Nat.le_refl _) O
set_option maxRecDepth 100000 in
set_option maxHeartbeats 2000000 in
theorem remove_none (X B b : Nat) (m : List Kp) (v : Value) (p : ByteArray) (w : World) (h : St w X B b m v) (hg : get? p m = none) :
    Calls Tryz.prog 26 #[ptr X, .string p] w fun e w' => e = .returned (.tuple #[.string ByteArray.empty, .bool false]) ∧ Below w.heap.size w w' := by
  obtain ⟨hn, M, r, hr⟩ := h
  have hgM : get? p M = none := by rw [hr p]; exact hg
  obtain ⟨O, hO⟩ : ∃ O : Obj, O = .cells #[.string p] 9 := ⟨_, rfl⟩
  have HB : Hid (Below w.heap.size w (w.alloc (.cells #[.string p] 9))) := below_al w _
  have r1 := r.below HB.out
  have c2 := blk_cell r1.blk (i := 2) (u := .map (some B)) rfl
  have b1 := blk_cell (heap_alloc_new w (.cells #[.string p] 9)) (i := 0) (u := .string p) rfl
  have l1 := lookup_ok r1.map p
  have l2 := lookup_ok (w := (w.alloc (.cells #[.string p] 9)).drew) (r1.map.stay rfl) p
  rw [hgM] at l1 l2
  simp only [Option.getD_none, Option.isSome_none] at l1 l2
  clear hO r r1 hn hr hg hgM
  go_enter Tryz.func26, Tryz.ntmps26
  go_wp2_with fail
  go_region_law (fail)
  all_goals
    go_wp2_with fail
    go_ret2
    exact ⟨rfl, HB.out.drew⟩
theorem get_mem {p t : ByteArray} : ∀ {m : List Kp}, get? p m = some t → p ∈ names m
  | [], h => by cases h
  | x :: m, h => by
    by_cases e : x.1 = p
    · unfold names; rw [List.map_cons, e]; exact List.mem_cons_self
    · have h9 : get? p (x :: m) = get? p m := by
        show (if x.1 = p then some x.2 else get? p m) = _
        rw [if_neg e]
      rw [h9] at h
      exact List.mem_cons_of_mem _ (get_mem h)
theorem own_some {w : World} {v : Value} {l : List ByteArray} {p : ByteArray} (h : RowT 0 w v l) (hp : p ∈ l) : ∃ g c, v = .slice (some ⟨g, 0, none⟩) l.length c := by
  rcases h.2 with ⟨e, e0⟩ | ⟨g, cap, cur, e, _⟩
  · rw [List.eq_nil_of_length_eq_zero e0] at hp; cases hp
  · exact ⟨g, cap, e⟩
set_option maxRecDepth 100000 in
set_option maxHeartbeats 4000000 in
theorem remove_some (X B b : Nat) (m : List Kp) (v : Value) (p t : ByteArray) (w : World) (h : St w X B b m v) (hg : get? p m = some t) (hu : used m ≤ 20000) (hl : m.length ≤ 2000) :
    Calls Tryz.prog 26 #[ptr X, .string p] w fun e w' => e = .returned (.tuple #[.string t, .bool true]) ∧ Nxt w X B b v (off p m) w' := by
  obtain ⟨hn, M, r, hr⟩ := h
  have hgM : get? p M = some t := by rw [hr p]; exact hg
  have hto := Fb.used_off hn hg
  have HB : Hid (Below w.heap.size w (w.alloc (.cells #[.string p] 9))) := below_al w _
  have r1 := r.below HB.out
  have c2 := blk_cell r1.blk (i := 2) (u := .map (some B)) rfl
  have hbx := heap_alloc_new w (.cells #[.string p] 9)
  have b1 := blk_cell hbx (i := 0) (u := .string p) rfl
  have l1 := lookup_ok r1.map p
  have l2 := lookup_ok (w := (w.alloc (.cells #[.string p] 9)).drew) (r1.map.stay rfl) p
  rw [hgM] at l1 l2
  simp only [Option.getD_some, Option.isSome_some] at l1 l2
  obtain ⟨g, c, hv⟩ := own_some r.row (get_mem hg)
  have hln : (names m).length = m.length := by unfold names; rw [List.length_map]
  rw [hln] at hv
  obtain ⟨n, hnn⟩ : ∃ n, n = m.length := ⟨_, rfl⟩
  rw [← hnn] at hv
  subst hv
  have HX : Hid (X < w.heap.size ∧ B < w.heap.size ∧ g < w.heap.size) := ⟨r.lt X (Or.inl rfl), r.lt B (Or.inr (Or.inl rfl)), r.lt g (Or.inr (Or.inr rfl))⟩
  have HR1 : Hid (Raw (w.alloc (.cells #[.string p] 9)).drew X B b (used m) (.slice (some ⟨g, 0, none⟩) n c) M (names m)) := r1.heap rfl
  have HBD : Hid (Below w.heap.size w (w.alloc (.cells #[.string p] 9)).drew) := HB.out.drew
  have HBX : Hid ((w.alloc (.cells #[.string p] 9)).drew.heap[w.heap.size]? = some (.cells #[.string p] 9)) := hbx
  have HSZ : Hid ((w.alloc (.cells #[.string p] 9)).drew.heap.size = w.heap.size + 1) := by unfold Hid; show (w.alloc _).heap.size = _; simp
  have HG := Hid.mk' hgM
  have HTO : Hid (used (off p m) + t.size = used m) := hto
  have HU : Hid (used m ≤ 20000) := hu
  have HLN : Hid ((names m).length = n ∧ n ≤ 2000) := ⟨by rw [hln, hnn], by omega⟩
  have HND : Hid ((names m).Nodup) := hn
  have HRE : Hid (Rel M m) := hr
  clear r r1 hn hr hg hgM hto hbx hu hl hln hnn
  go_enter Tryz.func26, Tryz.ntmps26
  go_wp2_with fail
  go_region_law (fail)
  all_goals
    clear c2 l1 l2 b1
    generalize hW1 : (w.alloc (.cells #[.string p] 9)).drew = w1 at HR1 HBD HBX HSZ ⊢
    have b1 := blk_cell HBX.out (i := 0) (u := .string p) rfl
    have CF := forget_any X B b (used m) (.slice (some ⟨g, 0, none⟩) n c) M (names m) p t w1 HR1.out HG.out (by omega) (by have := HU.out; omega) (by have := HU.out; have := HTO.out; omega)
    clear hW1
    go_wp2_with fail
    refine CF.mono ?_
    rintro e w2 ⟨rfl, hm2, hc2⟩
    have HM2 := Hid.mk' hm2
    have HC2 : Hid (Chg (Fs X B (.slice (some ⟨g, 0, none⟩) n c)) w w2) := (Chg.ofBelow HBD.out _).trans (hc2.mono fun k e => by rcases e with e | e; (exact Or.inl e); (exact Or.inr (Or.inl e)))
    have hA2 : w2.heap[w.heap.size]? = some (.cells #[.string p] 9) := (hc2.block _ (by rw [HSZ.out]; omega) (by rintro (e | e); (have := HX.out.1; omega); (have := HX.out.2.1; omega))).trans HBX.out
    have CD := deleteFunc_any w2 g n c (names m) w.heap.size p hm2.row HLN.out.1 (by have := HLN.out.2; omega) (blk_cell hA2 (i := 0) rfl) (by have := HX.out.2.2; omega)
    have d3 := blk_cell hm2.blk (i := 3) (u := .slice (some ⟨g, 0, none⟩) n c) rfl
    clear hm2 hc2 hA2 CF b1
    go_wp2_with fail
    refine CD.mono ?_
    rintro e w3 ⟨k3, rfl, hr3, hc3⟩
    have hb3 : w3.heap[X]? = some (.cells (four b ((used m : Int) - t.size) B (.slice (some ⟨g, 0, none⟩) n c)) 73) := (hc3.block X (HM2.out.lt X (Or.inl rfl)) (fun e => HM2.out.offX X e rfl)).trans HM2.out.blk
    have q9 := blk_cell hb3 (i := 3) (u := .slice (some ⟨g, 0, none⟩) n c) rfl
    have fq9 := blk_free hb3 (i := 3)
    have HR3 := Hid.mk' hr3
    have HC3 : Hid (Chg (fun k => (Value.slice (some ⟨g, 0, none⟩) n c).ownBlock = some k) w2 w3) := hc3
    clear hb3 hr3 hc3 CD d3
    go_wp2_with fail
    go_ret2
    obtain ⟨s1, s2⟩ := HM2.out.set_v HC3.out HR3.out
    refine ⟨rfl, .slice (some ⟨g, 0, none⟩) k3 c, ⟨Fb.nodup_off HND.out, off p M, ?_, HRE.out.off p⟩, HC2.out.trans s2, fun k e => Or.inl e⟩
    have e1 : ((used (off p m) : Nat) : Int) = (used m : Int) - (t.size : Int) := by have := HTO.out; omega
    rw [e1, ← stays_names]; exact s1
theorem remove_st (X B b : Nat) (m : List Kp) (v : Value) (p : ByteArray) (w : World) (h : St w X B b m v) (hu : used m ≤ 20000) (hl : m.length ≤ 2000) :
    Calls Tryz.prog 26 #[ptr X, .string p] w fun e w' => e = .returned (.tuple #[.string ((get? p m).getD ByteArray.empty), .bool (get? p m).isSome]) ∧ Nxt w X B b v (off p m) w' := by
  cases hg : get? p m with
  | none =>
    refine (remove_none X B b m v p w h hg).mono ?_
    rintro e w' ⟨rfl, hb⟩
    refine ⟨rfl, ?_⟩
    rw [Fb.off_none (Fb.get_none.1 hg)]
    exact Nxt.same h hb
  | some t =>
    refine (remove_some X B b m v p t w h hg hu hl).mono ?_
    rintro e w' ⟨rfl, hx⟩
    exact ⟨rfl, hx⟩

end Fq
end Go.Proofs.YtllcmfbkingfdaaGreat
