/- Package cache: shrink; New, Load, Get, Places, Used. -/
import Derived.Test.YtllcmfbkingfdaaGreatFq
namespace Go.Proofs.YtllcmfbkingfdaaGreat
namespace Ft
set_option linter.unusedVariables false
set_option linter.unusedSimpArgs false
open Go.ChangeShapes Go.WideShapes Go.ChangeAt Go.RowKit Ka Kb Ef Fc Fl Fm Fo Fp Fq
open Fb (Kp names get? off used trim Inv loadE loadS loadC getE getS newE)
open Ec (e0)

set_option maxHeartbeats 1000000 in
theorem del_none (g n c : Nat) (w : World) (hnc : n ≤ c) (hcm : c ≤ 9223372036854775807) : Calls Tryz.prog 52 #[.slice (some ⟨g, 0, none⟩) n c, .int .i64 0, .int .i64 0] w fun e w' => e = .returned (.slice (some ⟨g, 0, none⟩) n c) ∧ w' = w := by
  have h1 : (n : Int) ≤ (c : Int) := by omega
  go_enter Tryz.func52, Tryz.ntmps52
  go_wp2
  go_ret
  exact ⟨rfl, rfl⟩
theorem del_any (g c n k : Nat) (l : List ByteArray) (w : World) (h : RowT 0 w (.slice (some ⟨g, 0, none⟩) n c) l) (hl : l.length = n) (hk : k ≤ n) :
    Calls Tryz.prog 52 #[.slice (some ⟨g, 0, none⟩) n c, .int .i64 0, .int .i64 k] w fun e w' => e = .returned (.slice (some ⟨g, 0, none⟩) (n - k) c) ∧ RowT 0 w' (.slice (some ⟨g, 0, none⟩) (n - k) c) (l.drop k) ∧ Chg (fun x => some g = some x) w w' := by
  rcases Nat.eq_zero_or_pos k with e | e
  · subst e
    obtain ⟨h1, h2⟩ : n ≤ c ∧ c ≤ maxLen := by
      rcases h.2 with ⟨e, _⟩ | ⟨g', cap', cur, e, hg, hc, h1, h2, _⟩
      · cases e
      · injection e with e1 e2 e3
        rw [hl] at h1
        rw [e3]; exact ⟨h1, h2⟩
    refine (del_none g n c w h1 (by unfold maxLen at h2; omega)).mono ?_
    rintro e w' ⟨rfl, rfl⟩
    exact ⟨rfl, h, Chg.refl _ _⟩
  · exact del_first g c n k l w h hl e hk

theorem used_nil : used [] = 0 := rfl
theorem drop_next {m : List Kp} {k : Nat} (hn : (names m).Nodup) (hk : k < m.length) : get? (m[k]).1 (m.drop k) = some (m[k]).2 ∧ off (m[k]).1 (m.drop k) = m.drop (k + 1) ∧ used (m.drop k) = (m[k]).2.size + used (m.drop (k + 1)) := by
  have e : m.drop k = m[k] :: m.drop (k + 1) := List.drop_eq_getElem_cons hk
  have hn2 : (names (m.drop k)).Nodup := by rw [Fb.drop_names]; exact List.Nodup.sublist (List.drop_sublist _ _) hn
  rw [e] at hn2 ⊢
  have h9 : (m[k]).1 ∉ names (m.drop (k + 1)) := (List.nodup_cons.1 hn2).1
  refine ⟨?_, ?_, rfl⟩
  · show (if (m[k]).1 = (m[k]).1 then some (m[k]).2 else _) = _
    rw [if_pos rfl]
  · rw [Fb.off_cons_eq rfl, Fb.off_none h9]
theorem trim_next {b : Nat} {m : List Kp} {k : Nat} (hk : k < m.length) (hb : b < used (m.drop k)) : trim b (m.drop k) = trim b (m.drop (k + 1)) := by
  have e : m.drop k = m[k] :: m.drop (k + 1) := List.drop_eq_getElem_cons hk
  rw [e] at hb ⊢
  conv => lhs; unfold trim
  rw [if_pos hb]
theorem used_drop (m : List Kp) (k : Nat) : used (m.drop k) ≤ used m := by
  have h := Fb.used_append (m.take k) (m.drop k)
  rw [List.take_append_drop] at h
  omega
/- the first k are forgotten, and still in the order -/
def Sh (w : World) (X B b : Nat) (v : Value) (m : List Kp) (k : Nat) (wr : World) : Prop := ∃ M, Raw wr X B b (used (m.drop k)) v M (names m) ∧ Rel M (m.drop k) ∧ trim b (m.drop k) = trim b m ∧ Chg (fun k => k = X ∨ k = B) w wr
theorem row_at {w : World} {g n c : Nat} {l : List ByteArray} (h : RowT 0 w (.slice (some ⟨g, 0, none⟩) n c) l) (hl : l.length = n) {k : Nat} (hk : k < n) : w.cell? ⟨g, k, none⟩ = some (.string (l.getD k e0)) := by
  have h9 := h.cells (g := g) rfl k (.string (l.getD k e0)) (by rw [List.getElem?_map, List.getElem?_eq_getElem (by omega), List.getD_eq_getElem?_getD, List.getElem?_eq_getElem (by omega)]; rfl)
  rw [Addr.add_lit, Nat.zero_add] at h9
  exact h9
set_option maxRecDepth 100000 in
set_option maxHeartbeats 4000000 in
theorem shrink_st (X B b : Nat) (m : List Kp) (v : Value) (w : World) (h : St w X B b m v) (hm : m ≠ []) (hu : used m ≤ 20000) (hl : m.length ≤ 2000) (hb : b ≤ 10000) :
    Calls Tryz.prog 30 #[ptr X] w fun e w' => e = .returned (.tuple #[]) ∧ Nxt w X B b v (trim b m) w' := by
  obtain ⟨hn, M, r, hr⟩ := h
  have hln : (names m).length = m.length := by unfold names; rw [List.length_map]
  obtain ⟨p0, hp0⟩ : ∃ p0, p0 ∈ names m := by
    cases m with
    | nil => exact absurd rfl hm
    | cons x m => exact ⟨x.1, List.mem_cons_self⟩
  obtain ⟨g, c, hv⟩ := own_some r.row hp0
  rw [hln] at hv
  obtain ⟨n, hnn⟩ : ∃ n, n = m.length := ⟨_, rfl⟩
  rw [← hnn] at hv
  subst hv
  have HS0 : Hid (Sh w X B b (.slice (some ⟨g, 0, none⟩) n c) m 0 w) := ⟨M, r, hr, rfl, Chg.refl _ _⟩
  have HN : Hid (m.length = n ∧ (names m).length = n) := ⟨hnn.symm, by rw [hln, hnn]⟩
  have HND : Hid ((names m).Nodup) := hn
  have HU : Hid (used m ≤ 20000) := hu
  have hn2 : n ≤ 2000 := by omega
  have HBW : Hid (∀ k, Fs X B (.slice (some ⟨g, 0, none⟩) n c) k → k < w.heap.size) := r.lt
  clear hr r hn hln hp0 hnn hm hu hl
  go_enter Tryz.func30, Tryz.ntmps30
  go_wp2_with fail
  go_loopw [2] (fun vi wr => ∃ k : Nat, k ≤ n ∧ vi = .int .i64 k ∧ Hid (Sh w X B b (.slice (some ⟨g, 0, none⟩) n c) m k wr)) (fun vi _ => n - (intOf vi).toNat)
  case atStart => exact ⟨0, by omega, rfl, HS0⟩
  case round =>
    clear HS0
    obtain ⟨k, hk, rfl, HS⟩ := hrel
    obtain ⟨Mk, rk, hrk, htk, hck⟩ := HS.out
    have hub := used_drop m k
    obtain ⟨uu, huu⟩ : ∃ uu : Int, uu = (used (m.drop k) : Int) := ⟨_, rfl⟩
    have hu0 : 0 ≤ uu := by omega
    have hu1 : uu ≤ 20000 := by have := HU.out; omega
    rw [← huu] at rk
    have c1 := blk_cell rk.blk (i := 1) (u := .int .i64 uu) rfl
    have c0 := blk_cell rk.blk (i := 0) (u := .int .i64 b) rfl
    have HRK := Hid.mk' rk
    have HRR := Hid.mk' hrk
    have HTK := Hid.mk' htk
    have HCK := Hid.mk' hck
    have HUU : Hid (uu = (used (m.drop k) : Int)) := huu
    by_cases hlt : (b : Int) < uu
    · have hd : decide ((b : Int) < uu) = true := decide_eq_true hlt
      have hkn : k < n := by
        rcases Nat.lt_or_ge k n with e | e
        · exact e
        · rw [List.drop_eq_nil_of_le (by rw [HN.out.1]; exact e), used_nil] at huu; omega
      have hkm : k < m.length := by rw [HN.out.1]; exact hkn
      obtain ⟨d1, d2, d3⟩ := drop_next HND.out hkm
      have HD : Hid (get? (m[k]).1 (m.drop k) = some (m[k]).2 ∧ off (m[k]).1 (m.drop k) = m.drop (k + 1) ∧ used (m.drop k) = (m[k]).2.size + used (m.drop (k + 1))) := ⟨d1, d2, d3⟩
      have HTN : Hid (trim b (m.drop (k + 1)) = trim b m) := by unfold Hid; rw [← trim_next hkm (by omega)]; exact htk
      have hkz : (k : Int) < n := by omega
      have e9 : (names m).getD k e0 = (m[k]).1 := by
        unfold names
        rw [List.getD_eq_getElem?_getD, List.getElem?_map, List.getElem?_eq_getElem hkm]; rfl
      obtain ⟨pp, hpp⟩ : ∃ pp, pp = (m[k]).1 := ⟨_, rfl⟩
      obtain ⟨tt, htt⟩ : ∃ tt, tt = (m[k]).2 := ⟨_, rfl⟩
      rw [← hpp, ← htt] at HD
      rw [← hpp] at e9
      have HE9 := Hid.mk' e9
      clear hlt d1 d2 d3 e9 hpp htt rk hrk htk hck huu hub HS HTK hkm
      go_wp2_with fail
      go_quiet (fail)
      generalize hwq : World.drewN wr _ = wq
      have HRD : Hid (Raw wq X B b uu (.slice (some ⟨g, 0, none⟩) n c) Mk (names m)) := HRK.out.heap (by rw [← hwq]; rfl)
      have HCD : Hid (Chg (fun k => k = X ∨ k = B) w wq) := by unfold Hid; rw [← hwq]; exact HCK.out.trans (Chg.ofBelow (bel_drew (Below.refl _ _) _) _)
      have r3 := blk_cell HRD.out.blk (i := 3) (u := .slice (some ⟨g, 0, none⟩) n c) rfl
      have r4 := row_at HRD.out.row HN.out.2 hkn
      rw [HE9.out] at r4
      have CF := forget_any X B b uu (.slice (some ⟨g, 0, none⟩) n c) Mk (names m) pp tt wq HRD.out (by rw [HRR.out]; exact HD.out.1) hu0 (by omega) (by have := HD.out.2.2; have := HUU.out; omega)
      clear hwq c0 c1
      go_wp2_with fail
      refine CF.mono ?_
      rintro e w2 ⟨rfl, hm2, hc2⟩
      have HS2 : Hid (Sh w X B b (.slice (some ⟨g, 0, none⟩) n c) m (k + 1) w2) := by
        refine ⟨off pp Mk, ?_, ?_, HTN.out, HCD.out.trans hc2⟩
        · have e1 : ((used (m.drop (k + 1)) : Nat) : Int) = uu - (tt.size : Int) := by have := HD.out.2.2; have := HUU.out; omega
          rw [e1]; exact hm2
        · rw [← HD.out.2.1]; exact HRR.out.off pp
      clear hm2 hc2 CF
      go_wp2_with fail
      go_roundw
      case rel => exact ⟨k + 1, by omega, by go_num, HS2⟩
      case measure => simp [intOf]; omega
    · have hd : decide ((b : Int) < uu) = false := decide_eq_false hlt
      have HTN : Hid (trim b m = m.drop k) := by unfold Hid; rw [← htk]; exact Fb.trim_id (by omega)
      clear hlt rk hrk htk hck huu hub HS HTK
      go_wp2_with fail
      go_quiet (fail)
      generalize hwq : World.drewN wr _ = wq
      have HRD : Hid (Raw wq X B b uu (.slice (some ⟨g, 0, none⟩) n c) Mk (names m)) := HRK.out.heap (by rw [← hwq]; rfl)
      have HCD : Hid (Chg (Fs X B (.slice (some ⟨g, 0, none⟩) n c)) w wq) := by unfold Hid; rw [← hwq]; exact (HCK.out.trans (Chg.ofBelow (bel_drew (Below.refl _ _) _) _)).mono fun k e => by rcases e with e | e; (exact Or.inl e); (exact Or.inr (Or.inl e))
      have r3 := blk_cell HRD.out.blk (i := 3) (u := .slice (some ⟨g, 0, none⟩) n c) rfl
      have CD := del_any g c n k (names m) wq HRD.out.row HN.out.2 hk
      clear hwq c0 c1
      go_wp2_with fail
      refine CD.mono ?_
      rintro e w3 ⟨rfl, hr3, hc3⟩
      have hb3 : w3.heap[X]? = some (.cells (four b uu B (.slice (some ⟨g, 0, none⟩) n c)) 73) := (hc3.block X (HRD.out.lt X (Or.inl rfl)) (fun e => HRD.out.offX X e rfl)).trans HRD.out.blk
      have q9 := blk_cell hb3 (i := 3) (u := .slice (some ⟨g, 0, none⟩) n c) rfl
      have fq9 := blk_free hb3 (i := 3)
      have HR3 := Hid.mk' hr3
      have HC3 : Hid (Chg (fun k => (Value.slice (some ⟨g, 0, none⟩) n c).ownBlock = some k) wq w3) := hc3
      clear hb3 hr3 hc3 CD r3
      go_wp2_with fail
      go_end0
      obtain ⟨s1, s2⟩ := HRD.out.set_v HC3.out HR3.out
      refine ⟨rfl, .slice (some ⟨g, 0, none⟩) (n - k) c, ⟨?_, Mk, ?_, ?_⟩, HCD.out.trans s2, fun k e => Or.inl e⟩
      · rw [HTN.out, Fb.drop_names]; exact List.Nodup.sublist (List.drop_sublist _ _) HND.out
      · rw [HTN.out, Fb.drop_names, ← HUU.out]; exact s1
      · rw [HTN.out]; exact HRR.out

end Ft
end Go.Proofs.YtllcmfbkingfdaaGreat
