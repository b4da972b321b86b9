/- Package edit: checkWho, seenPlaces, around, placeAt, checkText. -/
import Derived.Test.YtllcmfbkingfdaaGreatUa
namespace Go.Proofs.YtllcmfbkingfdaaGreat
namespace Ub
set_option linter.unusedVariables false
open Go.ChangeShapes Go.WideShapes Go.ChangeAt Go.RowKit Cm Ka Kb Na Om Oa Oz Oc Og Oi Hm Ia Ib Ic Idc Ie If Ig Ih Ii Ij Ik Il Im Um Ua
open La (bel bel_drew errV_zero errV_ne own_ge own_grow own_below Lies LeafsIn)
open Lj (BookAt BookNew)

def whoE (n : Int) : Int := if Pm.isWho n = false then 1 else 0
theorem who_ok (n : Int) (w : World) (h1 : 1 ≤ n) (h8 : n ≤ 8) : Calls Tryz.prog 31 #[.int .i64 n] w fun e w' => e = .returned .nilIface ∧ w' = w := by
  go_enter Tryz.func31, Tryz.ntmps31
  go_wp2
  go_ret
  exact ⟨rfl, rfl⟩
theorem who_no (n : Int) (w : World) (h : n < 1 ∨ 8 < n) : Calls Tryz.prog 31 #[.int .i64 n] w fun e w' => e = .returned (.iface 69 (.int .i64 1)) ∧ w' = w := by
  rcases h with h | h
  · go_enter Tryz.func31, Tryz.ntmps31
    go_wp2
    go_ret
    exact ⟨rfl, rfl⟩
  · have h2 : ¬ n < 1 := by omega
    go_enter Tryz.func31, Tryz.ntmps31
    go_wp2
    go_ret
    exact ⟨rfl, rfl⟩
theorem isWho_iff {n : Int} : Pm.isWho n = true ↔ 1 ≤ n ∧ n ≤ 8 := by unfold Pm.isWho; simp
theorem isWho_no {n : Int} : Pm.isWho n = false ↔ n < 1 ∨ 8 < n := by
  cases h : Pm.isWho n with
  | true => have := isWho_iff.1 h; simp; omega
  | false =>
    simp
    by_cases h1 : 1 ≤ n ∧ n ≤ 8
    · rw [isWho_iff.2 h1] at h; cases h
    · omega

theorem infoStr : (Tryz.prog.info? 9).map (fun i => (i.zero, i.size, i.bytes)) = some (some (.string ByteArray.empty), 1, 16) := by kernel_rfl
/- places in memory -/
def TxAt (B : Nat) (w : World) (v : Value) (l : List ByteArray) : Prop := w.ownsRow B 9 1 v l.length (l.map Value.string)
theorem TxAt.below {B : Nat} {w w' : World} {v : Value} {l : List ByteArray} (h : TxAt B w v l) (hb : Below w.heap.size w w') : TxAt B w' v l := own_below h hb
theorem TxAt.row {B : Nat} {w : World} {v : Value} {l : List ByteArray} (h : TxAt B w v l) : w.ownsRow B 9 1 v l.length (l.map Value.string) := h
theorem TxAt.cells {B : Nat} {w : World} {v : Value} {l : List ByteArray} (h : TxAt B w v l) (hn : 0 < l.length) : ∃ g c, v = .slice (some ⟨g, 0, none⟩) l.length c ∧ B ≤ g ∧ l.length ≤ c ∧ c ≤ maxLen ∧ ∀ j, j < l.length → w.cell? ⟨g, j, none⟩ = some (.string (l.getD j ⟨#[]⟩)) := by
  have h' := h.row
  rcases h.2 with ⟨e, e0⟩ | ⟨g, cap, cur, rfl, h1, h2, h3, h4, h5, h6⟩
  · omega
  · refine ⟨g, cap, rfl, h1, h3, h4, fun j hj => ?_⟩
    have := h'.cells (g := g) rfl j (.string (l.getD j ⟨#[]⟩)) (by rw [List.getElem?_map, List.getElem?_eq_getElem hj, List.getD_eq_getElem?_getD, List.getElem?_eq_getElem hj]; rfl)
    rw [Addr.add_lit, Nat.zero_add] at this
    exact this
theorem TxAt.shape {B : Nat} {w : World} {v : Value} {l : List ByteArray} (h : TxAt B w v l) : ∃ p c, v = .slice p l.length c ∧ l.length ≤ maxLen := by
  rcases h.2 with ⟨e, e0⟩ | ⟨g, cap, cur, e, h1, h2, h3, h4, _⟩
  · exact ⟨none, 0, by rw [e, e0], by rw [e0]; unfold maxLen; omega⟩
  · exact ⟨_, _, e, by omega⟩
theorem own_str {w : World} {B : Nat} {t : TypeId} {v : Value} {tx : List ByteArray} {s : ByteArray} (h : w.ownsRow B t 1 v (tx.length + 1) (tx.map Value.string ++ [.string s])) : w.ownsRow B t 1 v (tx ++ [s]).length ((tx ++ [s]).map Value.string) := by
  rw [List.length_append, List.map_append]; exact h

set_option maxHeartbeats 1000000 in
theorem places_any (v : Value) (l : List Bm.Leaf) (w : World) (h : BookAt w v l) (hn3 : l.length ≤ 1000) :
    Calls Tryz.prog 56 #[v] w fun e w' => ∃ v', e = .returned v' ∧ TxAt w.heap.size w' v' (seenP l) ∧ Below w.heap.size w w' := by
  obtain ⟨q, c, rfl, hin, _⟩ := h
  obtain ⟨n, hn⟩ : ∃ n, n = l.length := ⟨_, rfl⟩
  rw [← hn]
  have hn4 : n ≤ 1000 := by omega
  have HL : Hid (l.length = n) := hn.symm
  have HI : Hid (LeafsIn w q l) := hin
  obtain ⟨i0, hi, hz0, hz1, hz2⟩ := info_parts infoStr
  clear hin hn hn3
  go_enter Tryz.func56, Tryz.ntmps56
  go_wp2
  go_loopw [3, 8] (fun v i wr => ∃ (k : Nat), k ≤ n ∧ i = .int .i64 k ∧ Hid (TxAt w.heap.size wr v (seenP (l.take k))) ∧ Hid (Below w.heap.size w wr)) (fun _ i _ => n - (intOf i).toNat)
  case atStart => exact ⟨0, by omega, rfl, World.ownsRow_nil _ _ _ _, Below.refl _ _⟩
  case round =>
    obtain ⟨k, hk, rfl, HW, HB⟩ := hrel
    by_cases hlt : k < n
    · have hltz : (k : Int) < n := by omega
      obtain ⟨b, o, rfl, hc⟩ := HI.out.some (by intro e; have := HL.out; rw [e] at this; simp at this; omega)
      have hkl : k < l.length := by rw [HL.out]; exact hlt
      have ha := (hc k hkl).below HB.out (hc k hkl).lt
      have hy1 := seenP_yes hkl
      have hy2 := seenP_no hkl
      have htl : (seenP (l.take k)).length ≤ 1000 := by
        have h1 := seenP_le (l.take k)
        rw [List.length_take] at h1
        omega
      obtain ⟨x, hx⟩ : ∃ x, x = l.getD k Bm.none0 := ⟨_, rfl⟩
      rw [← hx] at ha hy1 hy2
      have HY1 : Hid (Bm.isS x = true → seenP (l.take (k + 1)) = seenP (l.take k) ++ [x.1]) := hy1
      have HY2 : Hid (Bm.isS x = false → seenP (l.take (k + 1)) = seenP (l.take k)) := hy2
      obtain ⟨sx, nx, bx⟩ := x
      obtain ⟨a1, a2, a3⟩ := ha
      clear hc hx hy1 hy2
      simp only at a1 a2 a3
      have C := Lb.isSeen_any sx nx bx (wr.alloc (.cells #[.string sx, .int .i64 nx, .bool bx] 79))
      obtain ⟨tx, htx⟩ : ∃ tx, tx = seenP (l.take k) := ⟨_, rfl⟩
      rw [← htx] at HW HY1 HY2 htl
      cases hse : Bm.isS (sx, nx, bx)
      · rw [hse] at C
        have HW2 : Hid (TxAt w.heap.size wr u3 (seenP (l.take (k + 1)))) := by
          unfold Hid; rw [HY2.out hse]; exact HW.out
        clear hse htx HY1 HY2
        go_wp2_with fail
        refine C.mono ?_
        rintro e w2 ⟨rfl, hb2⟩
        have HB2 : Hid (Below w.heap.size w w2) := Lc.bel_new HB.out hb2
        have HW3 : Hid (TxAt w.heap.size w2 u3 (seenP (l.take (k + 1)))) := own_below (HW2.out.alloc _) hb2
        clear hb2 C a1 a2 a3
        go_wp2_with fail
        go_roundw
        case rel => exact ⟨k + 1, by omega, by go_num, HW3, HB2⟩
        case measure => simp [intOf]; omega
      · rw [hse] at C
        have HT : Hid (seenP (l.take (k + 1)) = tx ++ [sx]) := HY1.out hse
        clear hse htx HY1 HY2
        go_wp2_with fail
        refine C.mono ?_
        rintro e w2 ⟨rfl, hb2⟩
        have HB2 : Hid (Below w.heap.size w w2) := Lc.bel_new HB.out hb2
        have d1 := (Lc.new_cell (x := (sx, nx, bx)) hb2).1
        simp only at d1
        have HW3 : Hid (w2.ownsRow w.heap.size 9 1 u3 tx.length (tx.map Value.string)) := own_below (HW.out.alloc _) hb2
        clear hb2 C a1 a2 a3
        go_wp2_with (at_builtin; refine wpList_append_own_at _ rfl (.tmp 14) (.tmp 17) 71 rfl w.heap.size 9 i0 (.string ByteArray.empty) 1 16 Tryz.underlying71 hi hz0 hz1 hz2 rfl (by decide) u3 _ _ rfl (HW3.out.alloc _) ⟨w2.heap.size, 0, none⟩ 1 1 [.string sx] rfl rfl (cell_one_new _ _ _) (by intro u hu; simp at hu; subst hu; rfl) (by unfold maxLen; omega) (by omega) (by have := HB2.out.size; simp; omega) ?_; intro v' w3 hown' hgrow _ hat; have HB3 : Hid (Below w.heap.size w w3) := (own_grow HW3.out (HB2.out.alloc HB2.out.size _) hgrow (by have := HB2.out.size; simp; omega)); have HW4 : Hid (TxAt w.heap.size w3 v' (seenP (l.take (k + 1)))) := (by unfold Hid; rw [HT.out]; exact own_str hown'); clear hown' hgrow hat)
        go_roundw
        case rel => exact ⟨k + 1, by omega, by go_num, HW4, HB3⟩
        case measure => simp [intOf]; omega
    · obtain rfl : k = n := by omega
      have HW2 : Hid (TxAt w.heap.size wr u3 (seenP l)) := by
        have := HW.out
        rwa [List.take_of_length_le (by rw [HL.out]; exact Nat.le_refl _)] at this
      go_wp2_with fail
      go_ret
      exact ⟨_, rfl, HW2.out, HB.out⟩

/- the letter ahead of an offset is found where it stands -/
theorem find_left {l : List Bm.Leaf} (hb : Bm.bookE l = 0) {off : Nat} (h : off ≤ (seenP l).length) (h0 : 0 < off) : Bm.ahd l (leftP l off).toList + 1 = nxt l off := by
  obtain ⟨_, _, hr⟩ := Bm.bookE_zero.1 hb
  obtain ⟨c1, c2, c3⟩ := cut_off h
  obtain ⟨d1, d2, _⟩ := c3 h0
  have hi : nxt l off - 1 < l.length := by omega
  have : Bm.ahd l (leftP l off).toList = nxt l off - 1 := by
    refine Bm.ahead_eq hr (by omega) (fun j hj => ?_) (fun j hj hl => ?_)
    · rw [← d2]; exact Bm.rise_lt hr hj hi
    · rw [← d2]
      rcases Nat.lt_or_eq_of_le hj with e | e
      · exact Bm.less_asymm (Bm.rise_lt hr e hl)
      · rw [← e]; exact Bm.less_irrefl _
  omega
theorem left_at {l : List Bm.Leaf} {off : Nat} (h0 : 0 < off) : leftP l off = (seenP l).getD (off - 1) ⟨#[]⟩ := by unfold leftP; rw [if_neg (by omega)]

def aroundV (l : List Bm.Leaf) (off : Int) : Array Value := if aroundE l off = 0 then #[.string (leftP l off.toNat), .string (rightP l off.toNat), .nilIface] else #[.string ⟨#[]⟩, .string ⟨#[]⟩, .iface 69 (.int .i64 1)]

set_option maxHeartbeats 1000000 in
theorem around_no (v : Value) (l : List Bm.Leaf) (off : Int) (w : World) (h : BookAt w v l) (hb : Bm.bookE l = 0) (ho : aroundE l off ≠ 0) :
    Calls Tryz.prog 33 #[v, .int .i64 off] w fun e w' => e = .returned (.tuple #[.string ⟨#[]⟩, .string ⟨#[]⟩, .iface 69 (.int .i64 1)]) ∧ Below w.heap.size w w' := by
  have hl3 := (Bm.bookE_zero.1 hb).1
  have C := places_any v l w h (by omega)
  have hor : off < 0 ∨ (¬ off < 0 ∧ ((seenP l).length : Int) < off) := by
    by_cases h1 : off < 0
    · exact Or.inl h1
    · by_cases h2 : ((seenP l).length : Int) < off
      · exact Or.inr ⟨h1, h2⟩
      · exact absurd (aroundE_zero.2 ⟨by omega, by omega⟩) ho
  obtain ⟨q, n, c, rfl⟩ : ∃ q n c, v = .slice q n c := by obtain ⟨p, c, e, _⟩ := h; exact ⟨_, _, _, e⟩
  obtain ⟨m, hm⟩ : ∃ m, m = (seenP l).length := ⟨_, rfl⟩
  rw [← hm] at hor
  have HM : Hid (m = (seenP l).length) := hm
  clear h hb ho hl3 hm
  rcases hor with h1 | ⟨h1, h2⟩
  all_goals
    go_enter Tryz.func33, Tryz.ntmps33
    go_wp2_with fail
    refine C.mono ?_
    rintro e w1 ⟨v1, rfl, ht1, hb1⟩
    obtain ⟨p1, c1, rfl, hmx⟩ := ht1.shape
    rw [← HM.out] at hmx ⊢
    have HB1 : Hid (Below w.heap.size w w1) := hb1
    clear ht1 hb1 C
    go_wp2_with fail
    go_ret3
    exact ⟨rfl, HB1.out⟩

set_option maxHeartbeats 4000000 in
theorem around_ok (v : Value) (l : List Bm.Leaf) (off : Nat) (w : World) (h : BookAt w v l) (hb : Bm.bookE l = 0) (ho : off ≤ (seenP l).length) :
    Calls Tryz.prog 33 #[v, .int .i64 off] w fun e w' => e = .returned (.tuple #[.string (leftP l off), .string (rightP l off), .nilIface]) ∧ Below w.heap.size w w' := by
  have hl3 := (Bm.bookE_zero.1 hb).1
  have C := places_any v l w h (by omega)
  have HBK : Hid (Bm.bookE l = 0) := hb
  obtain ⟨q, c, rfl, hin, _⟩ := h
  obtain ⟨n, hn⟩ : ∃ n, n = l.length := ⟨_, rfl⟩
  rw [← hn] at C ⊢
  have hn3 : n ≤ 300 := by omega
  have HN : Hid (l.length = n) := hn.symm
  have HI : Hid (LeafsIn w q l) := hin
  obtain ⟨m, hm⟩ : ∃ m, m = (seenP l).length := ⟨_, rfl⟩
  have HM : Hid (m = (seenP l).length) := hm
  have hom : off ≤ m := by omega
  have homz : ¬ (m : Int) < off := by omega
  have ho0 : ¬ (off : Int) < 0 := by omega
  have HC : Hid (CutOff l off) := cut_off ho
  have hm3 : m ≤ 300 := by have := seenP_le l; omega
  obtain ⟨x, hx⟩ : ∃ x, x = nxt l off := ⟨_, rfl⟩
  have HX : Hid (x = nxt l off) := hx
  have hxn : x ≤ n := by rw [hx, hn]; exact HC.out.le
  obtain ⟨R, hR⟩ : ∃ R, R = rightP l off := ⟨_, rfl⟩
  obtain ⟨Lf, hLf⟩ : ∃ Lf, Lf = leftP l off := ⟨_, rfl⟩
  rw [← hR, ← hLf]
  have HR1 : Hid (x < n → R = (l.getD x Bm.none0).1) := fun hlt => by rw [hR]; unfold rightP; rw [← hx, ← hn, if_pos hlt]
  have HR2 : Hid (¬ x < n → R = ⟨#[]⟩) := fun hlt => by rw [hR]; unfold rightP; rw [← hx, ← hn, if_neg hlt]
  have HL1 : Hid (0 < off → Lf = (seenP l).getD (off - 1) ⟨#[]⟩ ∧ Bm.ahd l Lf.toList + 1 = x) := fun h0 => by rw [hLf, hx]; exact ⟨left_at h0, find_left hb ho h0⟩
  have HL2 : Hid (off = 0 → Lf = ⟨#[]⟩ ∧ x = 0) := fun h0 => by rw [hLf, hx]; unfold leftP nxt; rw [if_pos h0, if_pos h0]; exact ⟨rfl, rfl⟩
  clear hb hin hn hm ho hx hR hLf hl3
  go_enter Tryz.func33, Tryz.ntmps33
  go_wp2_with fail
  refine C.mono ?_
  rintro e w1 ⟨v1, rfl, ht1, hb1⟩
  have HB1 : Hid (Below w.heap.size w w1) := hb1
  by_cases h0 : off = 0
  · obtain ⟨e1, e2⟩ := HL2.out h0
    subst e1 e2 h0
    obtain ⟨p1, c1, rfl, hmx⟩ := ht1.shape
    rw [← HM.out] at hmx ⊢
    clear ht1 hb1 C
    by_cases hlt : 0 < n
    · have hltz : (0 : Int) < n := by omega
      have hkl : 0 < l.length := by rw [HN.out]; exact hlt
      obtain ⟨b, o, rfl, hc⟩ := HI.out.some (by intro e; rw [e] at hkl; simp at hkl)
      have ha := ((hc 0 hkl).below HB1.out (hc 0 hkl).lt).1
      rw [← HR1.out hlt] at ha
      rw [Nat.zero_mul, Nat.add_zero] at ha
      clear hc hkl
      go_wp2_with fail
      go_ret3
      exact ⟨rfl, HB1.out⟩
    · have hltz : ¬ (0 : Int) < n := by omega
      have e3 := HR2.out hlt
      subst e3
      go_wp2_with fail
      go_ret3
      exact ⟨rfl, HB1.out⟩
  · have h0p : 0 < off := by omega
    have h0z : (0 : Int) < off := by omega
    obtain ⟨e1, e2⟩ := HL1.out h0p
    obtain ⟨g1, cg, e9, _, hgc, hgm, hcs⟩ := ht1.cells (by rw [← HM.out]; omega)
    rw [← HM.out] at e9 hgc
    subst e9
    have hcell := hcs (off - 1) (by rw [← HM.out]; omega)
    rw [← e1] at hcell
    obtain ⟨r, hr⟩ : ∃ r, off = r + 1 := ⟨off - 1, by omega⟩
    subst hr
    rw [Nat.add_sub_cancel] at hcell
    have hrz : ((r + 1 : Nat) : Int) = (r : Int) + 1 := by omega
    have HE1 : Hid (Bm.ahd l Lf.toList + 1 = x) := e2
    have CF := Ld.find_any q n c l Lf w1 HN.out (HI.out.below HB1.out) (Bm.bookE_zero.1 HBK.out).2.2 (by omega)
    obtain ⟨ax, hax⟩ : ∃ ax, ax = Bm.ahd l Lf.toList := ⟨_, rfl⟩
    obtain ⟨hx2, hhx⟩ : ∃ hx2, hx2 = Bm.has l Lf.toList := ⟨_, rfl⟩
    rw [← hax] at e2 CF
    rw [← hhx] at CF
    subst e2
    rw [hrz] at h0z ho0 homz ⊢
    clear ht1 hb1 C hcs e1 hax hhx HE1
    go_wp2_with fail
    refine CF.mono ?_
    rintro e w2 ⟨rfl, hb2⟩
    have HB2 : Hid (Below w.heap.size w w2) := bel HB1.out hb2
    clear CF hb2 hcell
    by_cases hlt : ax + 1 < n
    · have hltz : (ax : Int) + 1 < n := by omega
      have hkl : ax + 1 < l.length := by rw [HN.out]; exact hlt
      obtain ⟨b, o, rfl, hc⟩ := HI.out.some (by intro e; rw [e] at hkl; simp at hkl)
      have ha := ((hc (ax + 1) hkl).below HB2.out (hc (ax + 1) hkl).lt).1
      rw [← HR1.out hlt] at ha
      clear hc hkl
      go_wp2_with fail
      go_ret3
      exact ⟨rfl, HB2.out⟩
    · have hltz : ¬ (ax : Int) + 1 < n := by omega
      have e3 := HR2.out hlt
      subst e3
      go_wp2_with fail
      go_ret3
      exact ⟨rfl, HB2.out⟩

end Ub
end Go.Proofs.YtllcmfbkingfdaaGreat
