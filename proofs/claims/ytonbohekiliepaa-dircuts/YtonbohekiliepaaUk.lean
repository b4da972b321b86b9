/- The walk of DirCuts. -/
import Derived.Test.YtonbohekiliepaaUf
import Derived.Test.YtonbohekiliepaaUj
import Derived.Test.YtonbohekiliepaaSf
import Derived.Test.YtonbohekiliepaaIo
import Derived.Deep.DeepCutAuto
namespace Go.Proofs.Ytonbohekiliepaa
namespace Uk
set_option linter.unusedVariables false
set_option linter.unusedSimpArgs false
open Go.ChangeShapes Go.WideShapes Go.ChangeAt Go.RowKit Cm Ka Kb Na Om Oa Oz Oc Og Oi Hm Ia Ib Ic Idc Ie If Ig Ih Ii Ij Ik Il Im Um Ua Ub Uc Ud Ue Uf
open La (bel bel_drew errV_zero errV_ne own_ge own_grow own_below Lies LeafsIn)
open Lj (BookAt BookNew)
open Io (IntsAt)

theorem new_shape {B : Nat} {w : World} {v : Value} {l : List Ox} (h : OpsNew B w v l) : ∃ p n c, v = .slice p n c := by
  obtain ⟨g, L, e, _⟩ := h; exact ⟨_, _, _, e⟩
theorem ops_max {S : Dq} {who off : Int} {t : ByteArray} (I : Inv S) (h : insE S who off t = 0) : ∀ x ∈ insL S who off t, x.2.2.1.size ≤ maxLen := fun x hx => by
  have := small_ops I.book (insE_zero.1 h) x hx
  unfold maxLen; omega

theorem mark_place {m : Mk} (h : markE m = 0) : Pm.chk m.1.toList = 0 := by
  unfold markE at h
  by_cases e : Pm.chk m.1.toList = 0
  · exact e
  · rw [if_pos e] at h; exact h
theorem small_marks {l : List Mk} (h : marksE l = 0) : ∀ x ∈ l, x.1.size ≤ maxLen := fun x hx => small_place (mark_place ((marksE_zero.1 h).2.1 x hx))
/- which offsets were cut: sixty bools in a block of the law's own -/
def IsAt (w : World) (g : Nat) (acc : List Nat) : Prop := ∃ cur : Array Value, w.heap[g]? = some (.cells cur 49 (0, 0)) ∧ cur.size = 60 ∧ ∀ j, j < 60 → cur[j]? = some (.bool (decide (j ∈ acc)))
theorem is_new (w : World) (cs : Array Value) (h : cs = Array.replicate 60 (.bool false)) : IsAt (w.alloc (.cells cs 49)) w.heap.size [] := by
  refine ⟨cs, heap_alloc_new w _, by rw [h]; simp, fun j hj => ?_⟩
  rw [h, Array.getElem?_replicate, if_pos hj]
  simp
theorem IsAt.cell {w : World} {g : Nat} {acc : List Nat} (h : IsAt w g acc) {j : Nat} (hj : j < 60) : w.cell? ⟨g, j, none⟩ = some (.bool (decide (j ∈ acc))) ∧ w.frozen? ⟨g, j, none⟩ = false := by
  obtain ⟨cur, h1, _, h3⟩ := h
  exact ⟨blk_cell h1 (h3 j hj), blk_free h1⟩
theorem IsAt.stay {w w' : World} {g : Nat} {acc : List Nat} (h : IsAt w g acc) (hs : w'.heap[g]? = w.heap[g]?) : IsAt w' g acc := by
  obtain ⟨cur, h1, h2⟩ := h
  exact ⟨cur, hs.trans h1, h2⟩
theorem IsAt.put {w : World} {g : Nat} {acc : List Nat} (h : IsAt w g acc) {a : Nat} (ha : a < 60) : IsAt (w.setCell ⟨g, a, none⟩ (.bool true)) g (acc ++ [a]) := by
  obtain ⟨cur, h1, h2, h3⟩ := h
  refine ⟨_, set_heap h1, by simp [h2], fun j hj => ?_⟩
  rw [Array.getElem?_setIfInBounds]
  by_cases e : a = j
  · rw [if_pos e, if_pos (by omega), e]; simp
  · rw [if_neg e, h3 j hj]
    congr 2
    simp only [decide_eq_decide, List.mem_append, List.mem_singleton]
    constructor
    · exact Or.inl
    · rintro (q | q)
      · exact q
      · exact absurd q.symm e
theorem IsAt.lt {w : World} {g : Nat} {acc : List Nat} (h : IsAt w g acc) : g < w.heap.size := by
  obtain ⟨cur, h1, _⟩ := h; exact (Array.getElem?_eq_some_iff.1 h1).1

set_option maxRecDepth 100000 in
set_option maxHeartbeats 8000000 in
theorem walk (t : ByteArray) (va : Value) (ag : List Int) (w : World) (ht : t.size ≤ maxLen) (ha : IntsAt w va ag) :
    Calls Try.prog 5 #[.string t, va] w fun e w' => e = .returned (.bool true) ∧ Below w.heap.size w w' := by
  obtain ⟨qa, ca, rfl, hain⟩ := ha
  obtain ⟨na, hna⟩ : ∃ na, na = ag.length := ⟨_, rfl⟩
  rw [← hna]
  have HNA : Hid (ag.length = na) := hna.symm
  have HAI : Hid (Za.IntsIn w qa ag) := hain
  have HTM : Hid (t.size ≤ maxLen) := ht
  clear hain hna
  go_enter Try.func5, Try.ntmps5
  go_wp2_with fail
  refine (new_any w).mono ?_
  rintro e w1 ⟨D, F, rfl, hd1, hf1, hb1⟩
  have HD1 : Hid (DocAt w1 D d0 F) := hd1
  have HB1 : Hid (Below w.heap.size w w1) := hb1
  have HF1 : Hid (∀ g, F g → w.heap.size ≤ g ∧ g < w1.heap.size) := fun g hg => ⟨hf1 g hg, hd1.lt g hg⟩
  have CI := insert_any D d0 F 1 0 t w1 hd1 ht
  clear hd1 hf1 hb1 ht
  by_cases hx0 : insE d0 1 0 t = 0
  case neg =>
    obtain ⟨ez, hez⟩ : ∃ ez, ez = insE d0 1 0 t := ⟨_, rfl⟩
    rw [← hez] at CI hx0
    have HX0 : Hid (ez ≠ 0) := hx0
    clear hez hx0
    go_wp2_with fail
    refine CI.mono ?_
    rintro e w2 ⟨v2, he, _, hv2, hb2⟩
    have := hv2 HX0.out
    subst this
    rw [errV_ne HX0.out] at he
    subst he
    have HB2 : Hid (Below w.heap.size w w2) := bel HB1.out hb2
    clear CI hv2 hb2
    go_wp2_with fail
    go_ret
    exact ⟨rfl, HB2.out⟩
  case pos =>
  have HOX : Hid (InsOk d0 1 0 t) := insE_zero.1 hx0
  have HXM : Hid (∀ x ∈ insL d0 1 0 t, x.2.2.1.size ≤ maxLen) := ops_max inv_zero hx0
  rw [hx0] at CI
  clear hx0
  go_wp2_with fail
  refine CI.mono ?_
  rintro e w2 ⟨v2, he, hv2, _, hb2⟩
  rw [errV_zero] at he
  subst he
  have hv2 := hv2 rfl
  obtain ⟨p2, n2, c2, rfl⟩ := new_shape hv2
  have HXG : Hid (OpsG (fun g => w1.heap.size ≤ g ∧ g < w2.heap.size) w2 (.slice p2 n2 c2) (insL d0 1 0 t)) := OpsG.new hv2
  have HB2 : Hid (Below w.heap.size w w2) := bel HB1.out hb2
  have HD2 : Hid (DocAt w2 D d0 F) := HD1.out.below hb2
  clear CI hv2 hb2 HD1
  by_cases hsz : 60 < t.size
  · have hszz : (60 : Int) < t.size := by omega
    go_wp2_with fail
    go_ret
    exact ⟨rfl, HB2.out⟩
  have hszz : ¬ (60 : Int) < t.size := by omega
  have hs60 : t.size ≤ 60 := by omega
  obtain ⟨hr0, hst0⟩ := start_ok HOX.out hs60
  have HST0 : Hid (CutSt (runS d0 (insL d0 1 0 t)) t 0 []) := hst0
  have HR0 : Hid (runE d0 (insL d0 1 0 t) = 0) := hr0
  have CD := do_any D d0 F _ _ (insL d0 1 0 t) w2 HD2.out HXG.out (fun g hg => ⟨hg.2, fun e => by have := (HF1.out g e).2; have := hg.1; omega⟩) HXM.out
  clear hsz hr0 hst0
  go_wp2_with fail
  refine CD.mono ?_
  rintro e w3 ⟨he, F3, hd3, hc3, hf3⟩
  rw [HR0.out, errV_zero] at he
  subst he
  have HD3 : Hid (DocAt w3 D (runS d0 (insL d0 1 0 t)) F3) := hd3
  have HB3 : Hid (Below w.heap.size w w3) := hc3.below (fun g hg => (HF1.out g hg).1) HB2.out HB2.out.size
  have HF3 : Hid (∀ g, F3 g → w.heap.size ≤ g) := fun g hg => by
    rcases hf3 g hg with e | e
    · exact (HF1.out g e).1
    · exact Nat.le_trans HB2.out.size e
  clear CD hd3 hc3 hf3 HF1 HXG HD2 HB2 HB1 HR0 HXM
  go_wp2_with fail
  generalize hzz : World.alloc _ _ = wz
  obtain ⟨g, hg⟩ : ∃ g, g = w3.heap.size := ⟨_, rfl⟩
  have HIS : Hid (IsAt wz g []) := by unfold Hid; rw [← hzz, hg]; exact is_new w3 _ (by kernel_rfl)
  have HBZ : Hid (Below w.heap.size w wz) := by unfold Hid; rw [← hzz]; exact HB3.out.alloc HB3.out.size _
  have HDZ : Hid (DocAt wz D (runS d0 (insL d0 1 0 t)) F3) := by unfold Hid; rw [← hzz]; exact HD3.out.below ((Below.refl _ _).alloc (Nat.le_refl _) _)
  have HNF : Hid (¬ F3 g) := fun e => by have := HD3.out.lt g e; omega
  have HGW : Hid (w.heap.size ≤ g) := by unfold Hid; rw [hg]; exact HB3.out.size
  rw [← hg]
  clear hzz HD3 HB3 hg
  go_loopw [8, 10] (fun vm vi wr => ∃ (k c : Nat) (acc : List Nat) (S : Dq) (Fk : Nat → Prop), k ≤ na ∧ k ≤ 20 ∧ vi = .int .i64 k ∧ vm = .int .i64 ((acc.length : Int) + 1) ∧ Hid (acc.length ≤ k ∧ c ≤ k) ∧ Hid (CutSt S t c acc) ∧ Hid (DocAt wr D S Fk) ∧ Hid (∀ g, Fk g → w.heap.size ≤ g) ∧ Hid (¬ Fk g) ∧ Hid (IsAt wr g acc) ∧ Hid (Below w.heap.size w wr)) (fun _ vi _ => 20 - (intOf vi).toNat)
  case atStart => exact ⟨0, 0, [], _, F3, by omega, by omega, rfl, rfl, ⟨Nat.le_refl _, Nat.le_refl _⟩, HST0, HDZ, HF3, HNF, HIS, HBZ⟩
  case round =>
    clear HST0 HDZ HF3 HNF HIS HBZ
    obtain ⟨k, c, acc, S, Fk, hk, hk20, rfl, rfl, HAC, HST, HDk, HFk, HNk, HIk, HBk⟩ := hrel
    go_upto_region 8 with fail
    go_cut [41] from 34 to 86 (fun s41 wx => ∃ t : Bool, s41 = .bool t ∧ Hid (t = decide (k < na ∧ k < 20)) ∧ wr = wx)
    case first =>
      by_cases h1 : k < na
      · have h1z : (k : Int) < na := by omega
        by_cases h2 : k < 20
        · have h2z : (k : Int) < 20 := by omega
          go_wp2_with fail
          go_meet
          case rel => exact ⟨true, rfl, (decide_eq_true ⟨h1, h2⟩).symm, rfl⟩
        · have h2z : ¬ (k : Int) < 20 := by omega
          have H2 : Hid (decide (k < na ∧ k < 20) = false) := decide_eq_false (fun h => h2 h.2)
          go_wp2_with fail
          go_meet
          case rel => exact ⟨false, by simp [h2], H2.out.symm, rfl⟩
      · have h1z : ¬ (k : Int) < na := by omega
        have H2 : Hid (decide (k < na ∧ k < 20) = false) := decide_eq_false (fun h => h1 h.1)
        go_wp2_with fail
        go_meet
        case rel => exact ⟨false, rfl, H2.out.symm, rfl⟩
    case rest =>
    obtain ⟨tt, rfl, HTT, rfl⟩ := hcut
    cases tt
    case true =>
      obtain ⟨hlt1, hlt2⟩ := of_decide_eq_true HTT.out.symm
      have hltz : (k : Int) < na := by omega
      have hkl : k < ag.length := by rw [HNA.out]; exact hlt1
      obtain ⟨ba, oa, rfl, hca⟩ := HAI.out.some (by intro e; rw [e] at hkl; simp at hkl)
      have hc0 := hca k hkl
      obtain ⟨x, hx⟩ : ∃ x, x = ag.getD k 0 := ⟨_, rfl⟩
      rw [← hx] at hc0
      have HCX : Hid (∀ W, Below w.heap.size w W → W.cell? ⟨ba, oa + k, none⟩ = some (.int .i64 x)) := fun W hb => (hb.cell (p := ⟨ba, oa + k, none⟩) (World.block_lt_of_cell? _ _ hc0)).trans hc0
      have hcx := HCX.out wr HBk.out
      have C := split_any D S Fk 2 x wr HDk.out
      have HSL : Hid ((seenP S.book).length = t.size) := by unfold Hid; rw [cut_seen HST.out HOX.out.lets]; simp
      clear hca hc0 hx hkl HTT
      by_cases hxa : 0 ≤ x ∧ x < t.size
      case neg =>
        have he1 : atE S 2 x = 1 := by
          rcases atE_cases S 2 x with e | e
          · have := (atE_zero.1 e).2
            rw [HSL.out] at this
            exact absurd this hxa
          · exact e
        rw [he1] at C
        have hor : x < 0 ∨ (0 ≤ x ∧ (t.size : Int) ≤ x) := by omega
        have HX2 : Hid (¬ (0 ≤ x ∧ x < t.size)) := hxa
        clear he1 hxa
        rcases hor with hx1 | ⟨hx1, hx2⟩
        all_goals
          go_wp2_with fail
          refine C.mono ?_
          rintro e w7 ⟨v7, he, _, hv7, hb7⟩
          have := hv7 (by decide)
          subst this
          rw [errV_ne (by decide)] at he
          subst he
          have HB7 : Hid (Below w.heap.size w w7) := bel HBk.out hb7
          have HD7 : Hid (DocAt w7 D S Fk) := HDk.out.below hb7
          have HI7 : Hid (IsAt w7 g acc) := HIk.out.stay (hb7.block g HIk.out.lt)
          have hcx7 := HCX.out w7 HB7.out
          have HAC7 : Hid (acc.length ≤ k + 1 ∧ c ≤ k + 1) := ⟨by have := HAC.out.1; omega, by have := HAC.out.2; omega⟩
          clear hcx C hb7 hv7
          go_wp2_with fail
          go_roundw
          case rel => exact ⟨k + 1, c, acc, S, Fk, by omega, by omega, by go_num, rfl, HAC7, HST, HD7, HFk, HNk, HI7, HB7⟩
          case measure => simp [intOf]; omega
      case pos =>
        obtain ⟨hx0, hx1⟩ := hxa
        obtain ⟨a, rfl⟩ : ∃ a : Nat, x = a := ⟨x.toNat, by omega⟩
        have hat : a < t.size := by omega
        have ha60 : a < 60 := by omega
        have ha60z : (a : Int) < 60 := by omega
        have he0 : atE S 2 (a : Int) = 0 := atE_zero.2 ⟨⟨by decide, by decide⟩, by omega, by rw [HSL.out]; omega⟩
        obtain ⟨hr1, hst1⟩ := cut_step HST.out HOX.out hs60 (by have := HAC.out.2; omega) hat
        have HR1 : Hid (runE S (splL S 2 a) = 0) := hr1
        have HST1 : Hid (CutSt (runS S (splL S 2 a)) t (c + 1) (if a ∈ acc then acc else acc ++ [a])) := hst1
        have HPM : Hid (∀ x ∈ splL S 2 a, x.2.2.1.size ≤ maxLen) := fun x hx => by
          unfold splL at hx
          rw [List.mem_singleton.1 hx]
          have := (Bm.chk_pos (at_chk HST.out.inv he0).1).2
          rw [Om.len_eq] at this
          show (atP S a).size ≤ maxLen
          unfold maxLen; omega
        rw [he0] at C
        obtain ⟨X, hX⟩ : ∃ X, X = splL S 2 (a : Int) := ⟨_, rfl⟩
        rw [← hX] at C HR1 HST1 HPM
        clear he0 hr1 hst1 hX
        go_wp2_with fail
        refine C.mono ?_
        rintro e w7 ⟨v7, he, hv7, _, hb7⟩
        rw [errV_zero] at he
        subst he
        have hv7 := hv7 rfl
        obtain ⟨p7, n7, c7, rfl⟩ := new_shape hv7
        have HB7 : Hid (Below w.heap.size w w7) := bel HBk.out hb7
        have HI7 : Hid (IsAt w7 g acc) := HIk.out.stay (hb7.block g HIk.out.lt)
        have CD := do_any D S Fk _ _ X w7 (HDk.out.below hb7) (OpsG.new hv7) (fun g hg => ⟨hg.2, fun e => by have := HDk.out.lt g e; have := hg.1; omega⟩) HPM.out
        clear hcx C hb7 hv7
        go_wp2_with fail
        refine CD.mono ?_
        rintro e w8 ⟨he, F8, hd8, hc8, hf8⟩
        rw [HR1.out, errV_zero] at he
        subst he
        have HD8 : Hid (DocAt w8 D (runS S X) F8) := hd8
        have HB8 : Hid (Below w.heap.size w w8) := hc8.below HFk.out HB7.out HB7.out.size
        have HI8 : Hid (IsAt w8 g acc) := HI7.out.stay (hc8.block g HI7.out.lt HNk.out)
        have HF8 : Hid (∀ g, F8 g → w.heap.size ≤ g) := fun g hg => by
          rcases hf8 g hg with e | e
          · exact HFk.out g e
          · exact Nat.le_trans HB7.out.size e
        have HN8 : Hid (¬ F8 g) := fun e => by
          rcases hf8 g e with e | e
          · exact HNk.out e
          · have := HI7.out.lt; omega
        have hcx8 := HCX.out w8 HB8.out
        obtain ⟨hcb, hfr⟩ := HI8.out.cell ha60
        clear CD hd8 hc8 hf8 HI7 HDk
        by_cases hin : a ∈ acc
        · rw [decide_eq_true hin] at hcb
          rw [if_pos hin] at HST1
          have HAC8 : Hid (acc.length ≤ k + 1 ∧ c + 1 ≤ k + 1) := ⟨by have := HAC.out.1; omega, by have := HAC.out.2; omega⟩
          clear hin
          go_wp2_with fail
          go_roundw
          case rel => exact ⟨k + 1, c + 1, acc, _, F8, by omega, by omega, by go_num, rfl, HAC8, HST1, HD8, HF8, HN8, HI8, HB8⟩
          case measure => simp [intOf]; omega
        · rw [decide_eq_false hin] at hcb
          rw [if_neg hin] at HST1
          have HAC8 : Hid ((acc ++ [a]).length ≤ k + 1 ∧ c + 1 ≤ k + 1) := ⟨by rw [List.length_append]; have := HAC.out.1; simp; omega, by have := HAC.out.2; omega⟩
          have HI9 : Hid (IsAt (w8.setCell ⟨g, a, none⟩ (.bool true)) g (acc ++ [a])) := HI8.out.put ha60
          have HD9 : Hid (DocAt (w8.setCell ⟨g, a, none⟩ (.bool true)) D (runS S X) F8) := HD8.out.chg (show Chg (fun q => q = g) w8 (w8.setCell ⟨g, a, none⟩ (.bool true)) from Chg.setCell (F := fun q => q = g) (p := ⟨g, a, none⟩) (Chg.refl _ _) rfl _) (fun q hq e => HN8.out (e ▸ hq))
          have HB9 : Hid (Below w.heap.size w (w8.setCell ⟨g, a, none⟩ (.bool true))) := HB8.out.setCell (p := ⟨g, a, none⟩) HGW.out _
          obtain ⟨La, hLa⟩ : ∃ La, La = acc.length := ⟨_, rfl⟩
          have hLa20 : La ≤ 20 := by have := HAC.out.1; omega
          have HLA : Hid (((acc ++ [a]).length : Int) = (La : Int) + 1) := by unfold Hid; rw [List.length_append, hLa]; simp
          rw [← hLa]
          clear hin hLa
          go_wp2_with fail
          go_roundw
          case rel => exact ⟨k + 1, c + 1, acc ++ [a], _, F8, by omega, by omega, by go_num, by rw [HLA.out], HAC8, HST1, HD9, HF8, HN8, HI9, HB9⟩
          case measure => simp [intOf]; omega
    case false =>
      have CB := book_get D S Fk wr HDk.out
      have HI : Hid (Inv S) := HST.out.inv
      have HTX : Hid (Lf.textR S.book = t) := by
        unfold Hid Lf.textR; rw [if_pos HST.out.inv.book]; exact cut_text HST.out HOX.out.lets
      have HHD : Hid ((Sm.heads S.marks).length = acc.length + 1) := cut_heads HST.out HOX.out
      obtain ⟨La, hLa⟩ : ∃ La, La = acc.length := ⟨_, rfl⟩
      rw [← hLa] at HHD ⊢
      clear hLa HTT
      go_wp2_with fail
      refine CB.mono ?_
      rintro e w7 ⟨vb, rfl, hk7, hb7⟩
      obtain ⟨qb, cb, rfl, hbi, hbc, hbm, _⟩ := hk7.1
      have HBI : Hid (LeafsIn w7 qb S.book ∧ S.book.length ≤ cb ∧ cb ≤ maxLen) := ⟨hbi, hbc, hbm⟩
      have HB7 : Hid (Below w.heap.size w w7) := bel HBk.out hb7
      have HD7 : Hid (DocAt w7 D S Fk) := HDk.out.below hb7
      have CM := marks_get D S Fk w7 HD7.out
      obtain ⟨lb, hlb⟩ : ∃ lb, lb = S.book.length := ⟨_, rfl⟩
      rw [← hlb]
      have HLB : Hid (S.book.length = lb) := hlb.symm
      clear CB hk7 hbi hbc hbm hb7 hlb
      go_wp2_with fail
      refine CM.mono ?_
      rintro e w8 ⟨vm, rfl, hk8, hb8⟩
      obtain ⟨pm, nm, cm, rfl⟩ : ∃ p n c, vm = .slice p n c := by obtain ⟨p, c, e, _⟩ := hk8.1; exact ⟨_, _, _, e⟩
      have HB8 : Hid (Below w.heap.size w w8) := bel HB7.out hb8
      have HD8 : Hid (DocAt w8 D S Fk) := HD7.out.below hb8
      have CS := Sf.stretches_dir qb lb cb S.book (.slice pm nm cm) S.marks w8 HLB.out (HBI.out.1.below hb8) (small_book HI.out.book) (by rw [← HLB.out]; exact HBI.out.2.1) HBI.out.2.2 hk8.1 (small_marks HI.out.marks)
      rw [show Sd.dirE S.book S.marks = 0 from Sd.dirE_zero.2 ⟨HI.out.book, HI.out.marks⟩, errV_zero] at CS
      clear CM hk8 hb8
      go_wp2_with fail
      refine CS.mono ?_
      rintro e w9 ⟨v9, rfl, _, hb9, hv9, _⟩
      obtain ⟨g9, cd9, rfl, _⟩ := hv9 (Sd.dirE_zero.2 ⟨HI.out.book, HI.out.marks⟩)
      rw [HHD.out]
      have HB9 : Hid (Below w.heap.size w w9) := bel HB8.out hb9
      have CT := text_get D S Fk w9 (HD8.out.below hb9)
      rw [HTX.out] at CT
      clear CS hb9 hv9
      have hbq : (((La + 1 : Nat) : Int) == (La : Int) + 1) = true := by simp
      go_wp2_with fail
      refine CT.mono ?_
      rintro e w10 ⟨rfl, hb10⟩
      have HB10 : Hid (Below w.heap.size w w10) := bel HB9.out hb10
      clear CT hb10
      go_wp2_with fail
      go_ret
      exact ⟨rfl, HB10.out⟩

end Uk
end Go.Proofs.Ytonbohekiliepaa
