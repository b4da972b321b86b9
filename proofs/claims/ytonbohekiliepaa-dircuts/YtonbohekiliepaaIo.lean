/- The walk of DocOnce. -/
import Derived.Test.YtonbohekiliepaaJ13
import Derived.Test.YtonbohekiliepaaJ6
namespace Go.Proofs.Ytonbohekiliepaa
namespace Io
set_option linter.unusedVariables false
open Go.ChangeShapes Go.WideShapes Go.ChangeAt Go.RowKit Cm Ka Kb Na Om Oa Oz Oc Og Oi Hm Ia Ib Ic Idc Ie If Ig Ih Ii Ij Ik Il Im
open La (bel bel_drew errV_zero errV_ne own_ge own_grow own_below Lies)
open Lj (BookAt BookNew)

def nb : ByteArray := ⟨#[110, 98]⟩
def o1 : Ox := ((1, 1), 1, nb, 104, [])
def d1 : Dq := apS d0 o1
theorem new1 : isNew d0 o1 = true := by kernel_rfl
theorem ap1 : apE d0 o1 = 0 := by kernel_rfl
theorem new2 : isNew d1 o1 = false := by kernel_rfl
theorem ap2 : apE d1 o1 = 0 := by kernel_rfl
theorem same2 : apS d1 o1 = d1 := by unfold apS; rw [new2]; rfl
theorem text1 : Lf.textR d1.book = ⟨#[104]⟩ := by kernel_rfl

/- ops that are applied one behind the other -/
def run (l : List Ox) (k : Nat) : Dq := (l.take k).foldl apS d0
theorem run_zero (l : List Ox) : run l 0 = d0 := rfl
theorem run_next {l : List Ox} {k : Nat} (hk : k < l.length) : run l (k + 1) = apS (run l k) (l.getD k oz) := by
  unfold run; rw [Im.take_next hk, List.foldl_append]; rfl
theorem run_inv (l : List Ox) (k : Nat) : Inv (run l k) := by
  unfold run
  generalize l.take k = m
  suffices h : ∀ (m : List Ox) (S : Dq), Inv S → Inv (m.foldl apS S) from h m d0 inv_zero
  intro m
  induction m with
  | nil => intro S h; exact h
  | cons o m ih => intro S h; exact ih _ (inv_ap h)
theorem run_ord (l : List Ox) (k : Nat) : Ord (run l k) := by
  unfold run
  generalize l.take k = m
  suffices h : ∀ (m : List Ox) (S : Dq), Inv S → Ord S → Ord (m.foldl apS S) from h m d0 inv_zero ord_zero
  intro m
  induction m with
  | nil => intro S _ h; exact h
  | cons o m ih => intro S h h2; exact ih _ (inv_ap h) (ord_ap h h2)
theorem run_known (l : List Ox) (k : Nat) {x : Ox} (hx : x ∈ (run l k).ops) : apE (run l k) x = 0 ∧ isNew (run l k) x = false ∧ apS (run l k) x = run l k :=
  ap_known ((run_inv l k).right x hx) (known_mem (run_inv l k) (run_ord l k) x hx)

theorem six_off {w w' : World} {h : Nat} {a b t : Int} {p : ByteArray} {c : Int} {v : Value} {F : Nat → Prop} (s : Six w h a b t p c v) (hc : Chg F w w') (hf : ¬ F h) : Six w' h a b t p c v := six_same s (hc.block h (six_lt s) hf)
/- the places of a list of numbers -/
def IntsAt (w : World) (v : Value) (l : List Int) : Prop := ∃ p c, v = .slice p l.length c ∧ Za.IntsIn w p l
theorem IntsAt.below {w w' : World} {v : Value} {l : List Int} (h : IntsAt w v l) (hb : Below w.heap.size w w') : IntsAt w' v l := by
  obtain ⟨p, c, h1, h2⟩ := h
  exact ⟨p, c, h1, h2.below hb⟩
/- ops that came in stay below, and lie off a doc that lies above -/
theorem off_old {w : World} {v : Value} {l : List Dt} {F : Nat → Prop} (h : DtsAt w v l) (hF : ∀ g, F g → w.heap.size ≤ g) : In (fun g => ¬ F g) v := fun a n c e hn hf => by
  obtain ⟨q, c2, hv, hin, _⟩ := h
  rw [e] at hv
  injection hv with e1 e2 e3
  rcases hin with e0 | ⟨bb, oo, hp9, hcs⟩
  · rw [e0] at e2; simp at e2; omega
  · rw [hp9] at e1
    injection e1 with e1
    rw [e1] at hf
    have := hF _ hf
    have := (hcs 0 (by omega)).lt
    simp only at *
    omega

set_option maxRecDepth 100000 in
set_option maxHeartbeats 8000000 in
theorem walk (vl va : Value) (l : List Ox) (ag : List Int) (w : World) (hl : OpsAt w vl l) (hsz : ∀ x ∈ l, x.2.2.1.size ≤ maxLen) (ha : IntsAt w va ag) :
    Calls Try.prog 3 #[vl, va] w fun e w' => e = .returned (.bool true) ∧ Below w.heap.size w w' := by
  obtain ⟨ql, cl, rfl, hlin, _⟩ := hl
  obtain ⟨qa, ca, rfl, hain⟩ := ha
  obtain ⟨n, hn⟩ : ∃ n, n = l.length := ⟨_, rfl⟩
  obtain ⟨na, hna⟩ : ∃ na, na = ag.length := ⟨_, rfl⟩
  rw [← hn, ← hna]
  have HN : Hid (l.length = n) := hn.symm
  have HNA : Hid (ag.length = na) := hna.symm
  have HLI : Hid (OpsIn w ql l) := hlin
  have HAI : Hid (Za.IntsIn w qa ag) := hain
  have HSZ : Hid (∀ x ∈ l, x.2.2.1.size ≤ maxLen) := hsz
  clear hlin hain hsz hn hna
  go_enter Try.func3, Try.ntmps3
  go_wp2_with fail
  refine (new_any w).mono ?_
  rintro e w1 ⟨D, F, rfl, hd1, hf1, hb1⟩
  have HD1 : Hid (DocAt w1 D d0 F) := hd1
  have HB1 : Hid (Below w.heap.size w w1) := hb1
  have HF1 : Hid (∀ g, F g → w.heap.size ≤ g ∧ g < w1.heap.size) := fun g hg => ⟨hf1 g hg, hd1.lt g hg⟩
  clear hd1 hf1 hb1
  have HBX : Hid (Below w1.heap.size w1 (w1.alloc (.cells #[.int .i64 1, .int .i64 1, .int .i64 1, .string ⟨#[110, 98]⟩, .int .i64 104, .slice none 0 0] 30))) := (Below.refl _ _).alloc (Nat.le_refl _) _
  have CA : Hid (Calls Try.prog 9 #[.pointer (some ⟨D, 0, none⟩), .agg #[.int .i64 1, .int .i64 1, .int .i64 1, .string ⟨#[110, 98]⟩, .int .i64 104, .slice none 0 0]] (w1.alloc (.cells #[.int .i64 1, .int .i64 1, .int .i64 1, .string ⟨#[110, 98]⟩, .int .i64 104, .slice none 0 0] 30)) (ApPost (w1.alloc (.cells #[.int .i64 1, .int .i64 1, .int .i64 1, .string ⟨#[110, 98]⟩, .int .i64 104, .slice none 0 0] 30)) D d0 F o1)) := apply_any D d0 F 1 1 1 nb 104 (.slice none 0 0) [] _ (HD1.out.below HBX.out) (DtsAt.nil _) (In.nil _) (by unfold maxLen; decide)
  obtain ⟨b0, b1, b2, b3, b4, b5⟩ := six_new w1 1 1 1 ⟨#[110, 98]⟩ 104 (.slice none 0 0) 30
  go_wp2_with fail
  refine CA.out.mono ?_
  rintro e w3 ⟨he, _, F3, hd3, hc3, hf3⟩
  rw [new1, ap1, errV_zero] at he
  subst he
  have HD3 : Hid (DocAt w3 D d1 F3) := hd3
  have HS3 : Hid (Six w3 w1.heap.size 1 1 1 ⟨#[110, 98]⟩ 104 (.slice none 0 0)) := six_off (six_new w1 1 1 1 ⟨#[110, 98]⟩ 104 (.slice none 0 0) 30) hc3 (fun e => by have := (HF1.out _ e).2; omega)
  have HB3 : Hid (Below w.heap.size w w3) := hc3.below (fun g hg => (HF1.out g hg).1) (bel HB1.out HBX.out) (Nat.le_trans HB1.out.size HBX.out.size)
  have CB : Hid (Calls Try.prog 9 #[.pointer (some ⟨D, 0, none⟩), .agg #[.int .i64 1, .int .i64 1, .int .i64 1, .string ⟨#[110, 98]⟩, .int .i64 104, .slice none 0 0]] w3 (ApPost w3 D d1 F3 o1)) := apply_any D d1 F3 1 1 1 nb 104 (.slice none 0 0) [] _ hd3 (DtsAt.nil _) (In.nil _) (by unfold maxLen; decide)
  clear hd3 hc3 hf3 CA b0 b1 b2 b3 b4 b5 HBX HB1 HF1 HD1
  obtain ⟨b0, b1, b2, b3, b4, b5⟩ := HS3.out
  go_wp2_with fail
  refine CB.out.mono ?_
  rintro e w4 ⟨he, hs4, _⟩
  rw [new2, ap2, errV_zero] at he
  subst he
  have HB4 : Hid (Below w.heap.size w w4) := bel HB3.out (hs4 new2)
  have CT := text_get D d1 F3 w4 (HD3.out.below (hs4 new2))
  rw [text1] at CT
  clear hs4 CB b0 b1 b2 b3 b4 b5 HS3 HB3 HD3
  go_wp2_with fail
  refine CT.mono ?_
  rintro e w5 ⟨rfl, hb5⟩
  have HB5 : Hid (Below w.heap.size w w5) := bel HB4.out hb5
  clear hb5 CT HB4
  go_wp2_with fail
  refine (new_any w5).mono ?_
  rintro e w6 ⟨E, F6, rfl, hd6, hf6, hb6⟩
  have HD6 : Hid (DocAt w6 E (run l 0) F6) := hd6
  have HB6 : Hid (Below w.heap.size w w6) := bel HB5.out hb6
  have HF6 : Hid (∀ g, F6 g → w.heap.size ≤ g) := fun g hg => Nat.le_trans HB5.out.size (hf6 g hg)
  clear hd6 hf6 hb6 HB5
  go_wp2_with fail
  go_loopw [11] (fun vi wr => ∃ (k : Nat) (Fk : Nat → Prop), k ≤ n ∧ k ≤ 60 ∧ vi = .int .i64 k ∧ Hid (DocAt wr E (run l k) Fk) ∧ Hid (∀ g, Fk g → w.heap.size ≤ g) ∧ Hid (Below w.heap.size w wr)) (fun vi _ => 60 - (intOf vi).toNat)
  case atStart => exact ⟨0, F6, by omega, by omega, rfl, HD6, HF6, HB6⟩
  case round =>
    clear HD6 HF6 HB6
    obtain ⟨k, Fk, hk, hk60, rfl, HDk, HFk, HBk⟩ := hrel
    by_cases hlt : k < n ∧ k < 60
    · obtain ⟨hlt1, hlt2⟩ := hlt
      have hltz : (k : Int) < n := by omega
      have hltz2 : (k : Int) < 60 := by omega
      have hkl : k < l.length := by rw [HN.out]; exact hlt1
      obtain ⟨bo, oo, rfl, hc⟩ := HLI.out.some (by intro e; rw [e] at hkl; simp at hkl)
      have ha0 := hc k hkl
      have ha := ha0.below HBk.out
      have hxm := HSZ.out _ (getO_mem hkl)
      have HRN : Hid (run l (k + 1) = apS (run l k) (l.getD k oz)) := run_next hkl
      obtain ⟨x, hx⟩ : ∃ x, x = l.getD k oz := ⟨_, rfl⟩
      rw [← hx] at ha ha0 hxm HRN
      obtain ⟨⟨xa, xb⟩, xt, xp, xc, xs⟩ := x
      obtain ⟨vx0, ⟨_, _, _, _, _, f5⟩, hdx0⟩ := ha0
      obtain ⟨vx, ⟨a0, a1, a2, a3, a4, a5⟩, hdx⟩ := ha
      have hvv : vx = vx0 := by
        have := HBk.out.cell (p := ⟨bo, oo + k * 6 + 5, none⟩) (World.block_lt_of_cell? _ _ f5)
        rw [a5, f5] at this
        injection this
      subst hvv
      simp only at a0 a1 a2 a3 a4 a5 hdx hxm hdx0
      obtain ⟨pv, nv, cv, rfl⟩ : ∃ pv nv cv, vx = .slice pv nv cv := by obtain ⟨_, _, e9, _⟩ := hdx; exact ⟨_, _, _, e9⟩
      have C := apply_any E (run l k) Fk xa xb xt xp xc (.slice pv nv cv) xs wr HDk.out hdx (off_old hdx0 HFk.out) hxm
      clear hc hx hkl hdx hxm hdx0 f5
      go_wp2_with fail
      refine C.mono ?_
      rintro e w7 ⟨he, _, F7, hd7, hc7, hf7⟩
      obtain ⟨bn, hbn⟩ : ∃ bn, bn = isNew (run l k) ((xa, xb), xt, xp, xc, xs) := ⟨_, rfl⟩
      obtain ⟨en, hen⟩ : ∃ en, en = errV (apE (run l k) ((xa, xb), xt, xp, xc, xs)) := ⟨_, rfl⟩
      rw [← hbn, ← hen] at he
      subst he
      have HD7 : Hid (DocAt w7 E (run l (k + 1)) F7) := by unfold Hid; rw [HRN.out]; exact hd7
      have HB7 : Hid (Below w.heap.size w w7) := hc7.below HFk.out HBk.out HBk.out.size
      have HF7 : Hid (∀ g, F7 g → w.heap.size ≤ g) := fun g hg => by
        rcases hf7 g hg with e | e
        · exact HFk.out g e
        · exact Nat.le_trans HBk.out.size e
      clear hd7 hc7 hf7 hbn hen C a0 a1 a2 a3 a4 a5
      go_wp2_with fail
      go_roundw
      case rel => exact ⟨k + 1, F7, by omega, by omega, by go_num, HD7, HF7, HB7⟩
      case measure => simp [intOf]; omega
    · obtain ⟨S, hS⟩ : ∃ S, S = run l k := ⟨_, rfl⟩
      have HSK : Hid (∀ x ∈ S.ops, apE S x = 0 ∧ isNew S x = false ∧ x.2.2.1.size ≤ maxLen) := fun x hx => by
        rw [hS] at hx ⊢
        exact ⟨(run_known l k hx).1, (run_known l k hx).2.1, small_place (opE_zero.1 ((run_inv l k).right x hx)).2.2.1⟩
      have HI : Hid (Inv S) := by unfold Hid; rw [hS]; exact run_inv l k
      rw [← hS] at HDk
      clear hS HSZ HLI
      obtain ⟨B1, hB1⟩ : ∃ B1, B1 = wr.heap.size := ⟨_, rfl⟩
      have HLT : Hid (∀ g, Fk g → g < B1) := fun g hg => by rw [hB1]; exact HDk.out.lt g hg
      have CO : Calls Try.prog 11 #[.pointer (some ⟨E, 0, none⟩)] wr fun e w' => ∃ v', e = .returned v' ∧ OpsNew B1 w' v' S.ops ∧ Below wr.heap.size wr w' := by rw [hB1]; exact ops_get E S Fk wr HDk.out
      clear hB1
      have HFEW : Hid (S.ops.length ≤ 400) := HI.out.few
      have hor : (¬ (k : Int) < n) ∨ ((k : Int) < n ∧ ¬ (k : Int) < 60) := by omega
      rcases hor with hg1 | ⟨hg1, hg2⟩
      all_goals
        go_wp2_with fail
        refine CO.mono ?_
        rintro e w7 ⟨vo, rfl, ho7, hb7⟩
        have HO7 : Hid (OpsNew B1 w7 vo S.ops) := ho7
        have HB7 : Hid (Below w.heap.size w w7) := bel HBk.out hb7
        have HD7 : Hid (DocAt w7 E S Fk) := HDk.out.below hb7
        obtain ⟨go, No, hvo⟩ : ∃ go No, vo = .slice (some ⟨go, 0, none⟩) No No ∧ Hid (No = S.ops.length) := by obtain ⟨g9, L9, e9, _⟩ := ho7; exact ⟨g9, _, e9, rfl⟩
        obtain ⟨rfl, HNO⟩ := hvo
        have CBk := book_get E S Fk w7 HD7.out
        clear ho7 hb7 CO
        go_wp2_with fail
        refine CBk.mono ?_
        rintro e w8 ⟨vb, rfl, hk8, hb8⟩
        obtain ⟨pb, nb8, cb, rfl⟩ : ∃ p n c, vb = .slice p n c := by obtain ⟨⟨p, c, e, _⟩, _⟩ := hk8; exact ⟨_, _, _, e⟩
        have HK8 : Hid (BookAt w8 (.slice pb nb8 cb) S.book) := hk8.1
        have HO8 : Hid (OpsNew B1 w8 (.slice (some ⟨go, 0, none⟩) No No) S.ops) := HO7.out.below hb8
        have HB8 : Hid (Below w.heap.size w w8) := bel HB7.out hb8
        have HD8 : Hid (DocAt w8 E S Fk) := HD7.out.below hb8
        have CMk := marks_get E S Fk w8 HD8.out
        clear hk8 hb8 CBk HO7 HB7 HD7
        go_wp2_with fail
        refine CMk.mono ?_
        rintro e w9 ⟨vm, rfl, hk9, hb9⟩
        obtain ⟨pm, nm9, cm, rfl⟩ : ∃ p n c, vm = .slice p n c := by obtain ⟨⟨p, c, e, _⟩, _⟩ := hk9; exact ⟨_, _, _, e⟩
        have HM9 : Hid (MksAt w9 (.slice pm nm9 cm) S.marks) := hk9.1
        have HK9 : Hid (BookAt w9 (.slice pb nb8 cb) S.book) := HK8.out.below hb9
        have HO9 : Hid (OpsNew B1 w9 (.slice (some ⟨go, 0, none⟩) No No) S.ops) := HO8.out.below hb9
        have HB9 : Hid (Below w.heap.size w w9) := bel HB8.out hb9
        have HD9 : Hid (DocAt w9 E S Fk) := HD8.out.below hb9
        clear hk9 hb9 CMk HO8 HB8 HD8 HK8
        go_wp2_with fail
        go_loopw [15] (fun vi w2 => ∃ (j : Nat), j ≤ na ∧ j ≤ 60 ∧ vi = .int .i64 j ∧ Hid (DocAt w2 E S Fk) ∧ Hid (OpsNew B1 w2 (.slice (some ⟨go, 0, none⟩) No No) S.ops) ∧ Hid (BookAt w2 (.slice pb nb8 cb) S.book) ∧ Hid (MksAt w2 (.slice pm nm9 cm) S.marks) ∧ Hid (Below w.heap.size w w2)) (fun vi _ => 60 - (intOf vi).toNat)
        case atStart => exact ⟨0, by omega, by omega, rfl, HD9, HO9, HK9, HM9, HB9⟩
        case round =>
          clear HD9 HO9 HK9 HM9 HB9 HDk HBk
          obtain ⟨j, hj, hj60, rfl, HD, HO, HK, HM, HB⟩ := hrel
          by_cases hjt : j < na ∧ j < 60
          · obtain ⟨hj1, hj2⟩ := hjt
            have hj1z : (j : Int) < na := by omega
            have hj2z : (j : Int) < 60 := by omega
            have hja : j < ag.length := by rw [HNA.out]; exact hj1
            obtain ⟨ba, oa, rfl, hca⟩ := HAI.out.some (by intro e; rw [e] at hja; simp at hja)
            have hcell := (HB.out.cell (p := ⟨ba, oa + j, none⟩) (World.block_lt_of_cell? _ _ (hca j hja))).trans (hca j hja)
            obtain ⟨x, hx⟩ : ∃ x, x = ag.getD j 0 := ⟨_, rfl⟩
            rw [← hx] at hcell
            clear hca hx hja
            by_cases hx0 : x < 0
            · go_wp2_with fail
              go_roundw
              case rel => exact ⟨j + 1, by omega, by omega, by go_num, HD, HO, HK, HM, HB⟩
              case measure => simp [intOf]; omega
            · obtain ⟨t, rfl⟩ : ∃ t : Nat, x = t := ⟨x.toNat, by omega⟩
              by_cases hxN : No ≤ t
              · have hxNz : (No : Int) ≤ t := by omega
                go_wp2_with fail
                go_roundw
                case rel => exact ⟨j + 1, by omega, by omega, by go_num, HD, HO, HK, HM, HB⟩
                case measure => simp [intOf]; omega
              · have htN : t < No := by omega
                have htNz : (t : Int) < No := by omega
                have htNz2 : ¬ (No : Int) ≤ t := by omega
                obtain ⟨g9, L9, e9, hg9, hL9, hr9, _, ho9⟩ := HO.out
                injection e9 with e1 e2 e3
                injection e1 with e1
                injection e1 with e1
                subst e1
                have hll : L9.length = S.ops.length := by rw [← hL9, List.length_map]
                have htl : t < L9.length := by rw [hll, ← HNO.out]; exact htN
                have hy := List.getElem?_eq_getElem htl
                have hmem : L9[t] ∈ L9 := List.getElem_mem htl
                have hin : L9[t].1 ∈ S.ops := by rw [← hL9]; exact List.mem_map.2 ⟨_, hmem, rfl⟩
                obtain ⟨hk1, hk2, hk3⟩ := HSK.out _ hin
                have key := hr9.at hy
                have hown := ho9 _ hmem
                obtain ⟨y, hyy⟩ : ∃ y, y = L9[t] := ⟨_, rfl⟩
                rw [← hyy] at key hown hk1 hk2 hk3
                obtain ⟨⟨⟨ya, yb⟩, yt, yp, yc, ys⟩, yv⟩ := y
                have a0 := key 0 _ rfl
                have a1 := key 1 _ rfl
                have a2 := key 2 _ rfl
                have a3 := key 3 _ rfl
                have a4 := key 4 _ rfl
                have a5 := key 5 _ rfl
                rw [Nat.add_zero] at a0
                simp only at a0 a1 a2 a3 a4 a5 hown hk1 hk2 hk3
                obtain ⟨pv, nv, cv, rfl, _⟩ := own_shape hown
                have C := apply_any E S Fk ya yb yt yp yc (.slice pv nv cv) ys wr HD.out (own_dts hown) (fun a n c e hn hf => by have q1 := Lies.own hown a n c e hn; have q2 := HLT.out _ hf; omega) hk3
                have HK1 : Hid (apE S ((ya, yb), yt, yp, yc, ys) = 0) := hk1
                have HK2 : Hid (isNew S ((ya, yb), yt, yp, yc, ys) = false) := hk2
                clear key hown hk1 hk2 hk3 hyy hin hmem hy htl hll ho9 hr9 hL9 hg9 e2 e3
                go_wp2_with fail
                refine C.mono ?_
                rintro e w7 ⟨he, hs7, _⟩
                rw [HK1.out, HK2.out, errV_zero] at he
                subst he
                have hb7 := hs7 HK2.out
                have HD7 : Hid (DocAt w7 E S Fk) := HD.out.below hb7
                have HO7 : Hid (OpsNew B1 w7 (.slice (some ⟨go, 0, none⟩) No No) S.ops) := HO.out.below hb7
                have HKA : Hid (BookAt w7 (.slice pb nb8 cb) S.book) := HK.out.below hb7
                have HM7 : Hid (MksAt w7 (.slice pm nm9 cm) S.marks) := HM.out.below hb7
                have HB7 : Hid (Below w.heap.size w w7) := bel HB.out hb7
                clear C hs7 hb7 a0 a1 a2 a3 a4 a5
                go_wp2_with fail
                go_roundw
                case rel => exact ⟨j + 1, by omega, by omega, by go_num, HD7, HO7, HKA, HM7, HB7⟩
                case measure => simp [intOf]; omega
          · have hor2 : (¬ (j : Int) < na) ∨ ((j : Int) < na ∧ ¬ (j : Int) < 60) := by omega
            have CB2 := book_get E S Fk wr HD.out
            rcases hor2 with hg3 | ⟨hg3, hg4⟩
            all_goals
              go_wp2_with fail
              refine CB2.mono ?_
              rintro e w7 ⟨v7, rfl, hk7, hb7⟩
              have CL := Lk.leafs_any v7 (.slice pb nb8 cb) S.book S.book w7 hk7.1 (HK.out.below hb7) (by have := few_book HI.out; omega)
              rw [decide_eq_true rfl] at CL
              have HD7 : Hid (DocAt w7 E S Fk) := HD.out.below hb7
              have HM7 : Hid (MksAt w7 (.slice pm nm9 cm) S.marks) := HM.out.below hb7
              have HB7 : Hid (Below w.heap.size w w7) := bel HB.out hb7
              clear hk7 hb7 CB2
              go_wp2_with fail
              refine CL.mono ?_
              rintro e w8 ⟨rfl, hb8⟩
              have HM8 : Hid (MksAt w8 (.slice pm nm9 cm) S.marks) := HM7.out.below hb8
              have HB8 : Hid (Below w.heap.size w w8) := bel HB7.out hb8
              have HD8 : Hid (DocAt w8 E S Fk) := HD7.out.below hb8
              have CM2 := marks_get E S Fk w8 HD8.out
              clear hb8 CL HD7 HM7 HB7
              go_wp2_with fail
              refine CM2.mono ?_
              rintro e w9 ⟨v9, rfl, hk9, hb9⟩
              have CMM := Np.marks_any v9 (.slice pm nm9 cm) S.marks S.marks w9 hk9.1 (HM8.out.below hb9) (by have := few_marks HI.out; omega)
              rw [decide_eq_true rfl] at CMM
              have HB9 : Hid (Below w.heap.size w w9) := bel HB8.out hb9
              have HD9 : Hid (DocAt w9 E S Fk) := HD8.out.below hb9
              clear hk9 hb9 CM2 HD8 HM8 HB8
              go_wp2_with fail
              refine CMM.mono ?_
              rintro e w10 ⟨rfl, hb10⟩
              have HB10 : Hid (Below w.heap.size w w10) := bel HB9.out hb10
              have CO2 := ops_get E S Fk w10 (HD9.out.below hb10)
              clear hb10 CMM HD9 HB9
              go_wp2_with fail
              refine CO2.mono ?_
              rintro e w11 ⟨v11, rfl, ho11, hb11⟩
              obtain ⟨g11, L11, rfl, _⟩ := ho11
              rw [← HNO.out]
              have HB11 : Hid (Below w.heap.size w w11) := bel HB10.out hb11
              clear hb11 CO2
              go_wp2_with fail
              go_ret
              exact ⟨rfl, HB11.out⟩

end Io
end Go.Proofs.Ytonbohekiliepaa
