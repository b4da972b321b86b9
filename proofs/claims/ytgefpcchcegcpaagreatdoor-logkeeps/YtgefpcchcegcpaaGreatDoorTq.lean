/- LogKeeps' walk: what is asked of package log is a premise here. -/
import Derived.Test.YtgefpcchcegcpaaGreatDoorTw
import Derived.Deep.DeepCutAuto
import Derived.Deep.CutBlock
import Derived.Deep.CutRange
import Derived.Deep.RegionHeld3
namespace Go.Proofs.YtgefpcchcegcpaaGreatDoor
namespace Tq
set_option linter.unusedVariables false
set_option linter.unusedSimpArgs false
open Go.ChangeShapes Go.WideShapes Go.ChangeAt Go.RowKit Cm Ka Kb Na Om Oa Oz Oc Og Oi Hm Ia Ic Idc Ie If Ig Ih Ii Ij Ik Il Tg Th Tm Tn Xp Xq Kt Kl Tw
open La (bel_drew errV_zero errV_ne own_ge own_grow own_below Lies LeafsIn)
open Lj (BookAt)
open Ti (put_bare dts_nil)

set_option maxRecDepth 100000 in
set_option maxHeartbeats 16000000 in
theorem walk (L : LogSays) (LF : LogFails L) (LT : LogTells L) (vl : Value) (l : List Ox) (vy : Value) (Y : List Int) (vf : Value) (Fl : List Int) (vk : Value) (K : List Int) (w : World) (hl : OpsAt w vl l) (hsz : ∀ x ∈ l, x.2.2.1.size ≤ maxLen) (hY : KnAt w vy Y) (hFl : KnAt w vf Fl) (hK : KnAt w vk K) (hfb : ∀ x ∈ Fl, x < 9223372036854775808) (hE : ET w) :
    Calls Tryz.prog 4 #[vl, vy, vf, vk] w fun e w' => e = .returned (.bool true) ∧ Below w.heap.size w w' := by
  obtain ⟨ql, cl, rfl, hlin, _⟩ := hl
  obtain ⟨py, cy, rfl, hyi⟩ := hY
  obtain ⟨pf, cf, rfl, hfi⟩ := hFl
  obtain ⟨pk, ck, rfl, hki⟩ := hK
  obtain ⟨nl, hnl⟩ : ∃ n, n = l.length := ⟨_, rfl⟩
  obtain ⟨ny, hny⟩ : ∃ n, n = Y.length := ⟨_, rfl⟩
  obtain ⟨nf, hnf⟩ : ∃ n, n = Fl.length := ⟨_, rfl⟩
  obtain ⟨nk, hnk⟩ : ∃ n, n = K.length := ⟨_, rfl⟩
  rw [← hnl, ← hny, ← hnf, ← hnk]
  have HNL : Hid (l.length = nl) := hnl.symm
  have HNY : Hid (Y.length = ny) := hny.symm
  have HNF : Hid (Fl.length = nf) := hnf.symm
  have HNK : Hid (K.length = nk) := hnk.symm
  have HLI : Hid (OpsIn w ql l) := hlin
  have HSZ : Hid (∀ x ∈ l, x.2.2.1.size ≤ maxLen) := hsz
  have HYI := Hid.mk' hyi
  have HFI := Hid.mk' hfi
  have HKI := Hid.mk' hki
  have HE := Hid.mk' hE
  have HFB := Hid.mk' hfb
  clear hlin hsz hnl hny hnf hnk hyi hfi hki hE hfb
  go_enter Tryz.func4, Tryz.ntmps4
  go_wp2_with fail
  refine (L.new w).mono ?_
  rintro e w1 ⟨X0, F1, rfl, hx, hf, hb⟩
  have HC1 : Hid (Lc L w w1 X0 Tg.new F1) := ⟨hx, hf, hb⟩
  clear hx hf hb
  go_wp2_with fail
  generalize hw2 : World.alloc w1 _ = w2
  obtain ⟨Bo, hBo⟩ : ∃ Bo, Bo = w1.heap.size := ⟨_, rfl⟩
  rw [← hBo]
  have HBL2 : Hid (w2.heap[Bo]? = some (.cells #[.int .i64 1, .int .i64 1, .int .i64 1, .string ⟨#[110, 98]⟩, .int .i64 104, .slice none 0 0] 34)) := by rw [Hid, ← hw2, hBo]; exact heap_alloc_new w1 _
  have HB2 : Hid (Below w1.heap.size w1 w2) := by rw [Hid, ← hw2]; exact (Below.refl _ _).alloc (Nat.le_refl _) _
  have HC2 := Hid.mk' (HC1.out.below HB2.out)
  have HBF2 : Hid (¬ F1 Bo ∧ w.heap.size ≤ Bo) := ⟨fun e => by have h9 := L.lt HC1.out.at' Bo e; omega, by have h9 := HC1.out.bel.size; omega⟩
  have C2 := put_bare L w X0 Tg.new F1 1 1 1 ⟨#[110, 98]⟩ 104 w2 HC2.out ⟨Nat.zero_le _, Nat.zero_le _⟩ (by unfold maxLen; decide) true 0 (open1 0).1 (open1 0).2.1
  rw [errV_zero] at C2
  have o0 := blk_cell HBL2.out (i := 0) (u := .int .i64 1) rfl
  have o1 := blk_cell HBL2.out (i := 1) (u := .int .i64 1) rfl
  have o2 := blk_cell HBL2.out (i := 2) (u := .int .i64 1) rfl
  have o3 := blk_cell HBL2.out (i := 3) (u := .string ⟨#[110, 98]⟩) rfl
  have o4 := blk_cell HBL2.out (i := 4) (u := .int .i64 104) rfl
  have o5 := blk_cell HBL2.out (i := 5) (u := .slice none 0 0) rfl
  clear hw2 hBo
  go_wp2_with fail
  refine C2.mono ?_
  rintro e w3 ⟨rfl, r1, F3, hr1, _, hc3, hg3, hs3⟩
  have HBL3 : Hid (w3.heap[Bo]? = some (.cells #[.int .i64 1, .int .i64 1, .int .i64 1, .string ⟨#[110, 98]⟩, .int .i64 104, .slice none 0 0] 34)) := (hg3.block Bo (Array.getElem?_eq_some_iff.1 HBL2.out).1 HBF2.out.1).trans HBL2.out
  have HBF3 : Hid (¬ F3 Bo) := fun e => by
    rcases hs3 Bo e with e | e
    · exact HBF2.out.1 e
    · have := (Array.getElem?_eq_some_iff.1 HBL2.out).1; omega
  have HC3 : Hid (Lc L w w3 X0 ⟨[a1], [r1], r1, 0, none, false⟩ F3) := by rw [Hid, ← (open1 r1).2.2]; exact hc3
  have C3 := L.sync X0 _ F3 w3 HC3.out.at' ⟨by show r1 ≤ 100000000; omega, by show 1 ≤ 400; omega⟩
  rw [(open2 r1).1, (open2 r1).2, errV_zero] at C3
  have hr1b : r1 ≤ 100000 := hr1
  clear hc3 hg3 hs3 C2 o0 o1 o2 o3 o4 o5 hr1
  go_wp2_with fail
  refine C3.mono ?_
  rintro e w4 ⟨rfl, F4, x1, x2, x3⟩
  have HBL4 : Hid (w4.heap[Bo]? = some (.cells #[.int .i64 1, .int .i64 1, .int .i64 1, .string ⟨#[110, 98]⟩, .int .i64 104, .slice none 0 0] 34)) := (x2.block Bo (Array.getElem?_eq_some_iff.1 HBL3.out).1 HBF3.out).trans HBL3.out
  have HBF4 : Hid (¬ F4 Bo) := fun e => by
    rcases x3 Bo e with e | e
    · exact HBF3.out e
    · have := (Array.getElem?_eq_some_iff.1 HBL3.out).1; omega
  have HC4 : Hid (Lc L w w4 X0 ⟨[a1], [r1], r1, r1, none, false⟩ F4) := ⟨x1, fun g e => by
    rcases x3 g e with e | e
    · exact HC3.out.low g e
    · have := HC3.out.bel.size; omega, x2.below HC3.out.low HC3.out.bel HC3.out.bel.size⟩
  have o0 := blk_cell HBL4.out (i := 0) (u := .int .i64 1) rfl
  have o1 := blk_cell HBL4.out (i := 1) (u := .int .i64 1) rfl
  have f1 := blk_free HBL4.out (i := 1)
  have o2 := blk_cell HBL4.out (i := 2) (u := .int .i64 1) rfl
  have o3 := blk_cell HBL4.out (i := 3) (u := .string ⟨#[110, 98]⟩) rfl
  have f3 := blk_free HBL4.out (i := 3)
  have o4 := blk_cell HBL4.out (i := 4) (u := .int .i64 104) rfl
  have o5 := blk_cell HBL4.out (i := 5) (u := .slice none 0 0) rfl
  clear x1 x2 x3 C3
  go_wp2_with fail
  generalize hw5 : World.setCell (World.setCell w4 _ _) _ _ = w5
  have HC5 : Hid (Lc L w w5 X0 ⟨[a1], [r1], r1, r1, none, false⟩ F4) := by
    have hc : Chg (fun g => g = Bo) w4 w5 := by rw [← hw5]; exact ((Chg.refl (fun g => g = Bo) w4).setCell (p := ⟨Bo, 1, none⟩) rfl _).setCell (p := ⟨Bo, 3, none⟩) rfl _
    exact ⟨L.chg HC4.out.at' hc (fun g e1 e2 => HBF4.out (e2 ▸ e1)), HC4.out.low, hc.below (fun g e => by rw [e]; exact HBF2.out.2) HC4.out.bel HC4.out.bel.size⟩
  clear hw5 o0 o1 o2 o3 o4 o5 f1 f3 HBL4 HBF4 HC4 HBL3 HBF3 HC3 HBL2 HC2 HB2
  have C5 := put_bare L w X0 ⟨[a1], [r1], r1, r1, none, false⟩ F4 1 2 1 ⟨#[111, 98]⟩ 104 w5 HC5.out ⟨by show r1 ≤ 100000000; omega, by show 1 ≤ 400; omega⟩ (by unfold maxLen; decide) _ 0 rfl (open3 r1 0).1
  rw [errV_zero] at C5
  obtain ⟨pn, hpn⟩ : ∃ pn, putN ⟨[a1], [r1], r1, r1, none, false⟩ ((1, 2), 1, ⟨#[111, 98]⟩, 104, []) = pn := ⟨_, rfl⟩
  rw [hpn] at C5
  clear hpn
  refine C5.mono ?_
  rintro e w6 ⟨rfl, r2, F6, hr2, hr2b, hc6, _, _⟩
  have HC6 : Hid (Lc L w w6 X0 ⟨[a1, a2], [r1, r1 + r2], r1 + r2, r1, none, false⟩ F6) := by rw [Hid, ← (open3 r1 r2).2]; exact hc6
  have C6 := L.crash X0 _ F6 0 w6 HC6.out.at' ⟨by show r1 + r2 ≤ 100000000; omega, by show 2 ≤ 400; omega⟩
  rw [open4 r1 r2 hr2b] at C6
  clear hc6 C5 hr2 hr2b
  go_wp2_with fail
  refine C6.mono ?_
  rintro e w7 ⟨rfl, hl7⟩
  obtain ⟨F7, h7c⟩ := HC6.out.set hl7
  have HC7 := Hid.mk' h7c
  have C7 := L.doc X0 _ F7 w7 h7c.at'
  clear hl7 h7c C6 HC6
  go_wp2_with fail
  refine C7.mono ?_
  rintro e w8 ⟨D8, Fd8, rfl, hd8, _, hb8⟩
  have HC8 := Hid.mk' (HC7.out.below hb8)
  have C8 := text_get D8 _ Fd8 w8 hd8
  rw [open5 r1] at C8
  clear hd8 hb8 C7 HC7
  go_wp2_with fail
  refine C8.mono ?_
  rintro e w9 ⟨rfl, hb9⟩
  have HC9 := Hid.mk' (HC8.out.below hb9)
  have C9 := LT.bytes X0 _ F7 w9 HC9.out.at' ⟨by show r1 ≤ 100000000; omega, by show 1 ≤ 400; omega⟩
  clear hb9 C8 HC8
  go_wp2_with fail
  refine C9.mono ?_
  rintro e w10 ⟨rfl, hb10⟩
  have HC10 := Hid.mk' (HC9.out.below hb10)
  have C10 := LT.safe X0 _ F7 w10 HC10.out.at' ⟨by show r1 ≤ 100000000; omega, by show 1 ≤ 400; omega⟩
  clear hb10 C9 HC9
  go_wp2_with fail
  refine C10.mono ?_
  rintro e w11 ⟨rfl, hb11⟩
  have HB11 : Hid (Below w.heap.size w w11) := (HC10.out.below hb11).bel
  clear hb11 C10 HC10 hr1b
  go_wp2_with fail
  refine (L.new w11).mono ?_
  rintro e w12 ⟨X, F12, rfl, hx, hf, hb⟩
  have HX12 := Hid.mk' hx
  have HF12 : Hid (∀ g, F12 g → w11.heap.size ≤ g) := hf
  have HB12 : Hid (Below w.heap.size w w12) := La.bel HB11.out hb
  have HZ12 : Hid (w11.heap.size ≤ w12.heap.size) := hb.size
  have CR := new_ref (Old w) w12 (fun g hg => Nat.lt_of_lt_of_le hg HB12.out.size)
  clear hx hf hb
  go_wp2_with fail
  refine CR.mono ?_
  rintro e w13 ⟨E0, F13, rfl, hr13, hf13, hb13⟩
  have HX13 := Hid.mk' (L.below HX12.out hb13)
  have HR13 := Hid.mk' hr13
  have HF13 : Hid (∀ g, F13 g → w12.heap.size ≤ g) := hf13
  have HB13 : Hid (Below w.heap.size w w13) := La.bel HB12.out hb13
  have HL12 : Hid (∀ g, F12 g → g < w12.heap.size) := L.lt HX12.out
  have HZ13 : Hid (w12.heap.size ≤ w13.heap.size) := hb13.size
  clear hr13 hf13 hb13 CR HX12
  go_wp2_with fail
  generalize hw15 : World.alloc (World.alloc w13 _) _ = w15
  obtain ⟨gd, hgd⟩ : ∃ gd, gd = w13.heap.size := ⟨_, rfl⟩
  rw [← hgd]
  obtain ⟨gm, hgm⟩ : ∃ gm, gm = gd + 1 := ⟨_, rfl⟩
  rw [← hgm]
  have HK0 : Hid (Kn L w w15 X Tg.new F12 F13 [E0] gd 1 gm 1 1) := by
    have b1 : Below w13.heap.size w13 (w13.alloc (.cells #[.pointer (some ⟨E0, 0, none⟩)] 43)) := (Below.refl _ _).alloc (Nat.le_refl _) _
    have b2 : Below w13.heap.size w13 w15 := by rw [← hw15]; exact b1.alloc (by simp) _
    have hz := HB13.out.size
    have hz2 : w15.heap.size = w13.heap.size + 2 := by rw [← hw15]; simp
    have hE0 : w15.heap[gd]? = some (.cells #[.pointer (some ⟨E0, 0, none⟩)] 43) := by
      rw [← hw15, hgd, Below.heap_alloc _ _ _ (by simp)]; exact heap_alloc_new w13 _
    have hM0 : w15.heap[gm]? = some (.cells #[.int .i64 0] 3) := by
      have h9 := heap_alloc_new (w13.alloc (.cells #[.pointer (some ⟨E0, 0, none⟩)] 43)) (.cells #[.int .i64 0] 3)
      rw [show (w13.alloc (.cells #[.pointer (some ⟨E0, 0, none⟩)] 43)).heap.size = gm by rw [hgm, hgd]; simp] at h9
      rw [← hw15]; exact h9
    have hR := HR13.out.lt
    have h11 := HB11.out.size
    have h12 := HZ12.out
    have h13 := HZ13.out
    refine ⟨L.below HX13.out b2, fun g e => Nat.le_trans h11 (HF12.out g e), rfl, ⟨rfl, rfl, fun i hi => ?_, ⟨rfl, Or.inr ⟨gd, 1, _, rfl, by omega, hE0, Nat.le_refl _, by unfold maxLen; omega, rfl, rfl⟩⟩, ⟨rfl, Or.inr ⟨gm, 1, _, rfl, by omega, hM0, Nat.le_refl _, by unfold maxLen; omega, rfl, rfl⟩⟩, fun g hg => ?_, fun g hg => ?_, fun g hg e => ?_, La.bel HB13.out b2⟩⟩
    · have hi0 : i = 0 := Nat.le_zero.1 hi
      subst hi0
      exact ⟨F13, HR13.out.below b2, fun g hg => hg⟩
    · have h1 := HF13.out g hg
      have h2 := (hR g hg).2
      exact ⟨by omega, by omega, fun e => by have := HL12.out g e; omega⟩
    · have h2 : g = gd ∨ g = gm := by
        rcases hg with e | e
        · injection e with e; exact Or.inl e.symm
        · injection e with e; exact Or.inr e.symm
      exact ⟨fun e => by have := HL12.out g e; omega, fun e => by have := (hR g e).2; omega⟩
    · have e1 : some gd = some g := hg
      have e2 : some gm = some g := e
      injection e1 with e1
      injection e2 with e2
      omega
  clear hw15 hgd hgm HX13 HR13 HF13 HB13 HL12 HZ13 HZ12 HF12 HB12 HB11
  go_loopw [17, 18, 19, 20] (fun v17 v18 v19 v20 wr => ∃ (R n : Nat) (s : Lg) (F G : Nat → Prop) (Es : List Nat) (gd cd gm cm q : Nat), R ≤ 4 ∧ n ≤ nl ∧ n ≤ 8 * R ∧ v20 = .int .i64 R ∧ v19 = .int .i64 n ∧ v17 = .slice (some ⟨gd, 0, none⟩) q cd ∧ v18 = .slice (some ⟨gm, 0, none⟩) q cm ∧ Hid (Kn L w wr X s F G Es gd cd gm cm q) ∧ Hid (Bd s n)) (fun _ _ _ v20 _ => 10 - (intOf v20).toNat)
  case atStart => exact ⟨0, 0, Tg.new, F12, F13, [E0], gd, 1, gm, 1, 1, by omega, by omega, by omega, rfl, rfl, rfl, rfl, HK0, ⟨Nat.zero_le _, Nat.zero_le _, by omega⟩⟩
  case round =>
    clear HK0
    obtain ⟨R, n, s, F, G, Es, gd, cd, gm, cm, q, hR4, hnl, hn8, rfl, rfl, rfl, rfl, HK, HD⟩ := hrel
    by_cases hc : R ≤ nf ∧ R < 4
    case neg =>
      have HB9 := Hid.mk' HK.out.bel
      clear HK HD
      by_cases h1 : R ≤ nf
      · have h1z : (R : Int) ≤ nf := by omega
        have h2z : ¬ (R : Int) < 4 := by omega
        clear hc h1
        go_wp2_with fail
        go_ret
        exact ⟨rfl, HB9.out⟩
      · have h1z : ¬ (R : Int) ≤ nf := by omega
        clear hc h1
        go_wp2_with fail
        go_ret
        exact ⟨rfl, HB9.out⟩
    case pos =>
      obtain ⟨hRf, hR3⟩ := hc
      have hRfz : (R : Int) ≤ nf := by omega
      have hR3z : (R : Int) < 4 := by omega
      go_upto_if 106 with fail
      go_cut [] from 93 to 337 (fun wx => ∃ (s' : Lg) (F' : Nat → Prop), Hid (Kn L w wx X s' F' G Es gd cd gm cm q) ∧ Hid (Bd s' n))
      case first =>
        as_aux_lemma =>
          by_cases hlt : R < nf
          · have hz : (R : Int) < nf := by omega
            obtain ⟨bf, of, rfl, hfc⟩ := HFI.out.some (by intro e; have := HNF.out; rw [e] at this; simp at this; omega)
            obtain ⟨f, hf⟩ : ∃ f, f = Fl.getD R 0 := ⟨_, rfl⟩
            have cf1 := keep_cell HK.out.bel (hfc R (by rw [HNF.out]; exact hlt))
            rw [← hf] at cf1
            have hf63 : f < 9223372036854775808 := by rw [hf]; exact HFB.out _ (getD_mem (by rw [HNF.out]; exact hlt))
            have C := LF.fail X s F f wr HK.out.log hf63
            clear hf hfc hlt hf63
            go_wp2_with fail
            refine C.mono ?_
            rintro e w2 ⟨rfl, hl2⟩
            obtain ⟨F2, hk2⟩ := HK.out.set hl2 rfl rfl
            have HK2 := Hid.mk' hk2
            have HD2 : Hid (Bd (failS s f) n) := HD.out
            clear hl2 hk2 C
            go_wp2_with fail
            go_meet
            case rel => exact ⟨_, F2, HK2, HD2⟩
          · have hz : ¬ (R : Int) < nf := by omega
            clear hlt
            go_wp2_with fail
            go_meet
            case rel => exact ⟨s, F, HK, HD⟩
      case rest =>
        obtain ⟨s1, F1, HK1, HD1⟩ := hcut
        clear HK HD
        go_wp2_with fail
        go_loopw [17, 18, 19, 21] (fun v17 v18 v19 v21 wx => ∃ (k n : Nat) (s : Lg) (F G : Nat → Prop) (Es : List Nat) (gd cd gm cm q : Nat), k ≤ 8 ∧ n ≤ nl ∧ n ≤ 8 * R + k ∧ v21 = .int .i64 k ∧ v19 = .int .i64 n ∧ v17 = .slice (some ⟨gd, 0, none⟩) q cd ∧ v18 = .slice (some ⟨gm, 0, none⟩) q cm ∧ Hid (Kn L w wx X s F G Es gd cd gm cm q) ∧ Hid (Bd s n)) (fun _ _ _ v21 _ => 10 - (intOf v21).toNat)
        case atStart => exact ⟨0, n, s1, F1, G, Es, gd, cd, gm, cm, q, by omega, hnl, by omega, rfl, rfl, rfl, rfl, HK1, HD1⟩
        case round =>
          clear HK1 HD1 hnl hn8
          obtain ⟨k, n, s, F, G, Es, gd, cd, gm, cm, q, hk8, hnl, hn8, rfl, rfl, rfl, rfl, HK, HD⟩ := hrel
          by_cases hc : k < 8 ∧ n < nl
          case pos =>
            obtain ⟨hkk, hnn⟩ := hc
            have hkz : (k : Int) < 8 := by omega
            have hnz : (n : Int) < nl := by omega
            as_aux_lemma =>
              have hkl : n < l.length := by rw [HNL.out]; exact hnn
              obtain ⟨bo, oo, rfl, hc⟩ := HLI.out.some (by intro e; rw [e] at hkl; simp at hkl)
              obtain ⟨j, rfl⟩ : ∃ j, q = j + 1 := ⟨s.ops.length, HK.out.qe⟩
              have HKL := Hid.mk' hkl
              have HCO := Hid.mk' hc
              clear hkl hc
              go_upto_region 23 with fail
              go_cut [145] from 123 to 145 (fun s9 wx => s9 = .bool false ∧ ∃ (s' : Lg) (F' : Nat → Prop), Hid (Kn L w wx X s' F' G Es gd cd gm cm (j + 1)) ∧ Hid (Bd s' n))
              case first =>
                as_aux_lemma =>
                  by_cases hlt : n < ny
                  · have hz : (n : Int) < ny := by omega
                    obtain ⟨bf, of, rfl, hfc⟩ := HYI.out.some (by intro e; have := HNY.out; rw [e] at this; simp at this; omega)
                    obtain ⟨y, hy⟩ : ∃ y, y = Y.getD n 0 := ⟨_, rfl⟩
                    have cy := keep_cell HK.out.bel (hfc n (by rw [HNY.out]; exact hlt))
                    rw [← hy] at cy
                    clear hy hfc hlt
                    by_cases hy1 : y = 1
                    · subst hy1
                      have C := L.sync X s F wr HK.out.log HD.out.fit
                      have HS := Hid.mk' (Tm.sync_same s)
                      have HDS := Hid.mk' (bd_sync HD.out)
                      by_cases he : syncE s = 0
                      · rw [he, errV_zero] at C
                        have HSF := Hid.mk' (HS.out.2.2.2 he)
                        clear he
                        generalize syncS s = s2 at C HS HDS HSF
                        go_wp2_with fail
                        refine C.mono ?_
                        rintro e w2 ⟨rfl, hl2⟩
                        obtain ⟨F2, hk2⟩ := HK.out.set hl2 HS.out.1 HS.out.2.1
                        have HK2 := Hid.mk' hk2
                        have CS := LT.safe X s2 F2 w2 hk2.log HDS.out.fit
                        rw [HSF.out] at CS
                        obtain ⟨sb, hsb⟩ : ∃ sb, sb = s2.bytes := ⟨_, rfl⟩
                        rw [← hsb] at CS
                        have HSB := Hid.mk' hsb
                        clear hl2 hk2 C hsb cy
                        go_wp2_with fail
                        refine CS.mono ?_
                        rintro e w3 ⟨rfl, hb3⟩
                        have HK3 := Hid.mk' (HK2.out.below hb3)
                        have CB := LT.bytes X s2 F2 w3 HK3.out.log HDS.out.fit
                        rw [← HSB.out] at CB
                        clear hb3 CS HK2
                        go_wp2_with fail
                        refine CB.mono ?_
                        rintro e w4 ⟨rfl, hb4⟩
                        have HK4 := Hid.mk' (HK3.out.below hb4)
                        clear hb4 CB HK3
                        go_wp2_with fail
                        go_meet
                        case rel => exact ⟨by first | rfl | simp, s2, F2, HK4, HDS⟩
                      · rw [errV_ne he] at C
                        generalize syncE s = ke at C he
                        generalize syncS s = s2 at C HS HDS
                        clear he
                        go_wp2_with fail
                        refine C.mono ?_
                        rintro e w2 ⟨rfl, hl2⟩
                        obtain ⟨F2, hk2⟩ := HK.out.set hl2 HS.out.1 HS.out.2.1
                        have HK2 := Hid.mk' hk2
                        clear hl2 hk2 C cy
                        go_wp2_with fail
                        go_meet
                        case rel => exact ⟨by first | rfl | simp, s2, F2, HK2, HDS⟩
                    · have hy2 : (y == 1) = false := by simpa using hy1
                      clear hy1
                      go_wp2_with fail
                      go_meet
                      case rel => exact ⟨by first | rfl | simp [hy2], s, F, HK, HD⟩
                  · have hz : ¬ (n : Int) < ny := by omega
                    clear hlt
                    go_wp2_with fail
                    go_meet
                    case rel => exact ⟨by first | rfl | simp [hz], s, F, HK, HD⟩
              case rest =>
                obtain ⟨rfl, s1, F1, HK1, HD1⟩ := hcut
                clear HK HD
                have ha0 := HCO.out n HKL.out
                have hxm := HSZ.out _ (getO_mem HKL.out)
                obtain ⟨x, hx⟩ : ∃ x, x = l.getD n oz := ⟨_, rfl⟩
                rw [← hx] at ha0 hxm
                clear hx
                obtain ⟨⟨xa, xb⟩, xt, xp, xc, xs⟩ := x
                obtain ⟨vx, ⟨g0, g1, g2, g3, g4, g5⟩, hdx0⟩ := ha0
                simp only at g0 g1 g2 g3 g4 g5 hdx0 hxm
                obtain ⟨pv, nv, cv, rfl⟩ : ∃ pv nv cv, vx = .slice pv nv cv := by obtain ⟨_, _, e9, _⟩ := hdx0; exact ⟨_, _, _, e9⟩
                have HSX : Hid (∀ W, Below w.heap.size w W → W.cell? ⟨bo, oo + n * 6, none⟩ = some (.int .i64 xa) ∧ W.cell? ⟨bo, oo + n * 6 + 1, none⟩ = some (.int .i64 xb) ∧ W.cell? ⟨bo, oo + n * 6 + 2, none⟩ = some (.int .i64 xt) ∧ W.cell? ⟨bo, oo + n * 6 + 3, none⟩ = some (.string xp) ∧ W.cell? ⟨bo, oo + n * 6 + 4, none⟩ = some (.int .i64 xc) ∧ W.cell? ⟨bo, oo + n * 6 + 5, none⟩ = some (.slice pv nv cv)) := fun W hb => ⟨keep_cell hb g0, keep_cell hb g1, keep_cell hb g2, keep_cell hb g3, keep_cell hb g4, keep_cell hb g5⟩
                have HDX : Hid (DtsAt w (.slice pv nv cv) xs ∧ xp.size ≤ maxLen) := ⟨hdx0, hxm⟩
                obtain ⟨E1, hce, C⟩ := HK1.out.copy
                have hjb : j ≤ 40 := by have h1 := HK1.out.qe; have h2 := HD1.out.2; omega
                have HQ := Hid.mk' HK1.out.qe
                clear g0 g1 g2 g3 g4 g5 hdx0 hxm HK1
                go_wp2_with fail
                refine C.mono ?_
                rintro e w3 ⟨E3, F3, rfl, HK3, HN3⟩
                have C3 := HK3.out.bytes LT HD1.out HN3.out
                obtain ⟨B0, hB0⟩ : ∃ B0, B0 = s1.bytes := ⟨_, rfl⟩
                rw [← hB0] at C3
                have HB0 := Hid.mk' hB0
                have hB0z : B0 ≤ 4000000 := by have h1 := HD1.out.1; have h2 := HD1.out.2.2; omega
                clear C hce hB0 HK3 HN3
                go_wp2_with fail
                refine C3.mono ?_
                rintro e w4 ⟨rfl, HK4, HN4⟩
                have C4 := HK4.out.ap (a := xa) (b := xb) (t := xt) (p := xp) (c := xc) HN4.out HDX.out
                obtain ⟨a0, a1, a2, a3, a4, a5⟩ := HSX.out w4 HK4.out.bel
                obtain ⟨nw, hnw⟩ : ∃ nw, nw = isNew (st s1.ops) ((xa, xb), xt, xp, xc, xs) := ⟨_, rfl⟩
                obtain ⟨qe, hqe⟩ : ∃ qe, qe = apE (st s1.ops) ((xa, xb), xt, xp, xc, xs) := ⟨_, rfl⟩
                rw [← hnw, ← hqe] at C4
                have HNW := Hid.mk' hnw
                have HQE := Hid.mk' hqe
                clear C3 hnw hqe HK4 HN4
                go_wp2_with fail
                refine C4.mono ?_
                rintro e w5 ⟨rfl, F5, HK5, HN5⟩
                have C5 := HK5.out.putc (a := xa) (b := xb) (t := xt) (p := xp) (c := xc) HD1.out HN5.out HDX.out
                obtain ⟨pn, hpn⟩ : ∃ pn, pn = putN s1 ((xa, xb), xt, xp, xc, xs) := ⟨_, rfl⟩
                obtain ⟨pe, hpe⟩ : ∃ pe, pe = putE s1 ((xa, xb), xt, xp, xc, xs) := ⟨_, rfl⟩
                rw [← hpn, ← hpe] at C5
                have HPN := Hid.mk' hpn
                have HPE := Hid.mk' hpe
                clear C4 a0 a1 a2 a3 a4 a5 hpn hpe
                obtain ⟨a0, a1, a2, a3, a4, a5⟩ := HSX.out w5 HK5.out.bel
                clear HK5 HN5
                go_wp2_with fail
                refine C5.mono ?_
                rintro e w6 ⟨he, r, F6, HR, HAT6, HDN6, HLOW6, HN6⟩
                have HB6 := Hid.mk' HDN6.out.bel
                clear C5 a0 a1 a2 a3 a4 a5
                cases pn
                case true =>
                  as_aux_lemma =>
                    have hyes := Tm.put_yes (o := ((xa, xb), xt, xp, xc, xs)) HPN.out.symm r
                    have hq0 : qe = 0 := by rw [HQE.out]; exact Iq.new_zero hyes.2.1
                    have hn1 : nw = true := by rw [HNW.out]; exact hyes.2.1
                    have hp0 : pe = 0 := by rw [HPE.out]; exact hyes.1
                    subst hq0 hn1 hp0
                    rw [errV_zero] at he
                    subst he
                    have HY := Hid.mk' hyes.2.2
                    have HDZ : Hid (Bd (putS s1 ((xa, xb), xt, xp, xc, xs) r) (n + 1)) := by
                      have h1 := HD1.out.1
                      have h2 := HD1.out.2.1
                      have h3 := HR.out.2
                      exact ⟨by rw [hyes.2.2.2.2]; omega, by rw [hyes.2.2.1, List.length_append]; show _ + 1 ≤ _; omega, by omega⟩
                    generalize putS s1 ((xa, xb), xt, xp, xc, xs) r = s2 at HAT6 HDZ HY
                    clear hyes
                    have C6 := same_any 0 6 w6 (Kl.ET.below HE.out HB6.out)
                    rw [errV_zero, show ((0 : Int) == 6) = false from rfl] at C6
                    go_wp2_with fail
                    refine C6.mono ?_
                    rintro e w7 ⟨rfl, hb7⟩
                    have HB7 := Hid.mk' hb7
                    have C7 := same_any 0 0 w7 (Kl.ET.below HE.out (La.bel HB6.out hb7))
                    rw [errV_zero, show ((0 : Int) == 0) = true from rfl] at C7
                    clear hb7 C6
                    go_wp2_with fail
                    refine C7.mono ?_
                    rintro e w8 ⟨rfl, hb8⟩
                    have HB8 : Hid (Below w6.heap.size w6 w8) := La.bel HB7.out hb8
                    have C8 := LT.bytes X s2 F6 w8 (L.below HAT6.out HB8.out) HDZ.out.fit
                    obtain ⟨B1, hB1⟩ : ∃ B1, B1 = s2.bytes := ⟨_, rfl⟩
                    rw [← hB1] at C8
                    have HB1 := Hid.mk' hB1
                    have hrb : ¬ ((B1 : Int) < (B0 : Int) + 2) := by have h1 := HY.out.2.2; have h2 := HB0.out; have h3 := HR.out.1; omega
                    have hB1z : B1 ≤ 10000000 := by have h1 := HDZ.out.1; have h2 := HDZ.out.2.2; omega
                    clear hb8 C7 hB1 HB7
                    go_wp2_with fail
                    refine C8.mono ?_
                    rintro e w9 ⟨rfl, hb9⟩
                    have HB9 : Hid (Below w6.heap.size w6 w9) := La.bel HB8.out hb9
                    clear hb9 C8 HB8
                    obtain ⟨iP, hiP, hp0, hp1, hp2⟩ := info_parts infoP
                    obtain ⟨iI, hiI, hi0, hi1, hi2⟩ := info_parts infoI
                    have HRD : Hid (w9.ownsRow w.heap.size 43 1 (.slice (some ⟨gd, 0, none⟩) (j + 1) cd) (j + 1) (ptrs Es)) := by have h := own_below HDN6.out.rd HB9.out; rw [← HQ.out] at h; exact h
                    have HZ9 : Hid (w.heap.size ≤ w9.heap.size) := Nat.le_trans HDN6.out.bel.size HB9.out.size
                    go_wp2_with (at_builtin; refine wpList_append_own_at _ rfl (.tmp 201) (.tmp 203) 45 rfl w.heap.size 43 iP (.pointer none) 1 8 Tryz.underlying45 hiP hp0 hp1 hp2 rfl (by decide) (.slice (some ⟨gd, 0, none⟩) (j + 1) cd) (j + 1) (ptrs Es) rfl (HRD.out.alloc _) ⟨w9.heap.size, 0, none⟩ 1 1 [.pointer (some ⟨E3, 0, none⟩)] rfl rfl (one_cell w9 _ _) (by intro u hu; rw [List.mem_singleton.1 hu]; rfl) (by unfold maxLen; omega) (by omega) (by have := HZ9.out; simp; omega) ?_; intro v10 w10 hown10 hgrow10 _ hat10; have HO10 := Hid.mk' hown10; have HG10 := Hid.mk' hgrow10; have HA10 := Hid.mk' hat10; obtain ⟨gd2, cd2, hv10, _, _⟩ := own_some hown10 (by omega); subst hv10; clear hown10 hgrow10 hat10)
                    have HBA : Hid (Below w9.heap.size w9 (w9.alloc (.cells #[.pointer (some ⟨E3, 0, none⟩)] 43))) := (Below.refl _ _).alloc (Nat.le_refl _) _
                    have HC10 : Hid (Chg (fun g => (rowD gd (j + 1) cd).ownBlock = some g) w6 w10) := ((Chg.ofBelow HB9.out _).trans (Chg.ofBelow HBA.out _)).trans (Chg.grown HG10.out (fun g e => e))
                    have HAT10 : Hid (L.At w10 X s2 F6) := L.chg HAT6.out HC10.out (fun g e1 e2 => (HDN6.out.rw' g (Or.inl e2)).1 e1)
                    have C10 := LT.bytes X s2 F6 w10 HAT10.out HDZ.out.fit
                    rw [← HB1.out] at C10
                    refine C10.mono ?_
                    rintro e w11 ⟨rfl, hb11⟩
                    have HB11 := Hid.mk' hb11
                    have HRM : Hid (w11.ownsRow w.heap.size 3 1 (.slice (some ⟨gm, 0, none⟩) (j + 1) cm) (j + 1) (nums (0 :: s1.ends))) := by
                      have h := own_stay HDN6.out.rm (w' := w10) fun g e => HC10.out.block g (own_lt HDN6.out.rm g e).1 (fun e9 => HDN6.out.dm g e9 e)
                      have h2 := own_below h hb11
                      rw [← HQ.out] at h2; exact h2
                    have HZ11 : Hid (w.heap.size ≤ w11.heap.size) := Nat.le_trans HDN6.out.bel.size (Nat.le_trans HC10.out.size hb11.size)
                    clear hb11 C10
                    go_wp2_with (at_builtin; refine wpList_append_own_at _ rfl (.tmp 205) (.tmp 208) 41 rfl w.heap.size 3 iI (.int .i64 0) 1 8 Tryz.underlying41 hiI hi0 hi1 hi2 rfl (by decide) (.slice (some ⟨gm, 0, none⟩) (j + 1) cm) (j + 1) (nums (0 :: s1.ends)) rfl (HRM.out.alloc _) ⟨w11.heap.size, 0, none⟩ 1 1 [.int .i64 B1] rfl rfl (one_cell w11 _ _) (by intro u hu; rw [List.mem_singleton.1 hu]; rfl) (by unfold maxLen; omega) (by omega) (by have := HZ11.out; simp; omega) ?_; intro v12 w12 hown12 hgrow12 _ hat12; have HO12 := Hid.mk' hown12; have HG12 := Hid.mk' hgrow12; have HA12 := Hid.mk' hat12; obtain ⟨gm2, cm2, hv12, _, _⟩ := own_some hown12 (by omega); subst hv12; clear hown12 hgrow12 hat12)
                    have HKZ : Hid (Kn L w w12 X s2 F6 (fun g => G g ∨ F5 g) (Es ++ [E3]) gd2 cd2 gm2 cm2 (j + 1 + 1)) := by
                      have hq := HQ.out
                      have hz6 := HB9.out.size
                      have hz10 := HG10.out.size
                      have hz12 := HG12.out.size
                      have hz11 := HB11.out.size
                      have hs9 : (w9.alloc (.cells #[.pointer (some ⟨E3, 0, none⟩)] 43)).heap.size = w9.heap.size + 1 := by simp
                      have hs11 : (w11.alloc (.cells #[.int .i64 B1] 3)).heap.size = w11.heap.size + 1 := by simp
                      have hBA2 : Below w11.heap.size w11 (w11.alloc (.cells #[.int .i64 B1] 3)) := (Below.refl _ _).alloc (Nat.le_refl _) _
                      have hdo : ∀ g, (rowD gd2 (j + 1 + 1) cd2).ownBlock = some g → (rowD gd (j + 1) cd).ownBlock = some g ∨ g = w9.heap.size + 1 := fun g e => by
                        rcases HA10.out with e9 | e9
                        · exact Or.inl (e9.symm.trans e)
                        · have h9 := e9.symm.trans e
                          injection h9 with h9
                          exact Or.inr (by omega)
                      have hmo : ∀ g, (rowD gm2 (j + 1 + 1) cm2).ownBlock = some g → (rowD gm (j + 1) cm).ownBlock = some g ∨ g = w11.heap.size + 1 := fun g e => by
                        rcases HA12.out with e9 | e9
                        · exact Or.inl (e9.symm.trans e)
                        · have h9 := e9.symm.trans e
                          injection h9 with h9
                          exact Or.inr (by omega)
                      have hc12 : Chg (fun g => (rowD gd (j + 1) cd).ownBlock = some g ∨ (rowD gm (j + 1) cm).ownBlock = some g) w6 w12 := by
                        refine (((HC10.out.mono fun g e => Or.inl e).trans (Chg.ofBelow HB11.out _)).trans (Chg.ofBelow hBA2 _)).trans (Chg.grown HG12.out (fun g e => Or.inr e))
                      have hne10 : ∀ g, (rowD gd2 (j + 1 + 1) cd2).ownBlock = some g → (rowD gm (j + 1) cm).ownBlock ≠ some g := fun g e e2 => by
                        rcases hdo g e with e9 | e9
                        · exact HDN6.out.dm g e9 e2
                        · have := (own_lt HDN6.out.rm g e2).1; omega
                      have hrd12 : w12.ownsRow w.heap.size 43 1 (rowD gd2 (j + 1 + 1) cd2) (j + 1 + 1) (ptrs (Es ++ [E3])) := by
                        have h0 : w10.ownsRow w.heap.size 43 1 (rowD gd2 (j + 1 + 1) cd2) (j + 1 + 1) (ptrs (Es ++ [E3])) := by
                          have h9 := HO10.out
                          unfold ptrs at h9 ⊢
                          rw [List.map_append]; exact h9
                        have h1 := own_below h0 HB11.out
                        have h2 := own_below h1 hBA2
                        exact own_stay h2 fun g e => HG12.out.block g (own_lt h2 g e).1 (fun e9 => hne10 g e e9.symm)
                      have hrm12 : w12.ownsRow w.heap.size 3 1 (rowD gm2 (j + 1 + 1) cm2) (j + 1 + 1) (nums (0 :: (s1.ends ++ [B1]))) := by
                        have h9 := HO12.out
                        unfold nums at h9 ⊢
                        rw [← List.cons_append, List.map_append]; exact h9
                      obtain ⟨y1, y2, y3⟩ := HY.out
                      have hb1 : s1.bytes + r = B1 := by rw [HB1.out]; exact y3.symm
                      have hnx := HN6.out
                      rw [st_snoc] at hnx
                      obtain ⟨d1, d2⟩ := dn_push (L := L) (s := s2) (b := B1) HDN6.out HLOW6.out HAT6.out hnx hc12 (by rw [← hq]; exact hrd12) (by rw [← hq]; exact hrm12) (fun g e => by rcases hdo g e with e9 | e9; exact Or.inl e9; exact Or.inr (by omega)) (fun g e => by rcases hmo g e with e9 | e9; exact Or.inl e9; exact Or.inr (by have := HC10.out.size; omega)) (fun g e e2 => by
                        rcases hmo g e2 with e9 | e9
                        · exact hne10 g e e9
                        · rcases hdo g e with e8 | e8
                          · have := (own_lt HDN6.out.rd g e8).1; have := HC10.out.size; omega
                          · omega)
                      exact ⟨d1, HLOW6.out, by rw [y1, List.length_append]; show j + 1 + 1 = s1.ops.length + 1 + 1; omega, by rw [y1, y2, hb1]; exact d2⟩
                    clear HO10 HG10 HA10 HO12 HG12 HA12 HRD HRM HC10 HAT10 HAT6 HDN6 HN6 HB9 HB11 HBA HY hrb
                    go_wp2_with fail

                    obtain ⟨E9, pb, nb, cb, hce, x0, CDo, CBk, SBk⟩ := HKZ.out.books
                    have HBZ : Hid (Below w12.heap.size w12 w12) := Below.refl _ _
                    have hwj : IntKind.i64.wrap ((j : Int) + 1) = ((j : Int) + 1) := by rw [IntKind.wrap_i64]; omega
                    have hj0 : (0 : Int) ≤ ((j : Int) + 1) := by omega
                    have hjl : ((j : Int) + 1) < ((j : Int) + 1) + 1 := by omega
                    go_region_held3 (fun W => W.cell? ⟨gd2, (j + 1), none⟩ = some (.pointer (some ⟨E9, 0, none⟩)) ∧ W.cell? ⟨E9, 0, none⟩ = some (.slice pb nb cb)) (first | (go_keep; done) | (refine ⟨keep_cell hb19 ?_, keep_cell hb19 ?_⟩ <;> (first | assumption | (go_split_ands; assumption))) | (refine ⟨keep_cell hb18 ?_, keep_cell hb18 ?_⟩ <;> (first | assumption | (go_split_ands; assumption))) | (refine ⟨keep_cell hb17 ?_, keep_cell hb17 ?_⟩ <;> (first | assumption | (go_split_ands; assumption)))) (first
                      | (go_at_call 11; refine (CDo.out _ HBZ.out.drew).mono ?_; rintro e w17 ⟨D7, Fd7, rfl, hd7, hb17⟩; have HB17 : Hid (Below w12.heap.size w12 w17) := La.bel HBZ.out.drew hb17; have HD7 := Hid.mk' hd7; clear hd7)
                      | (go_at_call 19; refine (CBk.out _ _ _ HD7.out).mono ?_; rintro e w18 ⟨p18, n18, c18, rfl, hk18, hb18⟩; have HB18 : Hid (Below w12.heap.size w12 w18) := La.bel HB17.out hb18; have HK18 := Hid.mk' hk18; clear hk18)
                      | (go_at_call 18; refine (SBk.out _ _ HB18.out HK18.out).mono ?_; rintro e w19 ⟨rfl, hb19⟩; have HB19 : Hid (Below w12.heap.size w12 w19) := La.bel HB18.out hb19))
                    all_goals
                      clear hb17 hb18 hb19 hce x0
                      have HKE := Hid.mk' (HKZ.out.below HB19.out)
                      go_wp2_with fail
                      go_roundw
                      case rel => exact ⟨k + 1, n + 1, s2, F6, (fun g => G g ∨ F5 g), (Es ++ [E3]), gd2, cd2, gm2, cm2, (j + 1) + 1, by omega, by omega, by omega, by go_num, by go_num, rfl, rfl, HKE, HDZ⟩
                      case measure => simp [intOf]; omega
                case false =>
                  obtain ⟨s2, HKZ, HDZ⟩ := put_none HPN.out HR.out HD1.out (by omega) HQ.out HAT6.out HDN6.out HLOW6.out
                  clear HAT6 HDN6 HLOW6 HN6
                  by_cases h6 : pe = 6
                  · subst h6
                    as_aux_lemma =>
                      rw [errV_ne (by decide)] at he
                      subst he

                      have C6 := same_any 6 6 w6 (Kl.ET.below HE.out HB6.out)
                      rw [errV_ne (by decide), show ((6 : Int) == 6) = true from rfl] at C6
                      clear HB6
                      go_wp2_with fail
                      refine C6.mono ?_
                      rintro e w7 ⟨rfl, hb7⟩
                      have HK7 := Hid.mk' (HKZ.out.below hb7)
                      have C7 := same_any 6 qe w7 (Kl.ET.below HE.out HK7.out.bel)
                      rw [errV_ne (by decide)] at C7
                      generalize ((6 : Int) == qe) = b6 at C7
                      clear hb7 C6 HKZ
                      go_wp2_with fail
                      refine C7.mono ?_
                      rintro e w8 ⟨rfl, hb8⟩
                      have HKZ := Hid.mk' (HK7.out.below hb8)
                      clear hb8 C7 HK7
                      go_wp2_with fail

                      obtain ⟨E9, pb, nb, cb, hce, x0, CDo, CBk, SBk⟩ := HKZ.out.books
                      have HBZ : Hid (Below w8.heap.size w8 w8) := Below.refl _ _
                      have hwj : IntKind.i64.wrap (j : Int) = (j : Int) := by rw [IntKind.wrap_i64]; omega
                      have hj0 : (0 : Int) ≤ (j : Int) := by omega
                      have hjl : (j : Int) < (j : Int) + 1 := by omega
                      go_region_held3 (fun W => W.cell? ⟨gd, j, none⟩ = some (.pointer (some ⟨E9, 0, none⟩)) ∧ W.cell? ⟨E9, 0, none⟩ = some (.slice pb nb cb)) (first | (go_keep; done) | (refine ⟨keep_cell hb19 ?_, keep_cell hb19 ?_⟩ <;> (first | assumption | (go_split_ands; assumption))) | (refine ⟨keep_cell hb18 ?_, keep_cell hb18 ?_⟩ <;> (first | assumption | (go_split_ands; assumption))) | (refine ⟨keep_cell hb17 ?_, keep_cell hb17 ?_⟩ <;> (first | assumption | (go_split_ands; assumption)))) (first
                        | (go_at_call 11; refine (CDo.out _ HBZ.out.drew).mono ?_; rintro e w17 ⟨D7, Fd7, rfl, hd7, hb17⟩; have HB17 : Hid (Below w8.heap.size w8 w17) := La.bel HBZ.out.drew hb17; have HD7 := Hid.mk' hd7; clear hd7)
                        | (go_at_call 19; refine (CBk.out _ _ _ HD7.out).mono ?_; rintro e w18 ⟨p18, n18, c18, rfl, hk18, hb18⟩; have HB18 : Hid (Below w8.heap.size w8 w18) := La.bel HB17.out hb18; have HK18 := Hid.mk' hk18; clear hk18)
                        | (go_at_call 18; refine (SBk.out _ _ HB18.out HK18.out).mono ?_; rintro e w19 ⟨rfl, hb19⟩; have HB19 : Hid (Below w8.heap.size w8 w19) := La.bel HB18.out hb19))
                      all_goals
                        clear hb17 hb18 hb19 hce x0
                        have HKE := Hid.mk' (HKZ.out.below HB19.out)
                        go_wp2_with fail
                        go_roundw
                        case rel => exact ⟨k + 1, n + 1, s2, F6, G, Es, gd, cd, gm, cm, j + 1, by omega, by omega, by omega, by go_num, by go_num, rfl, rfl, HKE, HDZ⟩
                        case measure => simp [intOf]; omega
                  · have htold := Tm.put_told (o := ((xa, xb), xt, xp, xc, xs)) (by rw [← HPE.out]; exact h6)
                    have hq2 : qe = pe := by rw [HQE.out, HPE.out]; exact htold.1.symm
                    have hn2 : nw = false := by rw [HNW.out]; exact htold.2.symm.trans HPN.out.symm
                    subst hq2 hn2
                    clear htold
                    by_cases h0 : qe = 0
                    · subst h0
                      as_aux_lemma =>
                        rw [errV_zero] at he
                        subst he

                        have C6 := same_any 0 6 w6 (Kl.ET.below HE.out HB6.out)
                        rw [errV_zero, show ((0 : Int) == 6) = false from rfl] at C6
                        clear HB6
                        go_wp2_with fail
                        refine C6.mono ?_
                        rintro e w7 ⟨rfl, hb7⟩
                        have HK7 := Hid.mk' (HKZ.out.below hb7)
                        have C7 := same_any 0 0 w7 (Kl.ET.below HE.out HK7.out.bel)
                        rw [errV_zero, show ((0 : Int) == 0) = true from rfl] at C7
                        clear hb7 C6 HKZ
                        go_wp2_with fail
                        refine C7.mono ?_
                        rintro e w8 ⟨rfl, hb8⟩
                        have HKZ := Hid.mk' (HK7.out.below hb8)
                        clear hb8 C7 HK7
                        go_wp2_with fail

                        obtain ⟨E9, pb, nb, cb, hce, x0, CDo, CBk, SBk⟩ := HKZ.out.books
                        have HBZ : Hid (Below w8.heap.size w8 w8) := Below.refl _ _
                        have hwj : IntKind.i64.wrap (j : Int) = (j : Int) := by rw [IntKind.wrap_i64]; omega
                        have hj0 : (0 : Int) ≤ (j : Int) := by omega
                        have hjl : (j : Int) < (j : Int) + 1 := by omega
                        go_region_held3 (fun W => W.cell? ⟨gd, j, none⟩ = some (.pointer (some ⟨E9, 0, none⟩)) ∧ W.cell? ⟨E9, 0, none⟩ = some (.slice pb nb cb)) (first | (go_keep; done) | (refine ⟨keep_cell hb19 ?_, keep_cell hb19 ?_⟩ <;> (first | assumption | (go_split_ands; assumption))) | (refine ⟨keep_cell hb18 ?_, keep_cell hb18 ?_⟩ <;> (first | assumption | (go_split_ands; assumption))) | (refine ⟨keep_cell hb17 ?_, keep_cell hb17 ?_⟩ <;> (first | assumption | (go_split_ands; assumption)))) (first
                          | (go_at_call 11; refine (CDo.out _ HBZ.out.drew).mono ?_; rintro e w17 ⟨D7, Fd7, rfl, hd7, hb17⟩; have HB17 : Hid (Below w8.heap.size w8 w17) := La.bel HBZ.out.drew hb17; have HD7 := Hid.mk' hd7; clear hd7)
                          | (go_at_call 19; refine (CBk.out _ _ _ HD7.out).mono ?_; rintro e w18 ⟨p18, n18, c18, rfl, hk18, hb18⟩; have HB18 : Hid (Below w8.heap.size w8 w18) := La.bel HB17.out hb18; have HK18 := Hid.mk' hk18; clear hk18)
                          | (go_at_call 18; refine (SBk.out _ _ HB18.out HK18.out).mono ?_; rintro e w19 ⟨rfl, hb19⟩; have HB19 : Hid (Below w8.heap.size w8 w19) := La.bel HB18.out hb19))
                        all_goals
                          clear hb17 hb18 hb19 hce x0
                          have HKE := Hid.mk' (HKZ.out.below HB19.out)
                          go_wp2_with fail
                          go_roundw
                          case rel => exact ⟨k + 1, n + 1, s2, F6, G, Es, gd, cd, gm, cm, j + 1, by omega, by omega, by omega, by go_num, by go_num, rfl, rfl, HKE, HDZ⟩
                          case measure => simp [intOf]; omega
                    · as_aux_lemma =>
                        have h6b : (qe == 6) = false := by simpa using h6
                        rw [errV_ne h0] at he
                        subst he

                        have C6 := same_any qe 6 w6 (Kl.ET.below HE.out HB6.out)
                        rw [errV_ne h0, h6b] at C6
                        clear HB6
                        go_wp2_with fail
                        refine C6.mono ?_
                        rintro e w7 ⟨rfl, hb7⟩
                        have HK7 := Hid.mk' (HKZ.out.below hb7)
                        have C7 := same_any qe qe w7 (Kl.ET.below HE.out HK7.out.bel)
                        rw [errV_ne h0, show (qe == qe) = true by simp] at C7
                        clear h0 h6 h6b
                        clear hb7 C6 HKZ
                        go_wp2_with fail
                        refine C7.mono ?_
                        rintro e w8 ⟨rfl, hb8⟩
                        have HKZ := Hid.mk' (HK7.out.below hb8)
                        clear hb8 C7 HK7
                        go_wp2_with fail

                        obtain ⟨E9, pb, nb, cb, hce, x0, CDo, CBk, SBk⟩ := HKZ.out.books
                        have HBZ : Hid (Below w8.heap.size w8 w8) := Below.refl _ _
                        have hwj : IntKind.i64.wrap (j : Int) = (j : Int) := by rw [IntKind.wrap_i64]; omega
                        have hj0 : (0 : Int) ≤ (j : Int) := by omega
                        have hjl : (j : Int) < (j : Int) + 1 := by omega
                        go_region_held3 (fun W => W.cell? ⟨gd, j, none⟩ = some (.pointer (some ⟨E9, 0, none⟩)) ∧ W.cell? ⟨E9, 0, none⟩ = some (.slice pb nb cb)) (first | (go_keep; done) | (refine ⟨keep_cell hb19 ?_, keep_cell hb19 ?_⟩ <;> (first | assumption | (go_split_ands; assumption))) | (refine ⟨keep_cell hb18 ?_, keep_cell hb18 ?_⟩ <;> (first | assumption | (go_split_ands; assumption))) | (refine ⟨keep_cell hb17 ?_, keep_cell hb17 ?_⟩ <;> (first | assumption | (go_split_ands; assumption)))) (first
                          | (go_at_call 11; refine (CDo.out _ HBZ.out.drew).mono ?_; rintro e w17 ⟨D7, Fd7, rfl, hd7, hb17⟩; have HB17 : Hid (Below w8.heap.size w8 w17) := La.bel HBZ.out.drew hb17; have HD7 := Hid.mk' hd7; clear hd7)
                          | (go_at_call 19; refine (CBk.out _ _ _ HD7.out).mono ?_; rintro e w18 ⟨p18, n18, c18, rfl, hk18, hb18⟩; have HB18 : Hid (Below w8.heap.size w8 w18) := La.bel HB17.out hb18; have HK18 := Hid.mk' hk18; clear hk18)
                          | (go_at_call 18; refine (SBk.out _ _ HB18.out HK18.out).mono ?_; rintro e w19 ⟨rfl, hb19⟩; have HB19 : Hid (Below w8.heap.size w8 w19) := La.bel HB18.out hb19))
                        all_goals
                          clear hb17 hb18 hb19 hce x0
                          have HKE := Hid.mk' (HKZ.out.below HB19.out)
                          go_wp2_with fail
                          go_roundw
                          case rel => exact ⟨k + 1, n + 1, s2, F6, G, Es, gd, cd, gm, cm, j + 1, by omega, by omega, by omega, by go_num, by go_num, rfl, rfl, HKE, HDZ⟩
                          case measure => simp [intOf]; omega
          case neg =>
            go_upto_region 21 with fail
            go_cut [120] from 113 to 224 (fun s9 wx => s9 = .bool false ∧ wr = wx)
            case first =>
              by_cases h1 : k < 8
              · have h1z : (k : Int) < 8 := by omega
                have h2z : ¬ (n : Int) < nl := by omega
                clear hc h1
                go_wp2_with fail
                go_meet
                case rel => exact ⟨by simp [h2z], rfl⟩
              · have h1z : ¬ (k : Int) < 8 := by omega
                clear hc h1
                go_wp2_with fail
                go_meet
                case rel => exact ⟨rfl, rfl⟩
            case rest =>
              obtain ⟨rfl, hwx⟩ := hcut
              subst hwx
              clear hc
              as_aux_lemma =>
                have hq1 : q = s.ops.length + 1 := HK.out.qe
                obtain ⟨j, rfl⟩ : ∃ j, q = j + 1 := ⟨s.ops.length, hq1⟩
                clear hq1
                have hjb : j ≤ 40 := by have h1 := HK.out.qe; have h2 := HD.out.2; omega
                go_upto_if 228 with fail
                go_cut [31] from 225 to 232 (fun s9 wx => (∃ ke : Int, s9 = .int .i64 ke) ∧ wr = wx)
                case first =>
                  as_aux_lemma =>
                    by_cases hlt : R < nk
                    · have hz : (R : Int) < nk := by omega
                      obtain ⟨bf, of, rfl, hfc⟩ := HKI.out.some (by intro e; have := HNK.out; rw [e] at this; simp at this; omega)
                      obtain ⟨y, hy⟩ : ∃ y, y = K.getD R 0 := ⟨_, rfl⟩
                      have cy := keep_cell HK.out.bel (hfc R (by rw [HNK.out]; exact hlt))
                      rw [← hy] at cy
                      clear hy hfc hlt
                      go_wp2_with fail
                      go_meet
                      case rel => exact ⟨⟨_, rfl⟩, rfl⟩
                    · have hz : ¬ (R : Int) < nk := by omega
                      clear hlt
                      go_wp2_with fail
                      go_meet
                      case rel => exact ⟨⟨_, rfl⟩, rfl⟩
                case rest =>
                  obtain ⟨⟨ke, rfl⟩, hwx⟩ := hcut
                  subst hwx
                  have HOK := Hid.mk' (L.ok HK.out.log)
                  have C := LT.bytes X s F wr HK.out.log HD.out.fit
                  obtain ⟨B, hB⟩ : ∃ B, B = s.bytes := ⟨_, rfl⟩
                  rw [← hB] at C
                  have HB := Hid.mk' hB
                  have hBz : B ≤ 4000000 := by have h1 := HD.out.1; have h2 := HD.out.2.2; omega
                  clear hB
                  go_wp2_with fail
                  refine C.mono ?_
                  rintro e w2 ⟨rfl, hb2⟩
                  have HK2 := Hid.mk' (HK.out.below hb2)
                  have C2 := LT.safe X s F w2 HK2.out.log HD.out.fit
                  obtain ⟨sf, hsf⟩ : ∃ sf, sf = s.safe := ⟨_, rfl⟩
                  rw [← hsf] at C2
                  have HSF := Hid.mk' hsf
                  have hsB : sf ≤ B := by have h1 := HOK.out.safe; have h2 := HB.out; omega
                  clear hsf hb2 C HK
                  go_wp2_with fail
                  refine C2.mono ?_
                  rintro e w3 ⟨rfl, hb3⟩
                  have HK3 := Hid.mk' (HK2.out.below hb3)
                  have C3 := L.crash X s F ke w3 HK3.out.log HD.out.fit
                  clear hb3 C2 HK2
                  go_wp2_with fail
                  refine C3.mono ?_
                  rintro e w4 ⟨rfl, F4, hat4, hc4, hf4⟩
                  have HAT4 := Hid.mk' hat4
                  have HDN4 : Hid (Dn w w4 s.ops s.ends F4 G Es (rowD gd (j + 1) cd) (rowD gm (j + 1) cm)) := (HK3.out.put hat4 hc4 hf4).1
                  have HLOW4 : Hid (∀ g, F4 g → w.heap.size ≤ g) := (HK3.out.put hat4 hc4 hf4).2
                  have HQ := Hid.mk' HK3.out.qe
                  clear hat4 hc4 hf4 C3 HK3
                  have hhl := high_le' HOK.out ke
                  obtain ⟨h, hh⟩ : ∃ h, h = high s ke := ⟨_, rfl⟩
                  rw [← hh, ← HB.out] at hhl
                  have HH := Hid.mk' hh
                  clear hh
                  go_upto_region 49 with fail
                  go_cut [249] from 241 to 249 (fun s9 wx => s9 = .bool (decide (0 < ke ∧ ke < (B : Int) - sf)) ∧ w4 = wx)
                  case first =>
                    as_aux_lemma =>
                      by_cases h1 : 0 < ke
                      · by_cases h2 : ke < (B : Int) - sf
                        · go_wp2_with fail
                          go_meet
                          case rel => exact ⟨by first | rfl | simp [h1, h2], rfl⟩
                        · go_wp2_with fail
                          go_meet
                          case rel => exact ⟨by first | rfl | simp [h1, h2], rfl⟩
                      · have HX : Hid (decide (0 < ke ∧ ke < (B : Int) - sf) = false) := decide_eq_false (fun e => h1 e.1)
                        go_wp2_with fail
                        go_meet
                        case rel => exact ⟨by rw [HX.out], rfl⟩
                  case rest =>
                    obtain ⟨rfl, hwx⟩ := hcut
                    subst hwx
                    go_upto_if 249 with fail
                    go_cut [34] from 241 to 255 (fun s9 wx => s9 = .int .i64 h ∧ w4 = wx)
                    case first =>
                      as_aux_lemma =>
                        by_cases h1 : 0 < ke ∧ ke < (B : Int) - sf
                        · rw [decide_eq_true h1]
                          have HX : Hid ((h : Int) = (sf : Int) + ke) := by rw [Hid, HH.out, HSF.out]; exact high_part HOK.out h1.1 (by rw [← HB.out, ← HSF.out]; exact h1.2)
                          obtain ⟨h1a, h1b⟩ := h1
                          go_wp2_with fail
                          go_meet
                          case rel => exact ⟨by rw [HX.out], rfl⟩
                        · rw [decide_eq_false h1]
                          by_cases h2 : 0 < ke
                          · have HX : Hid (h = B) := by rw [Hid, HH.out, HB.out]; exact high_all HOK.out h2 (by rw [← HB.out, ← HSF.out]; exact fun e => h1 ⟨h2, e⟩)
                            clear h1
                            go_wp2_with fail
                            go_meet
                            case rel => exact ⟨by rw [HX.out], rfl⟩
                          · have HX : Hid (h = sf) := by rw [Hid, HH.out, HSF.out]; exact high_none h2
                            clear h1
                            go_wp2_with fail
                            go_meet
                            case rel => exact ⟨by rw [HX.out], rfl⟩
                    case rest =>
                      obtain ⟨rfl, hwx⟩ := hcut
                      subst hwx
                      obtain ⟨lf, hlf⟩ : ∃ lf, lf = leftN s ke := ⟨_, rfl⟩
                      have HLF := Hid.mk' hlf
                      have hlj : lf ≤ j := by have h1 := left_le s ke; rw [HOK.out.len] at h1; have h2 := HQ.out; omega
                      have HMK : Hid (∀ i, i < j + 1 → w4.cell? ⟨gm, i, none⟩ = some (.int .i64 (((0 :: s.ends).getD i 0 : Nat) : Int)) ∧ ((0 :: s.ends).getD i 0 ≤ h ↔ i ≤ lf)) := fun i hi => by
                        have hq := HQ.out
                        have hrm := HDN4.out.rm
                        have hl := HDN4.out.len2
                        refine ⟨?_, by rw [HH.out, HLF.out]; exact left_iff HOK.out ke (by omega)⟩
                        rw [← hq] at hrm
                        exact row_cell hrm (num_at (by rw [List.length_cons]; omega))
                      clear hlf
                      go_wp2_with fail
                      go_loopw [35, 36] (fun v35 v36 wx => ∃ (i : Nat), i ≤ j + 1 ∧ v36 = .int .i64 i ∧ v35 = .int .i64 ((min (i - 1) lf : Nat) : Int) ∧ w4 = wx) (fun _ v36 _ => j + 2 - (intOf v36).toNat)
                      case atStart => exact ⟨0, Nat.zero_le _, rfl, by rw [show min (0 - 1) lf = 0 by omega]; rfl, rfl⟩
                      case round =>
                        obtain ⟨i, hij, rfl, rfl, hwx⟩ := hrel
                        subst hwx
                        by_cases hlt : i < j + 1
                        · have hltz : (i : Int) < (j : Int) + 1 := by omega
                          obtain ⟨hm, hiff⟩ := HMK.out i hlt
                          generalize (0 :: s.ends).getD i 0 = mk at hm hiff
                          as_aux_lemma =>
                            by_cases hle : mk ≤ h
                            · have hlez : (mk : Int) ≤ h := by omega
                              have hil := hiff.1 hle
                              have HX : Hid (min (i + 1 - 1) lf = i) := by rw [Hid]; omega
                              clear hiff hle hlt
                              go_wp2_with fail
                              go_roundw
                              case rel => exact ⟨i + 1, by omega, by go_num, by rw [HX.out], by first | trivial | rfl⟩
                              case measure => simp [intOf]; omega
                            · have hlez : ¬ (mk : Int) ≤ h := by omega
                              have hil : ¬ i ≤ lf := fun e => hle (hiff.2 e)
                              have HX : Hid (min (i + 1 - 1) lf = min (i - 1) lf) := by rw [Hid]; omega
                              clear hiff hle hlt
                              go_wp2_with fail
                              go_roundw
                              case rel => exact ⟨i + 1, by omega, by go_num, by rw [HX.out], by first | trivial | rfl⟩
                              case measure => simp [intOf]; omega
                        · have hie : i = j + 1 := by omega
                          subst hie
                          have hltz : ¬ ((j : Int) + 1 < (j : Int) + 1) := by omega
                          clear hlt hij
                          rw [show min (j + 1 - 1) lf = lf by omega]
                          as_aux_lemma =>
                            have HCR := Hid.mk' (crash_at HOK.out ke)
                            have HBD : Hid (Bd (crashS s ke) n) := by
                              have h1 := (left_iff HOK.out ke (i := leftN s ke) (left_le s ke)).2 (Nat.le_refl _)
                              have h2 := high_le' HOK.out ke
                              have h3 := HD.out.1
                              have h4 := HD.out.2
                              exact ⟨by rw [HCR.out.2.2.1]; omega, by rw [HCR.out.1, List.length_take]; omega, h4.2⟩
                            generalize crashS s ke = s2 at HAT4 HCR HBD
                            rw [← HLF.out] at HCR
                            have hrdq : w4.ownsRow w.heap.size 43 1 (.slice (some ⟨gd, 0, none⟩) (j + 1) cd) (j + 1) (ptrs Es) := by have h := HDN4.out.rd; rw [← HQ.out] at h; exact h
                            have hceE := row_cell hrdq (ptr_at (i := lf) (by have := HDN4.out.len; have := HQ.out; omega))
                            obtain ⟨Fi, hri, hgi⟩ := HDN4.out.docs lf (by have := HQ.out; omega)
                            rw [← HCR.out.1] at hri
                            obtain ⟨E9, hE9⟩ : ∃ E9, E9 = Es.getD lf 0 := ⟨_, rfl⟩
                            rw [← hE9] at hceE hri
                            obtain ⟨pb, nb, cb, pm, nm, cm9, gk, hps⟩ := ref_parts hri
                            have HP := Hid.mk' hps
                            have HI := Hid.mk' hri.inv
                            have hmk := (HMK.out lf (by omega)).1
                            obtain ⟨mk, hmke⟩ : ∃ mk, mk = (0 :: s.ends).getD lf 0 := ⟨_, rfl⟩
                            rw [← hmke] at hmk
                            have HMB : Hid (s2.bytes = mk ∧ s2.safe = mk) := by rw [Hid, hmke]; exact ⟨HCR.out.2.2.1, HCR.out.2.2.2⟩
                            have CDo : Hid (∀ W, Below w4.heap.size w4 W → Calls Tryz.prog 11 #[ptr X] W fun e w' => ∃ D Fd, e = .returned (ptr D) ∧ DocAt w' D (st s2.ops) Fd ∧ Below W.heap.size W w') := fun W hb => (L.doc X s2 F4 W (L.below HAT4.out hb)).mono fun e w' ⟨D, Fd, h1, h2, _, h3⟩ => ⟨D, Fd, h1, h2, h3⟩
                            have CBk : Hid (∀ W D Fd, DocAt W D (st s2.ops) Fd → Calls Tryz.prog 19 #[.pointer (some ⟨D, 0, none⟩)] W fun e w' => ∃ v', e = .returned v' ∧ BookAt w' v' (st s2.ops).book ∧ Below W.heap.size W w') := fun W D Fd h => (book_get D _ _ W h).mono fun e w' ⟨v', h1, h2, h3⟩ => ⟨v', h1, h2.1, h3⟩
                            have CMk : Hid (∀ W D Fd, DocAt W D (st s2.ops) Fd → Calls Tryz.prog 21 #[.pointer (some ⟨D, 0, none⟩)] W fun e w' => ∃ v', e = .returned v' ∧ MksAt w' v' (st s2.ops).marks ∧ Below W.heap.size W w') := fun W D Fd h => (marks_get D _ _ W h).mono fun e w' ⟨v', h1, h2, h3⟩ => ⟨v', h1, h2.1, h3⟩
                            have CKn : Hid (∀ W D Fd, DocAt W D (st s2.ops) Fd → Calls Tryz.prog 23 #[.pointer (some ⟨D, 0, none⟩)] W fun e w' => ∃ v', e = .returned v' ∧ KnAt w' v' (st s2.ops).known ∧ Below W.heap.size W w') := fun W D Fd h => (known_get D _ _ W h).mono fun e w' ⟨v', h1, h2, _, h3⟩ => ⟨v', h1, h2, h3⟩
                            have SBk : Hid (∀ W v, Below w4.heap.size w4 W → BookAt W v (st s2.ops).book → Calls Tryz.prog 18 #[v, .slice pb nb cb] W fun e w' => e = .returned (.bool true) ∧ Below W.heap.size W w') := fun W v hb h1 => (Lk.leafs_any v _ _ _ W h1 (HP.out W hb).2.1 (by have := few_book HI.out; omega)).mono fun e w' ⟨h1, h2⟩ => ⟨by rw [h1]; simp, h2⟩
                            have SMk : Hid (∀ W v, Below w4.heap.size w4 W → MksAt W v (st s2.ops).marks → Calls Tryz.prog 20 #[v, .slice pm nm cm9] W fun e w' => e = .returned (.bool true) ∧ Below W.heap.size W w') := fun W v hb h1 => (Np.marks_any v _ _ _ W h1 (HP.out W hb).2.2.2.1 (by have := few_marks HI.out; omega)).mono fun e w' ⟨h1, h2⟩ => ⟨by rw [h1]; simp, h2⟩
                            have SKn : Hid (∀ W v, Below w4.heap.size w4 W → KnAt W v (st s2.ops).known → Calls Tryz.prog 22 #[v, .slice (some ⟨gk, 0, none⟩) 8 8] W fun e w' => e = .returned (.bool true) ∧ Below W.heap.size W w') := fun W v hb h1 => by
                              obtain ⟨p9, c9, rfl, h9⟩ := h1
                              exact (Dg.ints_any p9 (some ⟨gk, 0, none⟩) _ 8 c9 8 _ _ W rfl HI.out.klen (by rw [HI.out.klen]; decide) h9 (HP.out W hb).2.2.2.2.2).mono fun e w' ⟨h1, h2⟩ => ⟨by rw [h1]; simp, h2⟩
                            have HCE := Hid.mk' hceE
                            have HMC := Hid.mk' hmk
                            clear hri hgi hE9 hps hmke hrdq hceE hmk HMK hlj hltz
                            have hce := HCE.out
                            have x0 := (HP.out w4 (Below.refl _ _)).1
                            have HB0 : Hid (Below w4.heap.size w4 w4) := Below.refl _ _
                            have hlj : lf < j + 1 := by have := HQ.out; have := HLF.out; have h1 := left_le s ke; rw [HOK.out.len] at h1; omega
                            have hljz : (lf : Int) < (j : Int) + 1 := by omega
                            go_wp2_with fail
                            go_region_held3 (fun W => W.cell? ⟨gd, lf, none⟩ = some (.pointer (some ⟨E9, 0, none⟩)) ∧ W.cell? ⟨E9, 0, none⟩ = some (.slice pb nb cb)) (first | (go_keep; done) | (refine ⟨keep_cell hb19 ?_, keep_cell hb19 ?_⟩ <;> (first | assumption | (go_split_ands; assumption))) | (refine ⟨keep_cell hb18 ?_, keep_cell hb18 ?_⟩ <;> (first | assumption | (go_split_ands; assumption))) | (refine ⟨keep_cell hb17 ?_, keep_cell hb17 ?_⟩ <;> (first | assumption | (go_split_ands; assumption)))) (first
                              | (go_at_call 11; refine (CDo.out _ HB0.out.drew).mono ?_; rintro e w17 ⟨D7, Fd7, rfl, hd7, hb17⟩; have HB17 : Hid (Below w4.heap.size w4 w17) := La.bel HB0.out.drew hb17; have HD7 := Hid.mk' hd7; clear hd7)
                              | (go_at_call 19; refine (CBk.out _ _ _ HD7.out).mono ?_; rintro e w18 ⟨v18, rfl, hk18, hb18⟩; obtain ⟨p18, n18, c18, rfl⟩ : ∃ p n c, v18 = .slice p n c := (by obtain ⟨p, c, e, _⟩ := hk18; exact ⟨_, _, _, e⟩); have HB18 : Hid (Below w4.heap.size w4 w18) := La.bel HB17.out hb18; have HK18 := Hid.mk' hk18; clear hk18)
                              | (go_at_call 18; refine (SBk.out _ _ HB18.out HK18.out).mono ?_; rintro e w21 ⟨rfl, hb19⟩; have HB21 : Hid (Below w4.heap.size w4 w21) := La.bel HB18.out hb19))
                            all_goals
                              clear hb17 hb18 hb19 hce x0 HK18 HB18 HB17 HD7
                              have hce := keep_cell HB21.out HCE.out
                              have x1 := (HP.out w21 HB21.out).2.2.1
                              go_wp2_with fail
                              go_region_held3 (fun W => W.cell? ⟨gd, lf, none⟩ = some (.pointer (some ⟨E9, 0, none⟩)) ∧ W.cell? ⟨E9, 1, none⟩ = some (.slice pm nm cm9)) (first | (go_keep; done) | (refine ⟨keep_cell hb19 ?_, keep_cell hb19 ?_⟩ <;> (first | assumption | (go_split_ands; assumption))) | (refine ⟨keep_cell hb18 ?_, keep_cell hb18 ?_⟩ <;> (first | assumption | (go_split_ands; assumption))) | (refine ⟨keep_cell hb17 ?_, keep_cell hb17 ?_⟩ <;> (first | assumption | (go_split_ands; assumption)))) (first
                                | (go_at_call 11; refine (CDo.out _ HB21.out.drew).mono ?_; rintro e w17 ⟨D7, Fd7, rfl, hd7, hb17⟩; have HB17 : Hid (Below w4.heap.size w4 w17) := La.bel HB21.out.drew hb17; have HD7 := Hid.mk' hd7; clear hd7)
                                | (go_at_call 21; refine (CMk.out _ _ _ HD7.out).mono ?_; rintro e w18 ⟨v18, rfl, hk18, hb18⟩; obtain ⟨p18, n18, c18, rfl⟩ : ∃ p n c, v18 = .slice p n c := (by obtain ⟨p, c, e, _⟩ := hk18; exact ⟨_, _, _, e⟩); have HB18 : Hid (Below w4.heap.size w4 w18) := La.bel HB17.out hb18; have HK18 := Hid.mk' hk18; clear hk18)
                                | (go_at_call 20; refine (SMk.out _ _ HB18.out HK18.out).mono ?_; rintro e w22 ⟨rfl, hb19⟩; have HB22 : Hid (Below w4.heap.size w4 w22) := La.bel HB18.out hb19))
                              all_goals
                                clear hb17 hb18 hb19 hce x1 HK18 HB18 HB17 HD7
                                have hce := keep_cell HB22.out HCE.out
                                have x2 := (HP.out w22 HB22.out).2.2.2.2.1
                                go_wp2_with fail
                                go_region_held3 (fun W => W.cell? ⟨gd, lf, none⟩ = some (.pointer (some ⟨E9, 0, none⟩)) ∧ W.cell? ⟨E9, 2, none⟩ = some (.slice (some ⟨gk, 0, none⟩) 8 8)) (first | (go_keep; done) | (refine ⟨keep_cell hb19 ?_, keep_cell hb19 ?_⟩ <;> (first | assumption | (go_split_ands; assumption))) | (refine ⟨keep_cell hb18 ?_, keep_cell hb18 ?_⟩ <;> (first | assumption | (go_split_ands; assumption))) | (refine ⟨keep_cell hb17 ?_, keep_cell hb17 ?_⟩ <;> (first | assumption | (go_split_ands; assumption)))) (first
                                  | (go_at_call 11; refine (CDo.out _ HB22.out.drew).mono ?_; rintro e w17 ⟨D7, Fd7, rfl, hd7, hb17⟩; have HB17 : Hid (Below w4.heap.size w4 w17) := La.bel HB22.out.drew hb17; have HD7 := Hid.mk' hd7; clear hd7)
                                  | (go_at_call 23; refine (CKn.out _ _ _ HD7.out).mono ?_; rintro e w18 ⟨v18, rfl, hk18, hb18⟩; obtain ⟨p18, n18, c18, rfl⟩ : ∃ p n c, v18 = .slice p n c := (by obtain ⟨p, c, e, _⟩ := hk18; exact ⟨_, _, _, e⟩); have HB18 : Hid (Below w4.heap.size w4 w18) := La.bel HB17.out hb18; have HK18 := Hid.mk' hk18; clear hk18)
                                  | (go_at_call 22; refine (SKn.out _ _ HB18.out HK18.out).mono ?_; rintro e w23 ⟨rfl, hb19⟩; have HB23 : Hid (Below w4.heap.size w4 w23) := La.bel HB18.out hb19))
                                all_goals
                                  clear hb17 hb18 hb19 hce x2 HK18 HB18 HB17 HD7
                                  have hmk := keep_cell HB23.out HMC.out
                                  have CBy : Hid (∀ W, Below w4.heap.size w4 W → Calls Tryz.prog 13 #[ptr X] W fun e w' => e = .returned (.int .i64 mk) ∧ Below W.heap.size W w') := fun W hb => by
                                    have h := LT.bytes X s2 F4 W (L.below HAT4.out hb) HBD.out.fit
                                    rw [HMB.out.1] at h; exact h
                                  have CSf : Hid (∀ W, Below w4.heap.size w4 W → Calls Tryz.prog 14 #[ptr X] W fun e w' => e = .returned (.int .i64 mk) ∧ Below W.heap.size W w') := fun W hb => by
                                    have h := LT.safe X s2 F4 W (L.below HAT4.out hb) HBD.out.fit
                                    rw [HMB.out.2] at h; exact h
                                  clear CDo CBk CMk CKn SBk SMk SKn
                                  go_wp2_with fail
                                  go_region_held3 (fun W => W.cell? ⟨gm, lf, none⟩ = some (.int .i64 mk)) (first | (go_keep; done) | (refine keep_cell hb18 ?_; (first | assumption | (go_split_ands; assumption))) | (refine keep_cell hb17 ?_; (first | assumption | (go_split_ands; assumption)))) (first
                                    | (go_at_call 13; refine (CBy.out _ HB23.out.drew).mono ?_; rintro e w24 ⟨rfl, hb17⟩; have HB24 : Hid (Below w4.heap.size w4 w24) := La.bel HB23.out.drew hb17)
                                    | (go_at_call 14; refine (CSf.out _ HB24.out).mono ?_; rintro e w25 ⟨rfl, hb18⟩; have HB25 : Hid (Below w4.heap.size w4 w25) := La.bel HB24.out hb18))
                                  all_goals
                                    clear hb17 hb18 hmk
                                    have HKE : Hid (Kn L w w25 X s2 F4 G (Es.take (lf + 1)) gd cd gm cm (lf + 1)) := by
                                      have hq := HQ.out
                                      have hd := HDN4.out
                                      rw [hq] at hd
                                      have hd2 := hd.cut (k := lf) (by omega)
                                      refine ⟨L.below HAT4.out HB25.out, HLOW4.out, by rw [HCR.out.1, List.length_take]; omega, ?_⟩
                                      rw [HCR.out.1, HCR.out.2.1]
                                      exact hd2.below HB25.out
                                    have hcd : lf + 1 ≤ cd := by obtain ⟨_, _, e, h, _⟩ := own_some (by have h := HDN4.out.rd; rw [← HQ.out] at h; exact h) (by omega); injection e with _ _ e3; omega
                                    have hcm : lf + 1 ≤ cm := by obtain ⟨_, _, e, h, _⟩ := own_some (by have h := HDN4.out.rm; rw [← HQ.out] at h; exact h) (by omega); injection e with _ _ e3; omega
                                    go_wp2_with fail
                                    go_roundw
                                    case rel => exact ⟨R + 1, n, s2, F4, G, Es.take (lf + 1), gd, cd, gm, cm, lf + 1, by omega, hnl, by omega, by go_num, rfl, rfl, rfl, HKE, HBD⟩
                                    case measure => simp [intOf]; omega

end Tq
end Go.Proofs.YtgefpcchcegcpaaGreatDoor
