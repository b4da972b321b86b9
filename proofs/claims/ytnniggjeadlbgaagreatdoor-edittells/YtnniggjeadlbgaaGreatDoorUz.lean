/- The reference's Split with fuse: what is cut there is joined. -/
import Derived.Test.YtnniggjeadlbgaaGreatDoorUy
namespace Go.Proofs.YtnniggjeadlbgaaGreatDoor
namespace Uz
set_option linter.unusedVariables false
set_option linter.unusedSimpArgs false
open Go.ChangeShapes Go.WideShapes Go.ChangeAt Go.RowKit Cm Ka Kb Na Om Oa Oz Oc Og Oi Hm Ia Ib Ic Idc Ie If Ig Ih Ii Ij Ik Il Im Um Ua Ub Uc Ud Ue Uf Xa Us Ut Uu Uv Uy
open La (bel bel_drew errV_zero errV_ne own_ge own_grow own_below Lies LeafsIn)
open Lj (BookAt BookNew)
open Xg (Parts)

set_option maxRecDepth 100000 in
set_option maxHeartbeats 8000000 in
theorem split_fuse (B E : Nat) (S : Dq) (F : Nat → Prop) (who : Int) (o : Nat) (w : World) (h : RefAt B w E S F) (h0 : atE S who o = 0) :
    Calls Tryz.prog 29 #[.pointer (some ⟨E, 0, none⟩), .int .i64 who, .int .i64 (o : Int), .bool true] w (RfPost w (fusE S who o) (fusL S who o)) := by
  obtain ⟨pb, nb, cb, pm, nm, cm, gk, po, no, co, hp⟩ := Xg.RefAt.parts h
  have HP : Hid (Parts w E S pb nb cb pm nm cm gk po no co) := hp
  obtain ⟨⟨h1, h8⟩, _, ho⟩ := atE_zero.1 h0
  obtain ⟨i, e1, e2, e3, _⟩ := nth_pos (l := S.book) (r := o) (by omega)
  obtain ⟨p9, c9, e9, hin, _⟩ := hp.book w (Below.refl _ _)
  obtain ⟨b0, o0, hq, _⟩ := hin.some (by intro e; rw [e] at e2; simp at e2)
  injection e9 with e91 e92 e93
  rw [hq] at e91
  subst e91
  have h3 := few_book h.inv
  have h4 := few_marks h.inv
  have CN : Hid (∀ W, Below w.heap.size w W → Calls Tryz.prog 70 #[.slice (some ⟨b0, o0, none⟩) nb cb, .int .i64 (o : Int)] W fun e w' => e = .returned (.int .i64 (i : Int)) ∧ Below W.heap.size W w') := fun W hb => by
    rw [← e1]
    exact Mb.nth_ref (some ⟨b0, o0, none⟩) nb cb S.book o W e92.symm (by obtain ⟨p9, c9, e9, hin, _⟩ := hp.book W hb; injection e9 with e1 e2 e3; rw [e1]; exact hin) (by omega) (by omega)
  have HPL : Hid (∀ W, Below w.heap.size w W → W.cell? ⟨b0, o0 + i * 3, none⟩ = some (.string (atP S o))) := fun W hb => by
    obtain ⟨p9, c9, e9, hin, _⟩ := hp.book W hb
    injection e9 with q1 q2 q3
    obtain ⟨b1, o1, hq1, hc⟩ := hin.some (by intro e; rw [e] at e2; simp at e2)
    rw [hq1] at q1
    injection q1 with q1
    injection q1 with q11 q12
    have := (hc i e2).1
    rw [e3] at this
    rw [q11, q12]
    unfold atP; rw [Int.toNat_natCast]; exact this
  have C := maker_ok B E S F who w h h1 h8
  obtain ⟨k0, k1⟩ := kn_le h.inv h1 h8
  have hf := h.inv.few
  have hinb : (i : Int) < nb := by rw [e92]; omega
  have hi3 : (i : Int) ≤ 300 := by omega
  have HKN : Hid (0 ≤ kn S who ∧ kn S who ≤ 400) := ⟨k0, by omega⟩
  obtain ⟨p, hpp⟩ : ∃ p, p = atP S o := ⟨_, rfl⟩
  have HL : Hid (fusL S who o = [((who, kn S who + 1), 4, p, 0, dotsAt S.marks p)]) := by unfold Hid fusL; rw [hpp]
  have HE : Hid (fusE S who o = if dotsAt S.marks p = [] then 5 else 0) := by unfold Hid fusE; rw [if_neg (by simpa using h0), hpp]
  rw [← hpp] at HPL
  have hoz : ¬ (o : Int) < 0 := by omega
  obtain ⟨kk, hkk⟩ : ∃ kk, kk = kn S who := ⟨_, rfl⟩
  rw [← hkk] at HKN HL C
  have hnm : nm = S.marks.length := by obtain ⟨p8, c8, e8, _⟩ := hp.marks w (Below.refl _ _); injection e8
  have HNM : Hid (S.marks.length = nm) := hnm.symm
  have hnm40 : nm ≤ 40 := by omega
  have HMI : Hid (∀ W, Below w.heap.size w W → MarksIn W pm S.marks) := fun W hb => by
    obtain ⟨p8, c8, e8, hin8, _⟩ := hp.marks W hb
    injection e8 with q1 q2 q3
    rw [q1]; exact hin8
  obtain ⟨i0, hi, hz0, hz1, hz2⟩ := info_parts Ni.infoDot
  clear h h0 hp h1 h8 ho e1 e2 e3 hin hq e92 e93 h3 h4 k0 k1 hf hpp hkk hnm
  go_enter Tryz.func29, Tryz.ntmps29
  go_wp2_with fail
  refine C.mono ?_
  rintro e w2 ⟨rfl, hmk, hb2⟩
  have HB2 : Hid (Below w.heap.size w w2) := hb2
  have HM2 : Hid (MkAt w.heap.size w2 w.heap.size who kk (.slice none 0 0) []) := hmk
  have CN2 := CN.out w2 hb2
  have c0 := HP.out.c0 w2 hb2
  clear hb2 C CN hmk
  go_wp2_with fail
  refine CN2.mono ?_
  rintro e w3 ⟨rfl, hb3⟩
  have HB3 : Hid (Below w.heap.size w w3) := bel HB2.out hb3
  have HM3 : Hid (MkAt w.heap.size w3 w.heap.size who kk (.slice none 0 0) []) := HM2.out.below hb3
  have d0 := HP.out.c0 w3 HB3.out
  have dp := HPL.out w3 HB3.out
  clear CN2 hb3 c0 HM2 HB2
  go_wp2_with fail
  go_loopw [14, 15] (fun d vi wr => ∃ (k : Nat), k ≤ nm ∧ vi = .int .i64 k ∧ Hid (wr.ownsRow w3.heap.size 30 2 d (dotsAt (S.marks.take k) p).length (flatD (dotsAt (S.marks.take k) p))) ∧ Hid (Below w3.heap.size w3 wr)) (fun _ vi _ => nm - (intOf vi).toNat)
  case atStart => exact ⟨0, by omega, rfl, World.ownsRow_nil _ _ _ _, Below.refl _ _⟩
  case round =>
    clear d0 dp
    obtain ⟨k, hk, rfl, HO, HB⟩ := hrel
    have HBw : Hid (Below w.heap.size w wr) := bel HB3.out HB.out
    have c1 := HP.out.c1 wr HBw.out
    by_cases hlt : k < nm
    · have hltz : (k : Int) < nm := by omega
      have hkl : k < S.marks.length := by rw [HNM.out]; exact hlt
      obtain ⟨bm, om, hqm, hcm⟩ := (HMI.out wr HBw.out).some (by intro e; rw [e] at hkl; simp at hkl)
      subst hqm
      have ha := hcm k hkl
      obtain ⟨x, hx⟩ : ∃ x, x = S.marks.getD k none1 := ⟨_, rfl⟩
      have HT : Hid (dotsAt (S.marks.take (k + 1)) p = if x.1 = p then dotsAt (S.marks.take k) p ++ [x.2] else dotsAt (S.marks.take k) p) := Ni.dotsAt_take hkl hx
      rw [← hx] at ha
      obtain ⟨sx, x1, x2⟩ := x
      obtain ⟨a1, a2, a3⟩ := ha
      simp only at a1 a2 a3
      have hdl := Ni.dotsAt_len (S.marks.take k) p
      rw [List.length_take] at hdl
      obtain ⟨D, hD⟩ : ∃ D, D = dotsAt (S.marks.take k) p := ⟨_, rfl⟩
      rw [← hD] at HO HT hdl
      have hd40 : D.length ≤ 40 := by omega
      clear hcm hx hD hdl
      by_cases hpe : sx = p
      · subst hpe
        have HT2 : Hid (dotsAt (S.marks.take (k + 1)) sx = D ++ [(x1, x2)]) := by unfold Hid; rw [HT.out, if_pos rfl]
        clear HT
        have HBB2 : Hid (∀ O1, Below w3.heap.size w3 (wr.alloc O1)) := fun O1 => HB.out.alloc HB.out.size O1
        have HO2 : Hid (∀ O1, (wr.alloc O1).ownsRow w3.heap.size 30 2 u14 D.length (flatD D)) := fun O1 => HO.out.alloc O1
        have HN : Hid (∀ j u, (flatD [(x1, x2)])[j]? = some u → (wr.alloc (.cells #[.int .i64 x1, .int .i64 x2] 30)).cell? ((⟨wr.heap.size, 0, none⟩ : Addr).add j) = some u) := Ni.dot_new wr x1 x2 30
        have HSZ : Hid (∀ O1, w3.heap.size ≤ (wr.alloc O1).heap.size) := fun O1 => by have := HB.out.size; simp; omega
        have hcap1 : D.length + 1 ≤ maxLen := by unfold maxLen; omega
        have hcap2 : (D.length + 1) * 16 ≤ 140737488355328 := by omega
        go_wp2_with (at_builtin; refine wpList_append_own_at _ rfl (.tmp 73) (.tmp 82) 31 rfl w3.heap.size 30 i0 (.agg #[.int .i64 0, .int .i64 0]) 2 16 Tryz.underlying31 hi hz0 hz1 hz2 rfl (by decide) u14 D.length (flatD D) rfl (HO2.out _) ⟨wr.heap.size, 0, none⟩ 1 1 (flatD [(x1, x2)]) rfl rfl HN.out (flatD_one _) hcap1 hcap2 (HSZ.out _) ?_; intro v' w5 hown' hgrow _ hat; have HB5 : Hid (Below w3.heap.size w3 w5) := own_grow HO.out (HBB2.out _) hgrow (HSZ.out _); have HW5 : Hid (w5.ownsRow w3.heap.size 30 2 v' (D ++ [(x1, x2)]).length (flatD (D ++ [(x1, x2)]))) := Ni.own_appD rfl rfl hown'; clear hown' hgrow hat)
        rw [← HT2.out] at HW5
        go_roundw
        case rel => exact ⟨k + 1, by omega, by go_num, HW5, HB5⟩
        case measure => simp [intOf]; omega
      · have hne : ¬ sx.toList = p.toList := fun e => hpe (Bm.bytes_inj e)
        have hnb9 : (sx.toList == p.toList) = false := by simpa using hne
        have HW2 : Hid (wr.ownsRow w3.heap.size 30 2 u14 (dotsAt (S.marks.take (k + 1)) p).length (flatD (dotsAt (S.marks.take (k + 1)) p))) := by
          unfold Hid; rw [HT.out, if_neg hpe]; exact HO.out
        clear HT hne hpe
        go_wp2_with fail
        go_roundw
        case rel => exact ⟨k + 1, by omega, by go_num, HW2, HB⟩
        case measure => simp [intOf]; omega
    · have hke : k = nm := by omega
      have hltz : ¬ (k : Int) < nm := by omega
      have HOF : Hid (wr.ownsRow w3.heap.size 30 2 u14 (dotsAt S.marks p).length (flatD (dotsAt S.marks p))) := by
        have := HO.out
        rwa [List.take_of_length_le (by rw [HNM.out]; omega)] at this
      have HOF2 : Hid (wr.ownsRow w.heap.size 30 2 u14 (dotsAt S.marks p).length (flatD (dotsAt S.marks p))) := own_lower HOF.out HB3.out.size
      obtain ⟨p4, n4, c4, hu4, HN4⟩ := own_shape HOF.out
      subst hu4
      have HMr : Hid (MkAt w.heap.size wr w.heap.size who kk (.slice none 0 0) []) := HM3.out.below HB.out
      clear hke HO
      by_cases hd : dotsAt S.marks p = []
      · have hn4 : n4 = 0 := by rw [HN4.out, hd]; rfl
        subst hn4
        have HE5 : Hid (fusE S who o = 5) := by unfold Hid; rw [HE.out, if_pos hd]
        clear hd
        go_wp2_with fail
        go_ret2
        rw [HE5.out]
        exact RfPost.no (by decide) HBw.out
      · have HE0 : Hid (fusE S who o = 0) := by unfold Hid; rw [HE.out, if_neg hd]
        have hn4 : 0 < n4 := by rw [HN4.out]; exact List.length_pos_iff.2 hd
        have hn4z : ((n4 : Int) == 0) = false := by simp; omega
        have hn4y : ¬ n4 = 0 := by omega
        have CA := add_ref w.heap.size w.heap.size who kk (.slice none 0 0) [] 4 p 0 (.slice p4 n4 c4) (dotsAt S.marks p) wr HMr.out HOF2.out HBw.out.size HKN.out.1 (by have := HKN.out.2; omega) (by simp)
        clear hd
        go_wp2_with fail
        refine CA.mono ?_
        rintro e w5 ⟨rfl, v5, hm5, hb5⟩
        have HB5 : Hid (Below w.heap.size w w5) := HBw.out.trans hb5
        have HO5 : Hid (OpsAt w5 v5 (fusL S who o)) := by unfold Hid; rw [HL.out]; exact hm5.ops
        have c2 := blk_cell hm5.blk (i := 2) (u := v5) rfl
        obtain ⟨p5, n5, c5, rfl, _⟩ := own_shape hm5.row
        clear CA hm5 hb5
        go_wp2_with fail
        go_ret2
        rw [HE0.out]
        exact ⟨_, rfl, fun _ => HO5.out, fun e => absurd rfl e, HB5.out⟩

/- Split, at all: the ops of a split, or of a fuse -/
theorem split_ref (B E : Nat) (S : Dq) (F : Nat → Prop) (who off : Int) (w : World) (h : RefAt B w E S F) :
    Calls Tryz.prog 29 #[.pointer (some ⟨E, 0, none⟩), .int .i64 who, .int .i64 off, .bool false] w (RfPost w (atE S who off) (splL S who off)) := by
  by_cases h0 : atE S who off = 0
  · obtain ⟨_, ho, _⟩ := atE_zero.1 h0
    obtain ⟨x, hx⟩ : ∃ x : Nat, off = x := ⟨off.toNat, by omega⟩
    subst hx
    rw [h0]
    exact split_cut B E S F who x w h h0
  · rw [at_wrong h0]
    exact split_no B E S F who off false _ w h h0
theorem fuse_ref (B E : Nat) (S : Dq) (F : Nat → Prop) (who off : Int) (w : World) (h : RefAt B w E S F) :
    Calls Tryz.prog 29 #[.pointer (some ⟨E, 0, none⟩), .int .i64 who, .int .i64 off, .bool true] w (RfPost w (fusE S who off) (fusL S who off)) := by
  by_cases h0 : atE S who off = 0
  · obtain ⟨_, ho, _⟩ := atE_zero.1 h0
    obtain ⟨x, hx⟩ : ∃ x : Nat, off = x := ⟨off.toNat, by omega⟩
    subst hx
    exact split_fuse B E S F who x w h h0
  · rw [Ur.fusE_at h0, at_wrong h0]
    exact split_no B E S F who off true _ w h h0

end Uz
end Go.Proofs.YtnniggjeadlbgaaGreatDoor
