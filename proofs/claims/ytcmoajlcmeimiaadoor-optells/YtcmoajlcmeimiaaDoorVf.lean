/- What op.Pack answers. -/
import Derived.Test.YtcmoajlcmeimiaaDoorVe
namespace Go.Proofs.YtcmoajlcmeimiaaDoor
namespace Vf
set_option linter.unusedVariables false
open Go.ChangeShapes Go.WideShapes Go.ChangeAt Go.RowKit Cm Ka Kb Na Om Oa Oz Oc Og Oi Ov Va Vb Vc Vd Ve
open La (bel bel_drew errV_zero errV_ne own_ge own_grow own_below)

theorem each_step {l : List Ox} {k : Nat} (hk : k < l.length) : eachB (l.take (k + 1)) = eachB (l.take k) ++ (b2 (bytesB (l.getD k oz)).length ++ bytesB (l.getD k oz)) := by
  rw [List.take_add_one, List.getElem?_eq_getElem hk, List.getD_eq_getElem?_getD, List.getElem?_eq_getElem hk, eachB_append]
  show _ ++ eachB [l[k]] = _
  unfold eachB; simp
theorem grew_below {w w' : World} {B : Nat} {v v' : Value} {l : List UInt8} (h : Grew w w' v v') (hr : Row w B v l) (hB : B ≤ w.heap.size) : Below B w w' ∧ B ≤ w'.heap.size := ⟨h.below hr hB, Nat.le_trans hB h.1.size⟩
set_option maxRecDepth 100000 in
set_option maxHeartbeats 4000000 in
theorem pack_says : PackSays := by
  intro v l w h hsz
  obtain ⟨p, c, rfl, hin, _⟩ := h
  obtain ⟨n, hl⟩ : ∃ n, l.length = n := ⟨_, rfl⟩
  rw [hl]
  by_cases h400 : 400 < n
  · have HE : Hid (errV (packE l) = .iface 74 (.int .i64 4) ∧ packS l = ⟨#[]⟩) := by
      have e : packE l = 4 := by unfold packE; rw [hl, if_pos h400]
      refine ⟨by rw [e]; rfl, ?_⟩
      unfold packS; rw [e, if_neg (by decide)]
    rw [HE.out.1, HE.out.2]
    have hz : (400 : Int) < n := by omega
    clear hl hin hsz h400
    go_enter Tryd.func29, Tryd.ntmps29
    go_wp2_with fail
    go_ret2
    exact ⟨rfl, Below.refl _ _⟩
  have hn1 : n ≤ 400 := by omega
  have HPE : Hid (packE l = firstE l) := by unfold Hid packE; rw [hl, if_neg h400]
  have HL : Hid (l.length = n) := hl
  have HI : Hid (OpsIn w p l) := hin
  have HZ : Hid (∀ x ∈ l, x.2.2.1.size ≤ maxLen) := hsz
  have HB2 : Hid (packB l = b2 (n : Int) ++ eachB l) := by unfold Hid packB; rw [hl]
  have hz : ¬ (400 : Int) < n := by omega
  clear hl hin hsz h400
  have hn1z : (n : Int) ≤ 400 := by omega
  go_enter Tryd.func29, Tryd.ntmps29
  go_wp2_with fail
  refine (appendTwo_any w.heap.size (.slice none 0 0) [] (n : Int) w (Row.nil _ _) (by omega) (by omega) (by simp) (Nat.le_refl _)).mono ?_
  rintro e w1 ⟨v1, rfl, hr1, hg1⟩
  obtain ⟨hb1, hs1⟩ := grew_below hg1 (Row.nil w w.heap.size) (Nat.le_refl _)
  obtain ⟨p1, N1, c1, rfl, _⟩ := hr1.shape
  have HR1 : Hid (Row w1 w.heap.size (.slice p1 N1 c1) (b2 (n : Int) ++ eachB (l.take 0))) := hr1
  have HK1 : Hid (Below w.heap.size w w1) := hb1
  clear hr1 hb1 hg1
  go_wp2_with fail
  go_loopw [4, 18] (fun u i wr => ∃ (k : Nat), k ≤ n ∧ i = .int .i64 k ∧ (∃ P N C, u = .slice P N C) ∧ Hid (Row wr w.heap.size u (b2 (n : Int) ++ eachB (l.take k))) ∧ Hid (Below w.heap.size w wr) ∧ w.heap.size ≤ wr.heap.size ∧ Hid ((eachB (l.take k)).length ≤ 142 * k) ∧ Hid (firstE (l.drop k) = firstE l)) (fun _ i _ => n - (intOf i).toNat)
  case atStart => exact ⟨0, by omega, rfl, ⟨_, _, _, rfl⟩, HR1, HK1, hs1, by simp [Hid, eachB], rfl⟩
  case round =>
    clear HR1 HK1 hs1
    obtain ⟨k, hk, rfl, ⟨p1, N1, c1, rfl⟩, HR, HK, hsr, HEL, HF⟩ := hrel
    by_cases hlt : k < n
    · have hltz : (k : Int) < n := by omega
      obtain ⟨b, o, rfl, hc⟩ := HI.out.some (by intro e; have := HL.out; rw [e] at this; simp at this; omega)
      have hkl : k < l.length := by rw [HL.out]; exact hlt
      have ha := (hc k hkl).below HK.out
      have hxs := HZ.out _ (getO_mem hkl)
      have HST := each_step hkl
      have HFS := first_step hkl
      obtain ⟨x, hx⟩ : ∃ x, x = l.getD k oz := ⟨_, rfl⟩
      rw [← hx] at ha hxs HST HFS
      obtain ⟨⟨xa, xb⟩, xt, xp, xc, xs⟩ := x
      obtain ⟨vs, ⟨a0, a1, a2, a3, a4, a5⟩, hd⟩ := ha
      simp only at a0 a1 a2 a3 a4 a5 hd hxs
      obtain ⟨pv, cv, hvs, _⟩ := id hd
      obtain ⟨nv, hnv⟩ : ∃ nv, nv = xs.length := ⟨_, rfl⟩
      rw [← hnv] at hvs
      subst hvs
      clear hnv
      have CB := fun O => encode_says xa xb xt xp xc _ xs (wr.alloc O) (hd.below ((Below.refl _ wr).alloc (Nat.le_refl _) O)) hxs
      by_cases hx0 : opE ((xa, xb), xt, xp, xc, xs) = 0
      · have hby := bytes_le hx0
        obtain ⟨T, hT⟩ : ∃ T, T = bytesS ((xa, xb), xt, xp, xc, xs) := ⟨_, rfl⟩
        have hTl : T.toList = bytesB ((xa, xb), xt, xp, xc, xs) := by rw [hT, bytesS_list]
        have hTe : encS ((xa, xb), xt, xp, xc, xs) = T := by unfold encS; rw [if_pos hx0, hT]
        rw [hTe, hx0, errV_zero] at CB
        rw [← hTl, Om.len_eq] at hby HST
        have HTS : Hid (eachB (l.take (k + 1)) = eachB (l.take k) ++ (b2 (T.size : Int) ++ T.toList)) := HST
        have hT140 : T.size ≤ 140 := hby.2
        have hT140z : (T.size : Int) ≤ 140 := by omega
        have hTm : T.size ≤ maxLen := by unfold maxLen; omega
        have HF2 : Hid (firstE (l.drop (k + 1)) = firstE l) := by
          unfold Hid; rw [← HF.out, HFS, if_neg (by simpa using hx0)]
        have HEL2 : Hid ((eachB (l.take (k + 1))).length ≤ 142 * (k + 1)) := by
          unfold Hid
          rw [HTS.out, List.length_append, List.length_append, b2_len, Om.len_eq]
          have := HEL.out
          omega
        obtain ⟨Q, hQ⟩ : ∃ Q, Q = b2 (n : Int) ++ eachB (l.take k) := ⟨_, rfl⟩
        have HQ : Hid (b2 (n : Int) ++ eachB (l.take (k + 1)) = (Q ++ b2 (T.size : Int)) ++ T.toList) := by
          unfold Hid; rw [HTS.out, hQ]; simp
        have HQL : Hid (Q.length ≤ 60002) := by unfold Hid; rw [hQ, List.length_append, b2_len]; have := HEL.out; omega
        have HQL1 : Hid (Q.length ≤ 1000000) := by unfold Hid; have := HQL.out; omega
        have HQL2 : Hid ((Q ++ b2 (T.size : Int)).length + T.size ≤ 1000000000) := by unfold Hid; rw [List.length_append, b2_len]; have := HQL.out; omega
        rw [← hQ] at HR
        clear hc hx hx0 HST hT hTl hby hd hkl hQ hTe HFS hxs
        go_wp2_with fail
        refine (CB _).mono ?_
        rintro e w2 ⟨rfl, hb2⟩
        have hb2' := bel_new HK.out hb2
        have HR2 : Hid (Row w2 w.heap.size (.slice p1 N1 c1) Q) := (Row.alloc HR.out _).below hb2
        have HK2 : Hid (Below w.heap.size w w2) := hb2'
        have hs2 : w.heap.size ≤ w2.heap.size := hb2'.size
        clear hb2 hb2' CB a0 a1 a2 a3 a4 a5
        go_wp2_with fail
        refine (appendTwo_any w.heap.size (.slice p1 N1 c1) Q (T.size : Int) w2 HR2.out (by omega) (by omega) HQL1.out hs2).mono ?_
        rintro e w3 ⟨v3, rfl, hr3, hg3⟩
        obtain ⟨hb3, hs3⟩ := grew_below hg3 HR2.out hs2
        obtain ⟨p3, N3, c3, rfl, _⟩ := hr3.shape
        have HR3 : Hid (Row w3 w.heap.size (.slice p3 N3 c3) (Q ++ b2 (T.size : Int))) := hr3
        have HK3 : Hid (Below w.heap.size w w3) := HK2.out.trans hb3
        clear hr3 hb3 hg3
        go_wp2_with (at_builtin; refine wpList_putT _ rfl (.tmp 33) (.tmp 34) rfl w.heap.size (.slice p3 N3 c3) (Q ++ b2 (T.size : Int)) T rfl HR3.out rfl HQL2.out hs3 ?_; intro v4 w4 hr4 hb4 hs4; obtain ⟨p4, N4, c4, rfl, _⟩ := hr4.shape; have HR4 : Hid (Row w4 w.heap.size (.slice p4 N4 c4) ((Q ++ b2 (T.size : Int)) ++ T.toList)) := hr4; have HK4 : Hid (Below w.heap.size w w4) := HK3.out.trans hb4; clear hr4 hb4)
        rw [← HQ.out] at HR4
        go_roundw
        case rel => exact ⟨k + 1, by omega, by go_num, ⟨_, _, _, rfl⟩, HR4, HK4, hs4, HEL2, HF2⟩
        case measure => simp [intOf]; omega
      · obtain ⟨q, hq⟩ : ∃ q, q = opE ((xa, xb), xt, xp, xc, xs) := ⟨_, rfl⟩
        have hTe : encS ((xa, xb), xt, xp, xc, xs) = ⟨#[]⟩ := by unfold encS; rw [if_neg hx0]
        rw [hTe, errV_ne hx0, ← hq] at CB
        have HE : Hid (errV (packE l) = .iface 74 (.int .i64 q) ∧ packS l = ⟨#[]⟩) := by
          have e : packE l = opE ((xa, xb), xt, xp, xc, xs) := by rw [HPE.out, ← HF.out, HFS, if_pos hx0]
          refine ⟨by rw [e, errV_ne hx0, hq], ?_⟩
          unfold packS; rw [e, if_neg hx0]
        clear hc hx hx0 HST hd hkl hTe HFS hxs hq
        go_wp2_with fail
        refine (CB _).mono ?_
        rintro e w2 ⟨rfl, hb2⟩
        have HK2 : Hid (Below w.heap.size w w2) := bel_new HK.out hb2
        clear hb2 CB a0 a1 a2 a3 a4 a5
        go_wp2_with fail
        go_ret2
        exact ⟨by rw [HE.out.1, HE.out.2]; rfl, HK2.out⟩
    · obtain rfl : n = k := by omega
      have hltz : ¬ (n : Int) < n := by omega
      rw [List.take_of_length_le (by rw [HL.out]; exact Nat.le_refl _), ← HB2.out] at HR
      have hcv := HR.out.reads (by rw [HB2.out]; simp [b2])
      have HE : Hid (errV (packE l) = .nilIface ∧ packS l = ⟨(packB l).toArray⟩) := by
        have h9 := HF.out
        rw [List.drop_of_length_le (by rw [HL.out]; exact Nat.le_refl _)] at h9
        have e : packE l = 0 := by rw [HPE.out, ← h9]; rfl
        refine ⟨by rw [e]; exact errV_zero, ?_⟩
        unfold packS; rw [e, if_pos rfl]
      rw [← HE.out.2] at hcv
      obtain ⟨T, hT⟩ : ∃ T, T = packS l := ⟨_, rfl⟩
      rw [← hT] at hcv
      have HT : Hid (T = packS l) := hT
      clear hT hlt hk
      go_wp2_with fail
      go_ret2
      exact ⟨by rw [HE.out.1, ← HT.out]; rfl, HK.out⟩

end Vf
end Go.Proofs.YtcmoajlcmeimiaaDoor
