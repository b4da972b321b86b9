/- What the reference's Pack answers, of ops that are right. -/
import Derived.Test.YtcmoajlcmeimiaaDoorOi
import Derived.Test.YtcmoajlcmeimiaaDoorOe
namespace Go.Proofs.YtcmoajlcmeimiaaDoor
namespace Oj
set_option linter.unusedVariables false
open Go.ChangeShapes Go.WideShapes Go.ChangeAt Go.RowKit Cm Ka Kb Na Om Oa Oz Oc Od Oe Og Oi
open La (bel bel_drew errV_zero errV_ne own_ge own_grow own_below)

theorem each_step {l : List Ox} {k : Nat} (hk : k < l.length) : eachB (l.take (k + 1)) = eachB (l.take k) ++ (b2 (bytesB (l.getD k oz)).length ++ bytesB (l.getD k oz)) := by
  rw [List.take_add_one, List.getElem?_eq_getElem hk, List.getD_eq_getElem?_getD, List.getElem?_eq_getElem hk, eachB_append]
  show _ ++ eachB [l[k]] = _
  unfold eachB; simp
theorem each_len : ∀ (l : List Ox), (∀ o ∈ l, opE o = 0) → (eachB l).length ≤ 142 * l.length
  | [], _ => by simp [eachB]
  | o :: l, h => by
    have h1 := each_len l (fun x hx => h x (List.mem_cons_of_mem _ hx))
    have h2 := (bytes_le (h o (List.mem_cons_self ..))).2
    rw [eachB_cons, List.length_append, List.length_append, b2_len, List.length_cons]
    omega
set_option maxRecDepth 100000 in
set_option maxHeartbeats 2000000 in
theorem pack_ref (v : Value) (l : List Ox) (w : World) (h : OpsAt w v l) (h0 : ∀ o ∈ l, opE o = 0) (hn1 : l.length ≤ 400) :
    Calls Tryd.prog 28 #[v] w fun e w' => e = .returned (.string ⟨(packB l).toArray⟩) ∧ Below w.heap.size w w' := by
  obtain ⟨p, c, rfl, hin, _⟩ := h
  obtain ⟨n, hl⟩ : ∃ n, l.length = n := ⟨_, rfl⟩
  rw [hl] at hn1
  rw [hl]
  have HL : Hid (l.length = n) := hl
  have HI : Hid (OpsIn w p l) := hin
  have H0 : Hid (∀ o ∈ l, opE o = 0) := h0
  have HB2 : Hid (packB l = b2 (n : Int) ++ eachB l) := by unfold Hid packB; rw [hl]
  clear hl hin h0
  have hn1z : (n : Int) ≤ 400 := by omega
  go_enter Tryd.func28, Tryd.ntmps28
  go_wp2_with fail
  refine (two_ref w.heap.size (.slice none 0 0) [] (n : Int) w (Row.nil _ _) (by omega) (by omega) (by simp) (Nat.le_refl _)).mono ?_
  rintro e w1 ⟨v1, rfl, hr1, hb1, hs1⟩
  obtain ⟨p1, N1, c1, rfl, _⟩ := hr1.shape
  have HR1 : Hid (Row w1 w.heap.size (.slice p1 N1 c1) (b2 (n : Int) ++ eachB (l.take 0))) := hr1
  have HK1 : Hid (Below w.heap.size w w1) := hb1
  clear hr1 hb1
  go_wp2_with fail
  go_loopw [3, 4] (fun u i wr => ∃ (k : Nat), k ≤ n ∧ i = .int .i64 k ∧ (∃ P N C, u = .slice P N C) ∧ Hid (Row wr w.heap.size u (b2 (n : Int) ++ eachB (l.take k))) ∧ Hid (Below w.heap.size w wr) ∧ w.heap.size ≤ wr.heap.size) (fun _ i _ => n - (intOf i).toNat)
  case atStart => exact ⟨0, by omega, rfl, ⟨_, _, _, rfl⟩, HR1, HK1, hs1⟩
  case round =>
    clear HR1 HK1 hs1
    obtain ⟨k, hk, rfl, ⟨p1, N1, c1, rfl⟩, HR, HK, hsr⟩ := hrel
    by_cases hlt : k < n
    · have hltz : (k : Int) < n := by omega
      obtain ⟨b, o, rfl, hc⟩ := HI.out.some (by intro e; have := HL.out; rw [e] at this; simp at this; omega)
      have hkl : k < l.length := by rw [HL.out]; exact hlt
      have ha := (hc k hkl).below HK.out
      have hx0 := H0.out _ (getO_mem hkl)
      have HST := each_step hkl
      obtain ⟨x, hx⟩ : ∃ x, x = l.getD k oz := ⟨_, rfl⟩
      rw [← hx] at ha hx0 HST
      obtain ⟨⟨xa, xb⟩, xt, xp, xc, xs⟩ := x
      obtain ⟨vs, ⟨a0, a1, a2, a3, a4, a5⟩, hd⟩ := ha
      simp only at a0 a1 a2 a3 a4 a5 hd
      have CB := bytes_ref xa xb xt xp xc vs xs wr hd hx0
      have hby := bytes_le hx0
      obtain ⟨T, hT⟩ : ∃ T, T = bytesS ((xa, xb), xt, xp, xc, xs) := ⟨_, rfl⟩
      have hTl : T.toList = bytesB ((xa, xb), xt, xp, xc, xs) := by rw [hT, bytesS_list]
      rw [← hTl, Om.len_eq] at hby HST
      have HTS : Hid (eachB (l.take (k + 1)) = eachB (l.take k) ++ (b2 (T.size : Int) ++ T.toList)) := HST
      have hT140 : T.size ≤ 140 := hby.2
      have hT140z : (T.size : Int) ≤ 140 := by omega
      have hTm : T.size ≤ maxLen := by unfold maxLen; omega
      have HLE : Hid ((eachB (l.take k)).length ≤ 60000) := by
        unfold Hid
        have := each_len (l.take k) (fun o ho => H0.out o (List.mem_of_mem_take ho))
        rw [List.length_take] at this; omega
      have hcv := fun w => run_bytes_of_string (P := Tryd.prog) w 9 92 5 T Tryd.underlying9 Tryd.underlying92 Tryd.underlying5
      rw [← hT] at CB
      obtain ⟨Q, hQ⟩ : ∃ Q, Q = b2 (n : Int) ++ eachB (l.take k) := ⟨_, rfl⟩
      have HQ : Hid (b2 (n : Int) ++ eachB (l.take (k + 1)) = (Q ++ b2 (T.size : Int)) ++ T.toList) := by
        unfold Hid; rw [HTS.out, hQ]; simp
      have HQL : Hid (Q.length ≤ 60002) := by unfold Hid; rw [hQ, List.length_append, b2_len]; have := HLE.out; omega
      have HQL2 : Hid ((Q ++ b2 (T.size : Int)).length + T.size ≤ 1000000000) := by unfold Hid; rw [List.length_append, b2_len]; have := HQL.out; omega
      rw [← hQ] at HR
      clear hc hx hx0 HST hT hTl hby hd hkl hQ
      go_wp2_with fail
      refine CB.mono ?_
      rintro e w2 ⟨rfl, hb2⟩
      have HR2 : Hid (Row w2 w.heap.size (.slice p1 N1 c1) Q) := HR.out.below hb2
      have HK2 : Hid (Below w.heap.size w w2) := bel HK.out hb2
      have hs2 : w.heap.size ≤ w2.heap.size := HK2.out.size
      clear hb2 CB a0 a1 a2 a3 a4 a5
      go_wp2_with fail
      refine (two_ref w.heap.size (.slice p1 N1 c1) Q (T.size : Int) w2 HR2.out (by omega) (by omega) (by have := HQL.out; omega) hs2).mono ?_
      rintro e w3 ⟨v3, rfl, hr3, hb3, hs3⟩
      obtain ⟨p3, N3, c3, rfl, _⟩ := hr3.shape
      have HR3 : Hid (Row w3 w.heap.size (.slice p3 N3 c3) (Q ++ b2 (T.size : Int))) := hr3
      have HK3 : Hid (Below w.heap.size w w3) := HK2.out.trans hb3
      clear hr3 hb3
      go_wp2_with (at_builtin; refine wpList_putS _ rfl (.tmp 24) (.tmp 26) rfl w.heap.size (.slice p3 N3 c3) (Q ++ b2 (T.size : Int)) T _ _ rfl HR3.out _ rfl (by first | rfl | simp) HQL2.out hs3 ?_; intro v4 w4 hr4 hb4 hs4; obtain ⟨p4, N4, c4, rfl, _⟩ := hr4.shape; have HR4 : Hid (Row w4 w.heap.size (.slice p4 N4 c4) ((Q ++ b2 (T.size : Int)) ++ T.toList)) := hr4; have HK4 : Hid (Below w.heap.size w w4) := HK3.out.trans hb4; clear hr4 hb4 hcv)
      rw [← HQ.out] at HR4
      go_roundw
      case rel => exact ⟨k + 1, by omega, by go_num, ⟨_, _, _, rfl⟩, HR4, HK4, hs4⟩
      case measure => simp [intOf]; omega
    · obtain rfl : n = k := by omega
      have hltz : ¬ (n : Int) < n := by omega
      rw [List.take_of_length_le (by rw [HL.out]; exact Nat.le_refl _), ← HB2.out] at HR
      have hcv := HR.out.reads (by rw [HB2.out]; simp [b2])
      obtain ⟨T, hT⟩ : ∃ T : ByteArray, T = ⟨(packB l).toArray⟩ := ⟨_, rfl⟩
      rw [← hT] at hcv
      have HT : Hid (T = ⟨(packB l).toArray⟩) := hT
      clear hT hlt hk
      go_wp2_with fail
      go_ret
      exact ⟨by rw [HT.out]; rfl, HK.out⟩

end Oj
end Go.Proofs.YtcmoajlcmeimiaaDoor
