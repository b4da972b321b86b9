/- NetMeets' walk: what is asked of package net is a premise here. -/
import Derived.Test.YtlmdchpbpgcfmaaGreatDoorH1
import Derived.Test.YtlmdchpbpgcfmaaGreatDoorJ14
import Derived.Deep.DeepCutAuto
import Derived.Deep.RegionHeld3
namespace Go.Proofs.YtlmdchpbpgcfmaaGreatDoor
namespace Hf
set_option linter.unusedVariables false
set_option linter.unusedSimpArgs false
open Go.ChangeShapes Go.WideShapes Go.ChangeAt Go.RowKit Cm Ka Kb Na Om Oa Oz Oc Og Oi Hm Ia Aa Hc Hd Kt Kl
open La (bel_drew errV_zero errV_ne own_ge own_grow own_below Lies)

set_option maxRecDepth 100000 in
set_option maxHeartbeats 16000000 in
theorem walk (L : NetSays) (U : NetUnder L) (Q : NetSame L) (nn : Int) (pe : Option Addr) (ce : Nat) (evs : List Ev) (w : World) (hev : EvsIn w pe evs) (hE : ET w) :
    Calls Tryz.prog 3 #[.int .i64 nn, .slice pe evs.length ce] w fun e w' => e = .returned (.bool true) ∧ Below w.heap.size w w' := by
  have HEV := Hid.mk' hev
  have HE := Hid.mk' hE
  obtain ⟨ne, hne⟩ : ∃ ne, ne = evs.length := ⟨_, rfl⟩
  have HNE := Hid.mk' hne
  rw [← hne]
  have C0 : Calls Tryz.prog 7 #[.int .i64 2] w fun e w' => ∃ X, e = .returned (.tuple #[Hd.ptr X, .nilIface]) ∧ Hid (Nc L w w' X (nw 2)) := nc_new L (Below.refl _ w) (n := 2) (by omega) (by omega)
  clear hev hE hne
  go_enter Tryz.func3, Tryz.ntmps3
  go_wp2_with fail
  refine C0.mono ?_
  rintro e w1 ⟨X0, rfl, H1⟩
  have C1 := H1.out.does t1
  rw [open_type.1, errV_zero] at C1
  clear C0
  go_wp2_with fail
  refine C1.mono ?_
  rintro e w2 ⟨rfl, H2⟩
  have C2 := H2.out.same Q open_len.1
  rw [open_type.2] at C2
  clear C1 H1
  go_wp2_with fail
  refine C2.mono ?_
  rintro e w3 ⟨rfl, H3⟩
  have C3 := H3.out.does s1
  rw [open_send.1, errV_zero] at C3
  clear C2 H2
  go_wp2_with fail
  refine C3.mono ?_
  rintro e w4 ⟨rfl, H4⟩
  have C4 := H4.out.does d1
  rw [open_send.2.1, errV_zero] at C4
  clear C3 H3
  go_wp2_with fail
  refine C4.mono ?_
  rintro e w5 ⟨rfl, H5⟩
  have C5 := H5.out.same Q open_len.2
  rw [open_send.2.2] at C5
  clear C4 H4
  go_wp2_with fail
  refine C5.mono ?_
  rintro e w6 ⟨rfl, H6⟩
  have HB6 := Hid.mk' H6.out.bel
  clear C5 H5 H6
  by_cases hn : nn < 1 ∨ 4 < nn
  · have C := L.none nn w6 hn
    rw [errV_ne (by decide)] at C
    by_cases h1 : nn < 1
    · go_wp2_with fail
      refine C.mono ?_
      rintro e w7 ⟨rfl, hb7⟩
      have HB7 : Hid (Below w.heap.size w w7) := La.bel HB6.out hb7
      clear hb7 C
      go_wp2_with fail
      go_ret
      exact ⟨rfl, HB7.out⟩
    · have h2 : 4 < nn := by omega
      go_wp2_with fail
      refine C.mono ?_
      rintro e w7 ⟨rfl, hb7⟩
      have HB7 : Hid (Below w.heap.size w w7) := La.bel HB6.out hb7
      clear hb7 C
      go_wp2_with fail
      go_ret
      exact ⟨rfl, HB7.out⟩
  · obtain ⟨n, rfl⟩ : ∃ n : Nat, nn = n := ⟨nn.toNat, by omega⟩
    have hn1 : 1 ≤ n := by omega
    have hn4 : n ≤ 4 := by omega
    have C := nc_new L HB6.out hn1 hn4
    clear hn
    go_wp2_with fail
    refine C.mono ?_
    rintro e w7 ⟨X, rfl, H7⟩
    clear C
    go_wp2_with fail
    go_loopw [9] (fun v9 wr => ∃ (k : Nat) (N : Nt), k ≤ ne ∧ k ≤ 60 ∧ v9 = .int .i64 k ∧ Hid (Nc L w wr X N) ∧ Hid (N.ds.length = n)) (fun v9 _ => 70 - (intOf v9).toNat)
    case atStart => exact ⟨0, nw n, by omega, by omega, rfl, H7, by rw [Hid]; unfold nw; rw [List.length_replicate]⟩
    case round =>
      clear H7
      obtain ⟨k, N, hk, hk60, rfl, HN, HL⟩ := hrel
      by_cases hc : k < ne ∧ k < 60
      · obtain ⟨h1, h2⟩ := hc
        have h1z : (k : Int) < ne := by omega
        have h2z : (k : Int) < 60 := by omega
        obtain ⟨b, o, rfl, hce⟩ := HEV.out.some (j := k) (by rw [← HNE.out]; exact h1)
        obtain ⟨c0, c1, c2, c3⟩ := hce wr HN.out.bel
        have C := HN.out.does (evs.getD k (0, 0, 0, 0))
        have HL2 : Hid ((evS N (evs.getD k (0, 0, 0, 0))).ds.length = n) := by rw [Hid, (HN.out.gl.ev _).2]; exact HL.out
        generalize evs.getD k (0, 0, 0, 0) = ev at c0 c1 c2 c3 C HL2
        obtain ⟨e1, e2, e3, e4⟩ := ev
        simp only at c0 c1 c2 c3
        generalize errV (evE N (e1, e2, e3, e4)) = er at C
        clear hce HN
        go_wp2_with fail
        refine C.mono ?_
        rintro e w8 ⟨rfl, H8⟩
        clear C c0 c1 c2 c3
        go_wp2_with fail
        go_roundw
        case rel => exact ⟨k + 1, _, by omega, by omega, by go_num, H8, HL2⟩
        case measure => simp [intOf]; omega
      · go_upto_region 10 with fail
        go_cut [67] from 60 to 75 (fun s9 wx => s9 = .bool false ∧ wr = wx)
        case first =>
          by_cases h1 : k < ne
          · have h1z : (k : Int) < ne := by omega
            have h2z : ¬ (k : Int) < 60 := by omega
            clear hc h1
            go_wp2_with fail
            go_meet
            case rel => exact ⟨by first | rfl | simp [h2z], rfl⟩
          · have h1z : ¬ (k : Int) < ne := by omega
            clear hc h1
            go_wp2_with fail
            go_meet
            case rel => exact ⟨by first | rfl | simp [h1z], rfl⟩
        case rest =>
          obtain ⟨rfl, hwx⟩ := hcut
          subst hwx
          clear hc
          go_wp2_with fail
          go_loopw [10] (fun v10 wx => ∃ (f : Bool) (N : Nt), v10 = .bool f ∧ Hid (Nc L w wx X N) ∧ Hid (N.ds.length = n)) (fun _ wx => L.und wx X)
          case atStart => exact ⟨false, N, rfl, HN, HL⟩
          case round =>
            clear HN HL
            obtain ⟨f, N, rfl, HN, HL⟩ := hrel
            have C := HN.out.under U
            obtain ⟨u, hu⟩ : ∃ u, u = N.us.length := ⟨_, rfl⟩
            rw [← hu] at C
            have HU := Hid.mk' hu
            have hu1 : u ≤ 100 := by rw [hu]; exact HN.out.few
            have HND : Hid (L.und wr X = u) := by rw [Hid, hu]; exact HN.out.und
            clear hu
            by_cases h0 : 0 < u
            · have hz : (0 : Int) < u := by omega
              go_wp2_with fail
              refine C.mono ?_
              rintro e w9 ⟨rfl, H9⟩
              clear C
              have C2 := H9.out.does d1
              have HL2 : Hid ((evS N d1).ds.length = n) := by rw [Hid, (HN.out.gl.ev _).2]; exact HL.out
              have HLS : Hid ((evS N d1).us.length < u) := by have h := less_us (N := N) (by rw [← HU.out]; exact h0); rw [Hid]; have := HU.out; omega
              generalize evE N d1 = k2 at C2
              clear HN HL
              go_wp2_with fail
              refine C2.mono ?_
              rintro e w10 ⟨rfl, H10⟩
              clear C2 H9
              cases f
              · have C3 := same_any k2 4 w10 (Kl.ET.below HE.out H10.out.bel)
                generalize errV k2 = er at C3 ⊢
                generalize (k2 == 4) = b4 at C3
                go_wp2_with fail
                refine C3.mono ?_
                rintro e w11 ⟨rfl, hb11⟩
                have H11 := Hid.mk' (H10.out.below hb11)
                clear C3 hb11 H10
                go_wp2_with fail
                go_roundw
                case rel => exact ⟨b4, _, rfl, H11, HL2⟩
                case measure => rw [H11.out.und, HND.out]; exact HLS.out
              · generalize errV k2 = er
                go_wp2_with fail
                go_roundw
                case rel => exact ⟨true, _, rfl, H10, HL2⟩
                case measure => rw [H10.out.und, HND.out]; exact HLS.out
            · skip
              have hu0 : u = 0 := by omega
              have HLU : Hid (N.ds.length = n ∧ N.us = []) := ⟨HL.out, List.eq_nil_of_length_eq_zero (by rw [← HU.out]; omega)⟩
              rw [hu0, show ((0 : Nat) : Int) = 0 from rfl] at C
              clear h0 HL HU HN HND hu1 hu0
              go_wp2_with fail
              refine C.mono ?_
              rintro e w9 ⟨rfl, H9⟩
              clear C
              go_wp2_with fail
              go_loopw [10, 12] (fun v10 v12 wx => ∃ (k : Nat) (f : Bool) (N : Nt), k ≤ 2 ∧ v12 = .int .i64 k ∧ v10 = .bool f ∧ Hid (Nc L w wx X N) ∧ Hid (N.ds.length = n ∧ N.us = []) ∧ Hid (0 < k → f = false → sameB N = true)) (fun _ v12 _ => 3 - (intOf v12).toNat)
              case atStart => exact ⟨0, f, N, by omega, rfl, rfl, H9, HLU, fun h => by omega⟩
              case round =>
                clear H9 HLU
                obtain ⟨k, f, N, hk, rfl, rfl, HN, HLU, HSM⟩ := hrel
                by_cases hk2 : k < 2
                · have hk2z : (k : Int) < 2 := by omega
                  have HST : Hid (f = false → ∃ N0, Sent N0 N 0 0) := fun _ => ⟨N, Sent.start HN.out.gl HLU.out.2⟩
                  clear HSM
                  go_wp2_with fail
                  go_loopw [10, 13] (fun v10 v13 wx => ∃ (i : Nat) (f : Bool) (N : Nt), i ≤ n ∧ v13 = .int .i64 i ∧ v10 = .bool f ∧ Hid (Nc L w wx X N) ∧ Hid (N.ds.length = n ∧ N.us = []) ∧ Hid (f = false → ∃ N0, Sent N0 N i 0)) (fun _ v13 _ => 5 - (intOf v13).toNat)
                  case atStart => exact ⟨0, f, N, by omega, rfl, rfl, HN, HLU, HST⟩
                  case round =>
                    clear HN HLU HST
                    obtain ⟨i, f, N, hin, rfl, rfl, HN, HLU, HS⟩ := hrel
                    by_cases hi : i < n
                    · have hiz : (i : Int) < n := by omega
                      go_wp2_with fail
                      go_loopw [10, 14] (fun v10 v14 wx => ∃ (j : Nat) (f : Bool) (N : Nt), j ≤ n ∧ v14 = .int .i64 j ∧ v10 = .bool f ∧ Hid (Nc L w wx X N) ∧ Hid (N.ds.length = n ∧ N.us = []) ∧ Hid (f = false → ∃ N0, Sent N0 N i j)) (fun _ v14 _ => 5 - (intOf v14).toNat)
                      case atStart => exact ⟨0, f, N, by omega, rfl, rfl, HN, HLU, HS⟩
                      case round =>
                        clear HN HLU HS
                        obtain ⟨j, f, N, hjn, rfl, rfl, HN, HLU, HS⟩ := hrel
                        by_cases hj : j < n
                        · have hjz : (j : Int) < n := by omega
                          by_cases hij : i = j
                          · subst hij
                            have HS2 : Hid (f = false → ∃ N0, Sent N0 N i (i + 1)) := fun hf => by
                              obtain ⟨N0, hs⟩ := HS.out hf
                              exact ⟨N0, hs.skip⟩
                            go_wp2_with fail
                            go_roundw
                            case rel => exact ⟨i + 1, f, N, by omega, by go_num, rfl, HN, HLU, HS2⟩
                            case measure => simp [intOf]; omega
                          · skip
                            have hijz : ¬ (i : Int) = (j : Int) := by omega
                            have hijb : ((i : Int) == (j : Int)) = false := by simpa using hijz
                            have C := HN.out.pair HLU.out.2 (i := i) (j := j) (by rw [HLU.out.1]; exact hi) (by rw [HLU.out.1]; exact hj) hij
                            have HPR := Hid.mk' (pair_pr HN.out.gl (i := i) (j := j) (by rw [HLU.out.1]; exact hi) (by rw [HLU.out.1]; exact hj))
                            have HLU2 : Hid ((Hc.pair N i j).ds.length = n ∧ (Hc.pair N i j).us = []) := ⟨by rw [HPR.out.len]; exact HLU.out.1, HPR.out.us⟩
                            have HSP : Hid (f = false → b1E (dq N i) (dq N j) = 0 → ∃ N0, Sent N0 (Hc.pair N i j) i (j + 1)) := fun hf h0 => by
                              obtain ⟨N0, hs⟩ := HS.out hf
                              exact ⟨N0, hs.pair (by rw [HLU.out.1]; exact hi) (by rw [HLU.out.1]; exact hj) h0⟩
                            have hb4 := b1_err HN.out.gl (i := i) (j := j) (by rw [HLU.out.1]; exact hi) (by rw [HLU.out.1]; exact hj)
                            clear HN HLU HPR HS
                            go_wp2_with fail
                            refine C.mono ?_
                            rintro e w9 ⟨rfl, M, H9, HM⟩
                            have C2 := H9.out.does d1
                            rw [HM.out.1, HM.out.2] at C2
                            clear C HM H9
                            generalize b1E (dq N i) (dq N j) = be at C2 HSP hb4
                            rcases hb4 with rfl | rfl
                            · rw [errV_zero] at C2
                              go_wp2_with fail
                              refine C2.mono ?_
                              rintro e w10 ⟨rfl, H10⟩
                              clear C2
                              cases f
                              · have C3 := same_any 0 4 w10 (Kl.ET.below HE.out H10.out.bel)
                                rw [errV_zero, show ((0 : Int) == 4) = false from rfl] at C3
                                go_wp2_with fail
                                refine C3.mono ?_
                                rintro e w11 ⟨rfl, hb11⟩
                                have H11 := Hid.mk' (H10.out.below hb11)
                                clear C3 hb11 H10
                                go_wp2_with fail
                                go_roundw
                                case rel => exact ⟨j + 1, false, _, by omega, by go_num, rfl, H11, HLU2, fun _ => HSP.out (by simp) (by simp)⟩
                                case measure => simp [intOf]; omega
                              · go_wp2_with fail
                                go_roundw
                                case rel => exact ⟨j + 1, true, _, by omega, by go_num, rfl, H10, HLU2, fun h => by cases h⟩
                                case measure => simp [intOf]; omega
                            · rw [errV_ne (by decide)] at C2
                              go_wp2_with fail
                              refine C2.mono ?_
                              rintro e w10 ⟨rfl, H10⟩
                              clear C2
                              cases f
                              · have C3 := same_any 4 4 w10 (Kl.ET.below HE.out H10.out.bel)
                                rw [errV_ne (by decide), show ((4 : Int) == 4) = true from rfl] at C3
                                go_wp2_with fail
                                refine C3.mono ?_
                                rintro e w11 ⟨rfl, hb11⟩
                                have H11 := Hid.mk' (H10.out.below hb11)
                                clear C3 hb11 H10
                                go_wp2_with fail
                                go_roundw
                                case rel => exact ⟨j + 1, true, _, by omega, by go_num, rfl, H11, HLU2, fun h => by cases h⟩
                                case measure => simp [intOf]; omega
                              · go_wp2_with fail
                                go_roundw
                                case rel => exact ⟨j + 1, true, _, by omega, by go_num, rfl, H10, HLU2, fun h => by cases h⟩
                                case measure => simp [intOf]; omega
                        · have hjz : ¬ (j : Int) < n := by omega
                          have HS2 : Hid (f = false → ∃ N0, Sent N0 N (i + 1) 0) := fun hf => by
                            obtain ⟨N0, hs⟩ := HS.out hf
                            exact ⟨N0, hs.next (by rw [HLU.out.1]; omega)⟩
                          clear HS
                          go_wp2_with fail
                          go_roundw
                          case rel => exact ⟨i + 1, f, N, by omega, by go_num, rfl, HN, HLU, HS2⟩
                          case measure => simp [intOf]; omega
                    · have hiz : ¬ (i : Int) < n := by omega
                      have HSM : Hid (0 < k + 1 → f = false → sameB N = true) := fun _ hf => by
                        obtain ⟨N0, hs⟩ := HS.out hf
                        exact same_sent hs (by rw [HLU.out.1]; omega)
                      clear HS
                      go_wp2_with fail
                      go_roundw
                      case rel => exact ⟨k + 1, f, N, by omega, by go_num, rfl, HN, HLU, HSM⟩
                      case measure => simp [intOf]; omega
                · have hk2z : ¬ (k : Int) < 2 := by omega
                  have HB9 := Hid.mk' HN.out.bel
                  cases f
                  · have C := HN.out.same Q (by rw [HLU.out.1]; exact hn1)
                    rw [HSM.out (by omega) rfl] at C
                    go_wp2_with fail
                    refine C.mono ?_
                    rintro e w9 ⟨rfl, H9⟩
                    have C2 := H9.out.under U
                    rw [HLU.out.2] at C2
                    clear C HN
                    go_wp2_with fail
                    refine C2.mono ?_
                    rintro e w10 ⟨rfl, H10⟩
                    clear C2 H9
                    go_wp2_with fail
                    go_ret
                    exact ⟨by first | rfl | simp, H10.out.bel⟩
                  · go_wp2_with fail
                    go_ret
                    exact ⟨rfl, HB9.out⟩

end Hf
end Go.Proofs.YtlmdchpbpgcfmaaGreatDoor
