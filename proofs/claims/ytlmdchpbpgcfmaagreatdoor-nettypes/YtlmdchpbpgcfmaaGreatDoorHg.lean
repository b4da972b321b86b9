/- NetTypes' walk: what is asked of package net is a premise here. -/
import Derived.Test.YtlmdchpbpgcfmaaGreatDoorH1
import Derived.Test.YtlmdchpbpgcfmaaGreatDoorHe
import Derived.Test.YtlmdchpbpgcfmaaGreatDoorJ10
import Derived.Test.YtlmdchpbpgcfmaaGreatDoorJ14
import Derived.Deep.DeepCutAuto
namespace Go.Proofs.YtlmdchpbpgcfmaaGreatDoor
namespace Hg
set_option linter.unusedVariables false
set_option linter.unusedSimpArgs false
open Go.ChangeShapes Go.WideShapes Go.ChangeAt Go.RowKit Cm Ka Kb Na Om Oa Oz Oc Og Oi Hm Ia Ic Um Aa Hc Hd He Kt Kl
open La (bel_drew errV_zero errV_ne own_ge own_grow own_below Lies)

/- what was typed so far -/
structure Tp (L : NetSays) (w wr : World) (X n : Nat) (N : Nt) (lg : Nat) : Prop where
  nc : Nc L w wr X N
  typ : Typ N
  len : N.ds.length = n
  lg' : lg = (allO N n).length
theorem Tp.below {L : NetSays} {w wr w' : World} {X n : Nat} {N : Nt} {lg : Nat} (h : Tp L w wr X n N lg) (hb : Below wr.heap.size wr w') : Tp L w w' X n N lg := ⟨h.nc.below hb, h.typ, h.len, h.lg'⟩
/- a letter is typed -/
theorem Tp.type {L : NetSays} {w wr : World} {X n i k : Nat} {N : Nt} {lg : Nat} (h : Tp L w wr X n N lg) (hi : i < n) (hk : (dq N i).ops.length = k) (hk2 : k < 20) (c : Int) : Calls Tryz.prog 8 #[Hd.ptr X, .agg #[.int .i64 1, .int .i64 i, .int .i64 k, .int .i64 c]] wr fun r w' => (∃ q : Int, (q = 1 ∨ q = 8) ∧ r = .returned (.iface 84 (.int .i64 q)) ∧ Hid (Below w.heap.size w w')) ∨ (r = .returned .nilIface ∧ ∃ M, Hid (Tp L w w' X n M (lg + 1)) ∧ Hid ((dq M i).ops.length = k + 1 ∧ ∀ j, j ≠ i → dq M j = dq N j)) := by
  subst hk
  refine (h.nc.does (1, i, (dq N i).ops.length, c)).mono ?_
  rintro r w' ⟨hr, hn⟩
  rcases typ_step h.typ (i := i) (by rw [h.len]; exact hi) hk2 c with e | e | ⟨e, t, l1, l2, l3⟩
  · rw [e, errV_ne (by decide)] at hr
    exact Or.inl ⟨1, Or.inl rfl, hr, hn.out.bel⟩
  · rw [e, errV_ne (by decide)] at hr
    exact Or.inl ⟨8, Or.inr rfl, hr, hn.out.bel⟩
  · rw [e, errV_zero] at hr
    exact Or.inr ⟨hr, _, ⟨hn.out, t, l1.trans h.len, by rw [allO_step l2 l3, if_pos hi, h.lg']⟩, l2, l3⟩
theorem text_size {S : Dq} (I : Inv S) : (Lf.textR S.book).size = (seenP S.book).length := by
  unfold Lf.textR
  rw [if_pos I.book, seenP_len]; rfl

set_option maxRecDepth 100000 in
set_option maxHeartbeats 16000000 in
theorem walk (L : NetSays) (Q : NetSame L) (T : NetText L) (pt : Option Addr) (ct : Nat) (tx : List ByteArray) (w : World) (htx : TxtsIn w pt tx) (hsz : ∀ s ∈ tx, s.size ≤ maxLen) (hE : ET w) :
    Calls Tryz.prog 4 #[.slice pt tx.length ct] w fun e w' => e = .returned (.bool true) ∧ Below w.heap.size w w' := by
  have HTX := Hid.mk' htx
  have HSZ := Hid.mk' hsz
  have HE := Hid.mk' hE
  obtain ⟨n, hn⟩ : ∃ n, n = tx.length := ⟨_, rfl⟩
  have HN := Hid.mk' hn
  rw [← hn]
  clear htx hsz hE hn
  by_cases hb : n < 1 ∨ 4 < n
  · have C := L.none 0 w (Or.inl (by decide))
    rw [errV_ne (by decide)] at C
    have hway : (n : Int) < 1 ∨ ¬ (n : Int) < 1 ∧ (4 : Int) < n := by omega
    rcases hway with h1 | ⟨h1, h2⟩
    all_goals
      clear hb
      go_enter Tryz.func4, Tryz.ntmps4
      go_wp2_with fail
      refine C.mono ?_
      rintro e w1 ⟨rfl, hb1⟩
      have HB1 := Hid.mk' hb1
      have C1 := same_any 1 1 w1 (Kl.ET.below HE.out hb1)
      rw [errV_ne (by decide), show ((1 : Int) == 1) = true from rfl] at C1
      clear hb1 C
      go_wp2_with fail
      refine C1.mono ?_
      rintro e w2 ⟨rfl, hb2⟩
      have HB2 : Hid (Below w.heap.size w w2) := La.bel HB1.out hb2
      clear hb2 C1
      go_wp2_with fail
      go_ret
      exact ⟨rfl, HB2.out⟩
  · have hn1 : 1 ≤ n := by omega
    have hn4 : n ≤ 4 := by omega
    have h1z : ¬ (n : Int) < 1 := by omega
    have h4z : ¬ (4 : Int) < n := by omega
    have C := nc_new L (Below.refl _ w) hn1 hn4
    clear hb
    go_enter Tryz.func4, Tryz.ntmps4
    go_wp2_with fail
    refine C.mono ?_
    rintro e w1 ⟨X, rfl, H1⟩
    have HT1 : Hid (Tp L w w1 X n (nw n) 0) := ⟨H1.out, typ_nw hn4, by unfold nw; rw [List.length_replicate], (allO_none n (fun i _ => by rw [dq_nw]; rfl)).symm⟩
    have HO1 : Hid (∀ j, 0 ≤ j → (dq (nw n) j).ops = []) := fun j _ => by rw [dq_nw]; rfl
    clear C H1
    go_wp2_with fail
    go_loopw [8, 9] (fun v8 v9 wr => ∃ (i lg : Nat) (N : Nt), i ≤ n ∧ lg ≤ 20 * i ∧ v8 = .int .i64 lg ∧ v9 = .int .i64 i ∧ Hid (Tp L w wr X n N lg) ∧ Hid (∀ j, i ≤ j → (dq N j).ops = [])) (fun _ v9 _ => 5 - (intOf v9).toNat)
    case atStart => exact ⟨0, 0, nw n, by omega, by omega, rfl, rfl, HT1, HO1⟩
    case round =>
      clear HT1 HO1
      obtain ⟨i, lg, N, hin, hlg, rfl, rfl, HT, HO⟩ := hrel
      by_cases hi : i < n
      · have hiz : (i : Int) < n := by omega
        obtain ⟨b, o, rfl, hce⟩ := HTX.out.some (by intro e; have := HN.out; rw [e] at this; simp at this; omega)
        have hsm := HSZ.out (tx.getD i eT) (by rw [List.getD_eq_getElem?_getD, List.getElem?_eq_getElem (by rw [← HN.out]; exact hi)]; exact List.getElem_mem _)
        have hci := hce i (by rw [← HN.out]; exact hi)
        generalize tx.getD i eT = s at hsm hci
        have HCI := Hid.mk' hci
        have hs63 : s.size ≤ 9223372036854775807 := by unfold maxLen at hsm; omega
        have HK0 : Hid ((dq N i).ops.length = 0 ∧ ∀ j, i < j → (dq N j).ops = []) := ⟨by rw [HO.out i (Nat.le_refl _)]; rfl, fun j hj => HO.out j (by omega)⟩
        clear hce hci HO hsm
        go_wp2_with fail
        go_loopw [8, 10] (fun v8 v10 wr => ∃ (k lg : Nat) (N : Nt), k ≤ 20 ∧ k ≤ s.size ∧ lg ≤ 20 * i + k ∧ v8 = .int .i64 lg ∧ v10 = .int .i64 k ∧ Hid (Tp L w wr X n N lg) ∧ Hid ((dq N i).ops.length = k ∧ ∀ j, i < j → (dq N j).ops = [])) (fun _ v10 _ => 30 - (intOf v10).toNat)
        case atStart => exact ⟨0, lg, N, by omega, by omega, by omega, rfl, rfl, HT, HK0⟩
        case round =>
          clear HT HK0 hlg
          obtain ⟨k, lg, N, hk20, hks, hlg, rfl, rfl, HT, HK⟩ := hrel
          have ci := keep_cell HT.out.nc.bel HCI.out
          by_cases hc : k < s.size ∧ k < 20
          · obtain ⟨h1, h2⟩ := hc
            have hkz : (k : Int) < s.size := by omega
            have hk20z : (k : Int) < 20 := by omega
            have C := fun c => HT.out.type hi HK.out.1 h2 c
            go_wp2_with fail
            refine (C _).mono ?_
            rintro e w9 (⟨q, hq, rfl, HB9⟩ | ⟨rfl, M, HM, HMK⟩)
            · clear C HT HK ci
              rcases hq with rfl | rfl
              · have C1 := same_any 1 1 w9 (Kl.ET.below HE.out HB9.out)
                rw [errV_ne (by decide), show ((1 : Int) == 1) = true from rfl] at C1
                go_wp2_with fail
                refine C1.mono ?_
                rintro e w10 ⟨rfl, hb10⟩
                have HB10 : Hid (Below w.heap.size w w10) := La.bel HB9.out hb10
                clear C1 hb10
                go_wp2_with fail
                go_ret
                exact ⟨rfl, HB10.out⟩
              · have C1 := same_any 8 1 w9 (Kl.ET.below HE.out HB9.out)
                rw [errV_ne (by decide), show ((8 : Int) == 1) = false from rfl] at C1
                go_wp2_with fail
                refine C1.mono ?_
                rintro e w10 ⟨rfl, hb10⟩
                have HB10 : Hid (Below w.heap.size w w10) := La.bel HB9.out hb10
                have C2 := same_any 8 8 w10 (Kl.ET.below HE.out HB10.out)
                rw [errV_ne (by decide), show ((8 : Int) == 8) = true from rfl] at C2
                clear C1 hb10
                go_wp2_with fail
                refine C2.mono ?_
                rintro e w11 ⟨rfl, hb11⟩
                have HB11 : Hid (Below w.heap.size w w11) := La.bel HB10.out hb11
                clear C2 hb11
                go_wp2_with fail
                go_ret
                exact ⟨rfl, HB11.out⟩
            · have HK2 : Hid ((dq M i).ops.length = k + 1 ∧ ∀ j, i < j → (dq M j).ops = []) := ⟨HMK.out.1, fun j hj => by rw [HMK.out.2 j (by omega)]; exact HK.out.2 j hj⟩
              clear C HT HK HMK ci
              go_wp2_with fail
              go_roundw
              case rel => exact ⟨k + 1, lg + 1, M, by omega, by omega, by omega, by go_num, by go_num, HM, HK2⟩
              case measure => simp [intOf]; omega
          · go_upto_region 13 with fail
            go_cut [51] from 41 to 75 (fun s9 wx => s9 = .bool false ∧ wr = wx)
            case first =>
              by_cases h1 : k < s.size
              · have hkz : (k : Int) < s.size := by omega
                have hk20z : ¬ (k : Int) < 20 := by omega
                clear hc h1
                go_wp2_with fail
                go_meet
                case rel => exact ⟨by first | rfl | simp [hk20z], rfl⟩
              · have hkz : ¬ (k : Int) < s.size := by omega
                clear hc h1
                go_wp2_with fail
                go_meet
                case rel => exact ⟨by first | rfl | simp [hkz], rfl⟩
            case rest =>
              obtain ⟨rfl, hwx⟩ := hcut
              subst hwx
              have HO2 : Hid (∀ j, i + 1 ≤ j → (dq N j).ops = []) := fun j hj => HK.out.2 j (by omega)
              clear hc HK ci
              go_wp2_with fail
              go_roundw
              case rel => exact ⟨i + 1, lg, N, by omega, by omega, rfl, by go_num, HT, HO2⟩
              case measure => simp [intOf]; omega
      · have hiz : ¬ (i : Int) < n := by omega
        have HLG := Hid.mk' HT.out.lg'
        have HTY := Hid.mk' HT.out.typ
        have HLN := Hid.mk' HT.out.len
        have HNC := Hid.mk' HT.out.nc
        have hlgb : lg ≤ 80 := by omega
        clear HT HO
        obtain ⟨N0, hN0⟩ : ∃ N0, N0 = N := ⟨_, rfl⟩
        have HS0 : Hid (Sent N0 N 0 0) := by rw [Hid, hN0]; exact Sent.start HTY.out.gl HTY.out.us
        rw [← hN0] at HLG HTY HLN
        clear hN0
        go_wp2_with fail
        go_loopw [12] (fun v12 wr => ∃ (i : Nat) (N : Nt), i ≤ n ∧ v12 = .int .i64 i ∧ Hid (Nc L w wr X N) ∧ Hid (Sent N0 N i 0)) (fun v12 _ => 5 - (intOf v12).toNat)
        case atStart => exact ⟨0, N, by omega, rfl, HNC, HS0⟩
        case round =>
          clear HNC HS0
          obtain ⟨i, N, hin, rfl, HNC, HS⟩ := hrel
          by_cases hi : i < n
          · have hiz : (i : Int) < n := by omega
            go_wp2_with fail
            go_loopw [13] (fun v13 wr => ∃ (j : Nat) (N : Nt), j ≤ n ∧ v13 = .int .i64 j ∧ Hid (Nc L w wr X N) ∧ Hid (Sent N0 N i j)) (fun v13 _ => 5 - (intOf v13).toNat)
            case atStart => exact ⟨0, N, by omega, rfl, HNC, HS⟩
            case round =>
              clear HNC HS
              obtain ⟨j, N, hjn, rfl, HNC, HS⟩ := hrel
              have HNL : Hid (N.ds.length = n) := HS.out.len.trans HLN.out
              by_cases hj : j < n
              · have hjz : (j : Int) < n := by omega
                by_cases hij : i = j
                · subst hij
                  have HS2 : Hid (Sent N0 N i (i + 1)) := HS.out.skip
                  clear HS
                  go_wp2_with fail
                  go_roundw
                  case rel => exact ⟨i + 1, N, by omega, by go_num, HNC, HS2⟩
                  case measure => simp [intOf]; omega
                · have hijz : ¬ (i : Int) = (j : Int) := by omega
                  have hijb : ((i : Int) == (j : Int)) = false := by simpa using hijz
                  have hi2 : i < N.ds.length := by rw [HNL.out]; exact hi
                  have hj2 : j < N.ds.length := by rw [HNL.out]; exact hj
                  have h0 := typ_send HTY.out HS.out hi2 hj2
                  have C := HNC.out.pair HS.out.us hi2 hj2 hij
                  have HS2 : Hid (Sent N0 (Hc.pair N i j) i (j + 1)) := HS.out.pair hi2 hj2 h0
                  rw [h0] at C
                  clear HS HNC h0 hi2 hj2
                  go_wp2_with fail
                  refine C.mono ?_
                  rintro e w9 ⟨rfl, M, H9, HM⟩
                  have C2 := H9.out.does d1
                  rw [HM.out.1, HM.out.2, errV_zero] at C2
                  clear C HM H9
                  go_wp2_with fail
                  refine C2.mono ?_
                  rintro e w10 ⟨rfl, H10⟩
                  clear C2
                  go_wp2_with fail
                  go_roundw
                  case rel => exact ⟨j + 1, _, by omega, by go_num, H10, HS2⟩
                  case measure => simp [intOf]; omega
              · have hjz : ¬ (j : Int) < n := by omega
                have HS2 : Hid (Sent N0 N (i + 1) 0) := HS.out.next (by rw [HNL.out]; omega)
                clear HS
                go_wp2_with fail
                go_roundw
                case rel => exact ⟨i + 1, N, by omega, by go_num, HNC, HS2⟩
                case measure => simp [intOf]; omega
          · have hiz : ¬ (i : Int) < n := by omega
            have HNL : Hid (N.ds.length = n) := HS.out.len.trans HLN.out
            have hl0 : 0 < N.ds.length := by rw [HNL.out]; omega
            have hsm := same_sent HS.out (by rw [HNL.out]; omega)
            have hend := typ_end HTY.out HS.out (by rw [HNL.out]; omega) hl0
            have hsz := text_size (HS.out.gl.inv 0 hl0).1
            rw [hend, HLN.out, ← HLG.out] at hsz
            obtain ⟨F, hat, hlow⟩ := HNC.out.at'
            have C := T.text X N F 0 _ hat HNC.out.gl
            rw [if_neg (by unfold out; omega), if_neg (by unfold out; omega), errV_zero] at C
            have C' : Calls Tryz.prog 12 #[Hd.ptr X, .int .i64 0] wr fun e w' => e = .returned (.tuple #[.string (Lf.textR (dq N 0).book), .nilIface]) ∧ Below wr.heap.size wr w' := C
            generalize Lf.textR (dq N 0).book = ts at C' hsz
            clear C hat hlow hend
            go_wp2_with fail
            refine C'.mono ?_
            rintro e w9 ⟨rfl, hb9⟩
            have H9 := Hid.mk' (HNC.out.below hb9)
            have C2 := H9.out.same Q (by omega)
            rw [hsm] at C2
            have hszz : ((ts.size : Int) == (lg : Int)) = true := by rw [hsz]; simp
            clear C' hb9 HNC hsm hsz hl0
            go_wp2_with fail
            refine C2.mono ?_
            rintro e w10 ⟨rfl, H10⟩
            clear C2 H9
            go_wp2_with fail
            go_ret
            exact ⟨by first | rfl | simp [hszz], H10.out.bel⟩

end Hg
end Go.Proofs.YtlmdchpbpgcfmaaGreatDoor
