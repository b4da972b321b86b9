/- TopTogether's walk: what is asked of package net is a premise here. -/
import Derived.Test.YtlmdchpbpgcfmaaGreatDoorGm
import Derived.Test.YtlmdchpbpgcfmaaGreatDoorT2
import Derived.Test.YtlmdchpbpgcfmaaGreatDoorK0
import Derived.Test.YtlmdchpbpgcfmaaGreatDoorJ14
import Derived.Deep.DeepCutAuto
import Derived.Deep.RegionHeld3
import Derived.IntWalk
namespace Go.Proofs.YtlmdchpbpgcfmaaGreatDoor
namespace Gn
set_option linter.unusedVariables false
set_option linter.unusedSimpArgs false
open Go.ChangeShapes Go.WideShapes Go.ChangeAt Go.RowKit Cm Ka Kb Na Om Oa Oz Oc Og Oi Hm Ia Ic Ie Aa Hc Hd Hh Gm Kt Kl
open La (bel_drew errV_zero errV_ne own_ge own_grow own_below Lies)

theorem infoS : (Tryz.prog.info? 9).map (fun i => (i.zero, i.size, i.bytes)) = some (some (.string ByteArray.empty), 1, 16) := by kernel_rfl
theorem text_new (w : World) (d : ByteArray) : ∀ j y, [Value.string d][j]? = some y → (w.alloc (.cells #[.string d] 9)).cell? ((⟨w.heap.size, 0, none⟩ : Addr).add j) = some y := by
  intro j y hu
  have h2 := heap_alloc_new w (.cells #[.string d] 9)
  rw [Addr.add_lit, Nat.zero_add]
  simp only [World.cell?, h2]
  simpa using hu
theorem row_of {B k : Nat} {w : World} {v : Value} {l : List ByteArray} {x : ByteArray} (hl : l.length = k) (h : w.ownsRow B 9 1 v (k + 1) (l.map Value.string ++ [.string x])) : RowT B w v (l ++ [x]) := by
  unfold RowT
  rw [List.length_append, List.map_append, hl]
  exact h
theorem half_wrap {h : Nat} (hm : h ≤ maxLen) : wrap64 (h : Int) = (h : Int) := by
  have h2 : (h : Int) ≤ 9223372036854775807 := by unfold maxLen at hm; omega
  exact IntWalk.wrap64_in _ ⟨by omega, h2⟩
/- what stands where a cursor is held -/
set_option maxRecDepth 100000 in
set_option maxHeartbeats 16000000 in
theorem walk (L : NetSays) (U : NetUnder L) (Q : NetSame L) (DD : NetDoc L) (nn : Int) (pe : Option Addr) (ce : Nat) (evs : List Ev) (vc : Value) (cs : List Int) (w : World) (hev : EvsIn w pe evs) (hem : evs.length ≤ maxLen) (hcs : KnAt w vc cs) (hE : ET w) :
    Calls Tryz.prog 5 #[.int .i64 nn, .slice pe evs.length ce, vc] w fun e w' => e = .returned (.bool true) ∧ Below w.heap.size w w' := by
  obtain ⟨i0, hi0, hz0, hz1, hz2⟩ := info_parts infoS
  have HEV := Hid.mk' hev
  have HE := Hid.mk' hE
  obtain ⟨ne, hne⟩ : ∃ ne, ne = evs.length := ⟨_, rfl⟩
  have HNE := Hid.mk' hne
  obtain ⟨pc, cc, rfl, hci⟩ := hcs
  have HCI := Hid.mk' hci
  obtain ⟨nc, hnc⟩ : ∃ nc, nc = cs.length := ⟨_, rfl⟩
  have HNC := Hid.mk' hnc
  rw [← hne, ← hnc]
  obtain ⟨hf, hhf⟩ : ∃ hf : Nat, hf = ne / 2 := ⟨_, rfl⟩
  have hq1 : Int.tdiv (ne : Int) 2 = (hf : Int) := by rw [hhf]; rfl
  have hq2 : (ne : Int) / 2 = (hf : Int) := by omega
  have HQ3 : Hid (wrap64 (hf : Int) = (hf : Int)) := half_wrap (by rw [hhf]; exact Nat.le_trans (Nat.div_le_self _ _) (by rw [hne]; exact hem))
  have HHF : Hid (hf ≤ ne) := by rw [Hid]; omega
  have C0 := Yh.one_any w
  clear hev hE hne hci hnc hhf hem
  go_enter Tryz.func5, Tryz.ntmps5
  go_wp2_with fail
  refine C0.mono ?_
  rintro e w6 ⟨rfl, hb6⟩
  have HB6 := Hid.mk' hb6
  clear C0 hb6
  by_cases hn : nn < 1 ∨ 4 < nn
  · have C := L.none nn w6 hn
    rw [errV_ne (by decide)] at C
    by_cases h1 : nn < 1
    · go_wp2_with fail
      refine C.mono ?_
      rintro e w7 ⟨rfl, hb7⟩
      have HB7 : Hid (Below w.heap.size w w7) := La.bel HB6.out hb7
      clear hb7 C
      go_wp2_with fail
      go_ret
      exact ⟨rfl, HB7.out⟩
    · have h2 : 4 < nn := by omega
      go_wp2_with fail
      refine C.mono ?_
      rintro e w7 ⟨rfl, hb7⟩
      have HB7 : Hid (Below w.heap.size w w7) := La.bel HB6.out hb7
      clear hb7 C
      go_wp2_with fail
      go_ret
      exact ⟨rfl, HB7.out⟩
  · obtain ⟨n, rfl⟩ : ∃ n : Nat, nn = n := ⟨nn.toNat, by omega⟩
    have hn1 : 1 ≤ n := by omega
    have hn4 : n ≤ 4 := by omega
    have C := nc_new L HB6.out hn1 hn4
    clear hn
    go_wp2_with fail
    refine C.mono ?_
    rintro e w7 ⟨X, rfl, H7⟩
    clear C
    go_wp2_with fail
    rw [HQ3.out]
    go_loopw [11] (fun v11 wr => ∃ (k : Nat) (N : Nt), k ≤ hf ∧ k ≤ 40 ∧ v11 = .int .i64 k ∧ Hid (Nc L w wr X N) ∧ Hid (N.ds.length = n)) (fun v11 _ => 50 - (intOf v11).toNat)
    case atStart => exact ⟨0, nw n, by omega, by omega, rfl, H7, by rw [Hid]; unfold nw; rw [List.length_replicate]⟩
    case round =>
      clear H7
      obtain ⟨k, N, hk, hk40, rfl, HN, HL⟩ := hrel
      by_cases hc : k < hf ∧ k < 40
      · obtain ⟨h1, h2⟩ := hc
        have h1z : (k : Int) < hf := by omega
        have h2z : (k : Int) < 40 := by omega
        have hkn : k < ne := by have := HHF.out; omega
        have hknz : (k : Int) < ne := by omega
        obtain ⟨b, o, rfl, hce⟩ := HEV.out.some (j := k) (by rw [← HNE.out]; exact hkn)
        obtain ⟨c0, c1, c2, c3⟩ := hce wr HN.out.bel
        have C := HN.out.does (evs.getD k (0, 0, 0, 0))
        have HL2 : Hid ((evS N (evs.getD k (0, 0, 0, 0))).ds.length = n) := by rw [Hid, (HN.out.gl.ev _).2]; exact HL.out
        generalize evs.getD k (0, 0, 0, 0) = ev at c0 c1 c2 c3 C HL2
        obtain ⟨e1, e2, e3, e4⟩ := ev
        simp only at c0 c1 c2 c3
        generalize errV (evE N (e1, e2, e3, e4)) = er at C
        clear hce HN
        go_wp2_with fail
        refine C.mono ?_
        rintro e w8 ⟨rfl, H8⟩
        clear C c0 c1 c2 c3
        go_wp2_with fail
        go_roundw
        case rel => exact ⟨k + 1, _, by omega, by omega, by go_num, H8, HL2⟩
        case measure => simp [intOf]; omega
      · go_upto_region 9 with fail
        go_cut [60] from 54 to 69 (fun s9 wx => s9 = .bool false ∧ wr = wx)
        case first =>
          by_cases h1 : k < hf
          · have h1z : (k : Int) < hf := by omega
            have h2z : ¬ (k : Int) < 40 := by omega
            clear hc h1
            go_wp2_with fail
            go_meet
            case rel => exact ⟨by first | rfl | simp [h2z], rfl⟩
          · have h1z : ¬ (k : Int) < hf := by omega
            clear hc h1
            go_wp2_with fail
            go_meet
            case rel => exact ⟨by first | rfl | simp [h1z], rfl⟩
        case rest =>
          obtain ⟨rfl, hwx⟩ := hcut
          subst hwx
          have HTM := Hid.mk' (tm_of HN.out)
          clear hc HN
          go_wp2_with fail
          go_loopw [12, 13, 14] (fun v12 v13 v14 wx => ∃ (k : Nat) (hs ls : List ByteArray) (ph : Option Addr) (ch : Nat) (pl : Option Addr) (cl : Nat), k ≤ n ∧ v14 = .int .i64 k ∧ v12 = .slice ph k ch ∧ v13 = .slice pl k cl ∧ Hid (Tm L w wx X N (.slice ph k ch) (.slice pl k cl) hs ls) ∧ Hid (Pu N n hs ls) ∧ Hid (hs.length = k ∧ ls.length = k)) (fun _ _ v14 _ => 5 - (intOf v14).toNat)
          case atStart => exact ⟨0, [], [], none, 0, none, 0, by omega, rfl, rfl, rfl, HTM, pu_nil HL.out, ⟨rfl, rfl⟩⟩
          case round =>
            clear HTM
            obtain ⟨k, hs, ls, ph, ch, pl, cl, hkn, rfl, rfl, rfl, HT, HPU, HLH⟩ := hrel
            by_cases hk : k < n
            · have hkz : (k : Int) < n := by omega
              have HMX : Hid ((Lf.textR (dq N k).book).size ≤ 300) := by
                rw [Hid]
                have hI := (HT.out.gl.inv k (by rw [HPU.out.len]; exact hk)).1
                rw [Ca.textR_size hI.book]; exact Ca.text_300 hI.book
              have C1 := HT.out.doc DD (i := k) (by rw [HPU.out.len]; exact hk)
              clear HT
              go_wp2_with fail
              refine C1.mono ?_
              rintro e w1 ⟨D, Fd, rfl, hd, ht⟩
              have HD := Hid.mk' hd
              have HT := Hid.mk' ht
              clear C1 hd ht
              by_cases hkc : k < nc
              · have hkcz : (k : Int) < nc := by omega
                obtain ⟨bc, oc, rfl, hcc⟩ : ∃ b o, pc = some ⟨b, o, none⟩ ∧ ∀ j, j < cs.length → w.cell? ⟨b, o + j, none⟩ = some (.int .i64 (cs.getD j 0)) := by
                  rcases HCI.out with e9 | h9
                  · exfalso; have := HNC.out; rw [e9] at this; simp at this; omega
                  · exact h9
                have xc := keep_cell HT.out.bel (hcc k (by rw [← HNC.out]; exact hkc))
                generalize cs.getD k 0 = f at xc
                clear hcc
                have C2 := Il.book_get D (dq N k) Fd w1 HD.out
                have HIV : Hid (Inv (dq N k)) := HD.out.inv
                go_wp2_with fail
                refine C2.mono ?_
                rintro e w2 ⟨v2, rfl, hk2, hb2⟩
                obtain ⟨p2, n2, c2, rfl⟩ : ∃ p n c, v2 = .slice p n c := by obtain ⟨p, c, e, _⟩ := hk2.1; exact ⟨_, _, _, e⟩
                have C3 := Ca.anchor_any (.slice p2 n2 c2) (dq N k).book f w2 hk2.1 (small_book HIV.out.book)
                have HD2 := Hid.mk' (HD.out.below hb2)
                have HT2 := Hid.mk' (HT.out.below hb2)
                clear C2 hk2 hb2 HD HT
                by_cases hp : (Ca.anchR (dq N k).book f).size = 0
                · have hpn : Ca.anchR (dq N k).book f = ⟨#[]⟩ := Ca.size_nil hp
                  rw [hpn] at C3
                  generalize Ca.anchE (dq N k).book f = ae at C3
                  clear hp hpn
                  by_cases hae : ae = 0
                  · subst hae
                    rw [errV_zero] at C3
                    go_wp2_with fail
                    refine C3.mono ?_
                    rintro e w3 ⟨rfl, hb3⟩
                    have C4 := Il.text_get D (dq N k) Fd w3 (HD2.out.below hb3)
                    have HT3 := Hid.mk' (HT2.out.below hb3)
                    clear C3 hb3 HD2 HT2
                    generalize Lf.textR (dq N k).book = T at C4
                    go_wp2_with fail
                    refine C4.mono ?_
                    rintro e w4 ⟨rfl, hb4⟩
                    have HT4 := Hid.mk' (HT3.out.below hb4)
                    clear C4 hb4 HT3
                    have HTA := Hid.mk' HT4.out
                    have HHO : Hid (Hold (dq N k) (⟨#[]⟩ : ByteArray) (⟨#[]⟩ : ByteArray) ∧ ((⟨#[]⟩ : ByteArray)).size ≤ 12) := ⟨Or.inl rfl, Nat.zero_le _⟩
                    have HBW : Hid (w.heap.size ≤ w4.heap.size) := HTA.out.bel.size
                    have HBA : Hid (Below w4.heap.size w4 (w4.alloc (.cells #[.string (⟨#[]⟩ : ByteArray)] 9))) := (Below.refl _ _).alloc (Nat.le_refl _) _
                    have HOA : Hid ((w4.alloc (.cells #[.string (⟨#[]⟩ : ByteArray)] 9)).ownsRow w.heap.size 9 1 (.slice ph k ch) k (hs.map Value.string)) := by have h9 := own_below HTA.out.rh HBA.out; rw [HLH.out.1] at h9; exact h9
                    have HTN := Hid.mk' (text_new w4 (⟨#[]⟩ : ByteArray))
                    go_wp2_with (first | (at_builtin; refine wpList_append_own_at _ rfl (.tmp 108) (.tmp 110) 35 rfl w.heap.size 9 i0 (.string ByteArray.empty) 1 16 Tryz.underlying35 hi0 hz0 hz1 hz2 rfl (by decide) (.slice ph k ch) k (hs.map Value.string) rfl HOA.out ⟨w4.heap.size, 0, none⟩ 1 1 [.string (⟨#[]⟩ : ByteArray)] rfl rfl HTN.out (fun u hu => by obtain rfl := List.mem_singleton.1 hu; exact rfl) (by unfold maxLen; omega) (by omega) (Nat.le_trans HBW.out HBA.out.size) ?_; intro v' wb hown' hgrow _ hat; obtain ⟨p9, n9, c9, rfl, HS9⟩ := own_shape hown'; have HT1 : Hid (Tm L w wb X N (.slice p9 n9 c9) (.slice pl k cl) (hs ++ [(⟨#[]⟩ : ByteArray)]) ls) := HTA.out.put HBA.out (row_of HLH.out.1 hown') hgrow hat; have HBW2 : Hid (w.heap.size ≤ wb.heap.size) := HT1.out.bel.size; have HBA2 : Hid (Below wb.heap.size wb (wb.alloc (.cells #[.string (⟨#[]⟩ : ByteArray)] 9))) := (Below.refl _ _).alloc (Nat.le_refl _) _; have HOA2 : Hid ((wb.alloc (.cells #[.string (⟨#[]⟩ : ByteArray)] 9)).ownsRow w.heap.size 9 1 (.slice pl k cl) k (ls.map Value.string)) := (by have h9 := own_below HT1.out.rl HBA2.out; rw [HLH.out.2] at h9; exact h9); have HTN2 := Hid.mk' (text_new wb (⟨#[]⟩ : ByteArray)); clear hown' hgrow hat) | (at_builtin; refine wpList_append_own_at _ rfl (.tmp 112) (.tmp 114) 35 rfl w.heap.size 9 i0 (.string ByteArray.empty) 1 16 Tryz.underlying35 hi0 hz0 hz1 hz2 rfl (by decide) (.slice pl k cl) k (ls.map Value.string) rfl HOA2.out ⟨wb.heap.size, 0, none⟩ 1 1 [.string (⟨#[]⟩ : ByteArray)] rfl rfl HTN2.out (fun u hu => by obtain rfl := List.mem_singleton.1 hu; exact rfl) (by unfold maxLen; omega) (by omega) (Nat.le_trans HBW2.out HBA2.out.size) ?_; intro v' wc hown' hgrow _ hat; obtain ⟨p8, n8, c8, rfl, HS8⟩ := own_shape hown'; have HT2 : Hid (Tm L w wc X N (.slice p9 n9 c9) (.slice p8 n8 c8) (hs ++ [(⟨#[]⟩ : ByteArray)]) (ls ++ [(⟨#[]⟩ : ByteArray)])) := (HT1.out.swap.put HBA2.out (row_of HLH.out.2 hown') hgrow hat).swap; clear hown' hgrow hat))
                    have e9 := HS9.out
                    have e8 := HS8.out
                    subst e9 e8
                    go_roundw
                    case rel => exact ⟨k + 1, _, _, p9, c9, p8, c8, by omega, by go_num, rfl, rfl, HT2, HPU.out.push (by rw [HLH.out.1]; exact hk) (by rw [HLH.out.1]; exact HHO.out.1) HHO.out.2, by rw [Hid, List.length_append, List.length_append, HLH.out.1, HLH.out.2]; exact ⟨rfl, rfl⟩⟩
                    case measure => simp [intOf]; omega
                  · rw [errV_ne hae] at C3
                    clear hae
                    go_wp2_with fail
                    refine C3.mono ?_
                    rintro e w3 ⟨rfl, hb3⟩
                    have C4 := Il.text_get D (dq N k) Fd w3 (HD2.out.below hb3)
                    have HT3 := Hid.mk' (HT2.out.below hb3)
                    clear C3 hb3 HD2 HT2
                    generalize Lf.textR (dq N k).book = T at C4
                    go_wp2_with fail
                    refine C4.mono ?_
                    rintro e w4 ⟨rfl, hb4⟩
                    have HT4 := Hid.mk' (HT3.out.below hb4)
                    clear C4 hb4 HT3
                    have HTA := Hid.mk' HT4.out
                    have HHO : Hid (Hold (dq N k) (⟨#[]⟩ : ByteArray) (⟨#[]⟩ : ByteArray) ∧ ((⟨#[]⟩ : ByteArray)).size ≤ 12) := ⟨Or.inl rfl, Nat.zero_le _⟩
                    have HBW : Hid (w.heap.size ≤ w4.heap.size) := HTA.out.bel.size
                    have HBA : Hid (Below w4.heap.size w4 (w4.alloc (.cells #[.string (⟨#[]⟩ : ByteArray)] 9))) := (Below.refl _ _).alloc (Nat.le_refl _) _
                    have HOA : Hid ((w4.alloc (.cells #[.string (⟨#[]⟩ : ByteArray)] 9)).ownsRow w.heap.size 9 1 (.slice ph k ch) k (hs.map Value.string)) := by have h9 := own_below HTA.out.rh HBA.out; rw [HLH.out.1] at h9; exact h9
                    have HTN := Hid.mk' (text_new w4 (⟨#[]⟩ : ByteArray))
                    go_wp2_with (first | (at_builtin; refine wpList_append_own_at _ rfl (.tmp 108) (.tmp 110) 35 rfl w.heap.size 9 i0 (.string ByteArray.empty) 1 16 Tryz.underlying35 hi0 hz0 hz1 hz2 rfl (by decide) (.slice ph k ch) k (hs.map Value.string) rfl HOA.out ⟨w4.heap.size, 0, none⟩ 1 1 [.string (⟨#[]⟩ : ByteArray)] rfl rfl HTN.out (fun u hu => by obtain rfl := List.mem_singleton.1 hu; exact rfl) (by unfold maxLen; omega) (by omega) (Nat.le_trans HBW.out HBA.out.size) ?_; intro v' wb hown' hgrow _ hat; obtain ⟨p9, n9, c9, rfl, HS9⟩ := own_shape hown'; have HT1 : Hid (Tm L w wb X N (.slice p9 n9 c9) (.slice pl k cl) (hs ++ [(⟨#[]⟩ : ByteArray)]) ls) := HTA.out.put HBA.out (row_of HLH.out.1 hown') hgrow hat; have HBW2 : Hid (w.heap.size ≤ wb.heap.size) := HT1.out.bel.size; have HBA2 : Hid (Below wb.heap.size wb (wb.alloc (.cells #[.string (⟨#[]⟩ : ByteArray)] 9))) := (Below.refl _ _).alloc (Nat.le_refl _) _; have HOA2 : Hid ((wb.alloc (.cells #[.string (⟨#[]⟩ : ByteArray)] 9)).ownsRow w.heap.size 9 1 (.slice pl k cl) k (ls.map Value.string)) := (by have h9 := own_below HT1.out.rl HBA2.out; rw [HLH.out.2] at h9; exact h9); have HTN2 := Hid.mk' (text_new wb (⟨#[]⟩ : ByteArray)); clear hown' hgrow hat) | (at_builtin; refine wpList_append_own_at _ rfl (.tmp 112) (.tmp 114) 35 rfl w.heap.size 9 i0 (.string ByteArray.empty) 1 16 Tryz.underlying35 hi0 hz0 hz1 hz2 rfl (by decide) (.slice pl k cl) k (ls.map Value.string) rfl HOA2.out ⟨wb.heap.size, 0, none⟩ 1 1 [.string (⟨#[]⟩ : ByteArray)] rfl rfl HTN2.out (fun u hu => by obtain rfl := List.mem_singleton.1 hu; exact rfl) (by unfold maxLen; omega) (by omega) (Nat.le_trans HBW2.out HBA2.out.size) ?_; intro v' wc hown' hgrow _ hat; obtain ⟨p8, n8, c8, rfl, HS8⟩ := own_shape hown'; have HT2 : Hid (Tm L w wc X N (.slice p9 n9 c9) (.slice p8 n8 c8) (hs ++ [(⟨#[]⟩ : ByteArray)]) (ls ++ [(⟨#[]⟩ : ByteArray)])) := (HT1.out.swap.put HBA2.out (row_of HLH.out.2 hown') hgrow hat).swap; clear hown' hgrow hat))
                    have e9 := HS9.out
                    have e8 := HS8.out
                    subst e9 e8
                    go_roundw
                    case rel => exact ⟨k + 1, _, _, p9, c9, p8, c8, by omega, by go_num, rfl, rfl, HT2, HPU.out.push (by rw [HLH.out.1]; exact hk) (by rw [HLH.out.1]; exact HHO.out.1) HHO.out.2, by rw [Hid, List.length_append, List.length_append, HLH.out.1, HLH.out.2]; exact ⟨rfl, rfl⟩⟩
                    case measure => simp [intOf]; omega
                · obtain ⟨q1, q2, q3, q4, q5⟩ := hold_new HIV.out hp
                  obtain ⟨m, hm⟩ : ∃ m : Nat, f = m := ⟨f.toNat, by omega⟩
                  subst hm
                  rw [Int.toNat_natCast] at q3 q5
                  rw [q1, errV_zero] at C3
                  have HQ := Hid.mk' q5
                  have HQ4 := Hid.mk' q4
                  obtain ⟨P, hP⟩ : ∃ P, P = Ca.anchR (dq N k).book (m : Int) := ⟨_, rfl⟩
                  rw [← hP] at C3 hp HQ HQ4
                  have hne := Ca.ne_nil hp
                  have hnb : (P.toList == []) = false := by cases h9 : P.toList; rw [h9] at hne; cases hne; rfl
                  clear hP q1 q2 q4 q5
                  go_wp2_with fail
                  refine C3.mono ?_
                  rintro e w3 ⟨rfl, hb3⟩
                  have C4 := Il.text_get D (dq N k) Fd w3 (HD2.out.below hb3)
                  have HT3 := Hid.mk' (HT2.out.below hb3)
                  clear C3 hb3 HD2 HT2
                  generalize Lf.textR (dq N k).book = T at C4 q3 HQ HMX
                  have hT1 : (m : Int) + 1 ≤ (T.size : Int) := by omega
                  have hT2 : (m : Int) ≤ (T.size : Int) := by omega
                  have hT3 : m + 1 ≤ T.size := by omega
                  have hT4 : m ≤ T.size := by omega
                  have hTm : m ≤ 1000 := by have := HMX.out; omega
                  have hT5 : (0 : Int) ≤ (m : Int) := by omega
                  have hT6 : (m : Int) ≤ ((m + 1 : Nat) : Int) := by omega
                  have hwr : IntKind.i64.wrap ((m : Int) + 1) = ((m + 1 : Nat) : Int) := by rw [wrap_in (by omega) (by omega)]; omega
                  go_wp2_with fail
                  refine C4.mono ?_
                  rintro e w4 ⟨rfl, hb4⟩
                  have HT4 := Hid.mk' (HT3.out.below hb4)
                  clear C4 hb4 HT3
                  have HTA := Hid.mk' HT4.out
                  have HHO : Hid (Hold (dq N k) P (T.extract m (m + 1)) ∧ (P).size ≤ 12) := ⟨HQ.out, HQ4.out⟩
                  have HBW : Hid (w.heap.size ≤ w4.heap.size) := HTA.out.bel.size
                  have HBA : Hid (Below w4.heap.size w4 (w4.alloc (.cells #[.string P] 9))) := (Below.refl _ _).alloc (Nat.le_refl _) _
                  have HOA : Hid ((w4.alloc (.cells #[.string P] 9)).ownsRow w.heap.size 9 1 (.slice ph k ch) k (hs.map Value.string)) := by have h9 := own_below HTA.out.rh HBA.out; rw [HLH.out.1] at h9; exact h9
                  have HTN := Hid.mk' (text_new w4 P)
                  go_wp2_with (first | (at_builtin; refine wpList_append_own_at _ rfl (.tmp 108) (.tmp 110) 35 rfl w.heap.size 9 i0 (.string ByteArray.empty) 1 16 Tryz.underlying35 hi0 hz0 hz1 hz2 rfl (by decide) (.slice ph k ch) k (hs.map Value.string) rfl HOA.out ⟨w4.heap.size, 0, none⟩ 1 1 [.string P] rfl rfl HTN.out (fun u hu => by obtain rfl := List.mem_singleton.1 hu; exact rfl) (by unfold maxLen; omega) (by omega) (Nat.le_trans HBW.out HBA.out.size) ?_; intro v' wb hown' hgrow _ hat; obtain ⟨p9, n9, c9, rfl, HS9⟩ := own_shape hown'; have HT1 : Hid (Tm L w wb X N (.slice p9 n9 c9) (.slice pl k cl) (hs ++ [P]) ls) := HTA.out.put HBA.out (row_of HLH.out.1 hown') hgrow hat; have HBW2 : Hid (w.heap.size ≤ wb.heap.size) := HT1.out.bel.size; have HBA2 : Hid (Below wb.heap.size wb (wb.alloc (.cells #[.string (T.extract m (m + 1))] 9))) := (Below.refl _ _).alloc (Nat.le_refl _) _; have HOA2 : Hid ((wb.alloc (.cells #[.string (T.extract m (m + 1))] 9)).ownsRow w.heap.size 9 1 (.slice pl k cl) k (ls.map Value.string)) := (by have h9 := own_below HT1.out.rl HBA2.out; rw [HLH.out.2] at h9; exact h9); have HTN2 := Hid.mk' (text_new wb (T.extract m (m + 1))); clear hown' hgrow hat) | (at_builtin; refine wpList_append_own_at _ rfl (.tmp 112) (.tmp 114) 35 rfl w.heap.size 9 i0 (.string ByteArray.empty) 1 16 Tryz.underlying35 hi0 hz0 hz1 hz2 rfl (by decide) (.slice pl k cl) k (ls.map Value.string) rfl HOA2.out ⟨wb.heap.size, 0, none⟩ 1 1 [.string (T.extract m (m + 1))] rfl rfl HTN2.out (fun u hu => by obtain rfl := List.mem_singleton.1 hu; exact rfl) (by unfold maxLen; omega) (by omega) (Nat.le_trans HBW2.out HBA2.out.size) ?_; intro v' wc hown' hgrow _ hat; obtain ⟨p8, n8, c8, rfl, HS8⟩ := own_shape hown'; have HT2 : Hid (Tm L w wc X N (.slice p9 n9 c9) (.slice p8 n8 c8) (hs ++ [P]) (ls ++ [(T.extract m (m + 1))])) := (HT1.out.swap.put HBA2.out (row_of HLH.out.2 hown') hgrow hat).swap; clear hown' hgrow hat))
                  have e9 := HS9.out
                  have e8 := HS8.out
                  subst e9 e8
                  go_roundw
                  case rel => exact ⟨k + 1, _, _, p9, c9, p8, c8, by omega, by go_num, rfl, rfl, HT2, HPU.out.push (by rw [HLH.out.1]; exact hk) (by rw [HLH.out.1]; exact HHO.out.1) HHO.out.2, by rw [Hid, List.length_append, List.length_append, HLH.out.1, HLH.out.2]; exact ⟨rfl, rfl⟩⟩
                  case measure => simp [intOf]; omega
              · have hkcz : ¬ (k : Int) < nc := by omega
                have C2 := Il.book_get D (dq N k) Fd w1 HD.out
                have HIV : Hid (Inv (dq N k)) := HD.out.inv
                go_wp2_with fail
                refine C2.mono ?_
                rintro e w2 ⟨v2, rfl, hk2, hb2⟩
                obtain ⟨p2, n2, c2, rfl⟩ : ∃ p n c, v2 = .slice p n c := by obtain ⟨p, c, e, _⟩ := hk2.1; exact ⟨_, _, _, e⟩
                have C3 := Ca.anchor_any (.slice p2 n2 c2) (dq N k).book (0 : Int) w2 hk2.1 (small_book HIV.out.book)
                have HD2 := Hid.mk' (HD.out.below hb2)
                have HT2 := Hid.mk' (HT.out.below hb2)
                clear C2 hk2 hb2 HD HT
                by_cases hp : (Ca.anchR (dq N k).book (0 : Int)).size = 0
                · have hpn : Ca.anchR (dq N k).book (0 : Int) = ⟨#[]⟩ := Ca.size_nil hp
                  rw [hpn] at C3
                  generalize Ca.anchE (dq N k).book (0 : Int) = ae at C3
                  clear hp hpn
                  by_cases hae : ae = 0
                  · subst hae
                    rw [errV_zero] at C3
                    go_wp2_with fail
                    refine C3.mono ?_
                    rintro e w3 ⟨rfl, hb3⟩
                    have C4 := Il.text_get D (dq N k) Fd w3 (HD2.out.below hb3)
                    have HT3 := Hid.mk' (HT2.out.below hb3)
                    clear C3 hb3 HD2 HT2
                    generalize Lf.textR (dq N k).book = T at C4
                    go_wp2_with fail
                    refine C4.mono ?_
                    rintro e w4 ⟨rfl, hb4⟩
                    have HT4 := Hid.mk' (HT3.out.below hb4)
                    clear C4 hb4 HT3
                    have HTA := Hid.mk' HT4.out
                    have HHO : Hid (Hold (dq N k) (⟨#[]⟩ : ByteArray) (⟨#[]⟩ : ByteArray) ∧ ((⟨#[]⟩ : ByteArray)).size ≤ 12) := ⟨Or.inl rfl, Nat.zero_le _⟩
                    have HBW : Hid (w.heap.size ≤ w4.heap.size) := HTA.out.bel.size
                    have HBA : Hid (Below w4.heap.size w4 (w4.alloc (.cells #[.string (⟨#[]⟩ : ByteArray)] 9))) := (Below.refl _ _).alloc (Nat.le_refl _) _
                    have HOA : Hid ((w4.alloc (.cells #[.string (⟨#[]⟩ : ByteArray)] 9)).ownsRow w.heap.size 9 1 (.slice ph k ch) k (hs.map Value.string)) := by have h9 := own_below HTA.out.rh HBA.out; rw [HLH.out.1] at h9; exact h9
                    have HTN := Hid.mk' (text_new w4 (⟨#[]⟩ : ByteArray))
                    go_wp2_with (first | (at_builtin; refine wpList_append_own_at _ rfl (.tmp 108) (.tmp 110) 35 rfl w.heap.size 9 i0 (.string ByteArray.empty) 1 16 Tryz.underlying35 hi0 hz0 hz1 hz2 rfl (by decide) (.slice ph k ch) k (hs.map Value.string) rfl HOA.out ⟨w4.heap.size, 0, none⟩ 1 1 [.string (⟨#[]⟩ : ByteArray)] rfl rfl HTN.out (fun u hu => by obtain rfl := List.mem_singleton.1 hu; exact rfl) (by unfold maxLen; omega) (by omega) (Nat.le_trans HBW.out HBA.out.size) ?_; intro v' wb hown' hgrow _ hat; obtain ⟨p9, n9, c9, rfl, HS9⟩ := own_shape hown'; have HT1 : Hid (Tm L w wb X N (.slice p9 n9 c9) (.slice pl k cl) (hs ++ [(⟨#[]⟩ : ByteArray)]) ls) := HTA.out.put HBA.out (row_of HLH.out.1 hown') hgrow hat; have HBW2 : Hid (w.heap.size ≤ wb.heap.size) := HT1.out.bel.size; have HBA2 : Hid (Below wb.heap.size wb (wb.alloc (.cells #[.string (⟨#[]⟩ : ByteArray)] 9))) := (Below.refl _ _).alloc (Nat.le_refl _) _; have HOA2 : Hid ((wb.alloc (.cells #[.string (⟨#[]⟩ : ByteArray)] 9)).ownsRow w.heap.size 9 1 (.slice pl k cl) k (ls.map Value.string)) := (by have h9 := own_below HT1.out.rl HBA2.out; rw [HLH.out.2] at h9; exact h9); have HTN2 := Hid.mk' (text_new wb (⟨#[]⟩ : ByteArray)); clear hown' hgrow hat) | (at_builtin; refine wpList_append_own_at _ rfl (.tmp 112) (.tmp 114) 35 rfl w.heap.size 9 i0 (.string ByteArray.empty) 1 16 Tryz.underlying35 hi0 hz0 hz1 hz2 rfl (by decide) (.slice pl k cl) k (ls.map Value.string) rfl HOA2.out ⟨wb.heap.size, 0, none⟩ 1 1 [.string (⟨#[]⟩ : ByteArray)] rfl rfl HTN2.out (fun u hu => by obtain rfl := List.mem_singleton.1 hu; exact rfl) (by unfold maxLen; omega) (by omega) (Nat.le_trans HBW2.out HBA2.out.size) ?_; intro v' wc hown' hgrow _ hat; obtain ⟨p8, n8, c8, rfl, HS8⟩ := own_shape hown'; have HT2 : Hid (Tm L w wc X N (.slice p9 n9 c9) (.slice p8 n8 c8) (hs ++ [(⟨#[]⟩ : ByteArray)]) (ls ++ [(⟨#[]⟩ : ByteArray)])) := (HT1.out.swap.put HBA2.out (row_of HLH.out.2 hown') hgrow hat).swap; clear hown' hgrow hat))
                    have e9 := HS9.out
                    have e8 := HS8.out
                    subst e9 e8
                    go_roundw
                    case rel => exact ⟨k + 1, _, _, p9, c9, p8, c8, by omega, by go_num, rfl, rfl, HT2, HPU.out.push (by rw [HLH.out.1]; exact hk) (by rw [HLH.out.1]; exact HHO.out.1) HHO.out.2, by rw [Hid, List.length_append, List.length_append, HLH.out.1, HLH.out.2]; exact ⟨rfl, rfl⟩⟩
                    case measure => simp [intOf]; omega
                  · rw [errV_ne hae] at C3
                    clear hae
                    go_wp2_with fail
                    refine C3.mono ?_
                    rintro e w3 ⟨rfl, hb3⟩
                    have C4 := Il.text_get D (dq N k) Fd w3 (HD2.out.below hb3)
                    have HT3 := Hid.mk' (HT2.out.below hb3)
                    clear C3 hb3 HD2 HT2
                    generalize Lf.textR (dq N k).book = T at C4
                    go_wp2_with fail
                    refine C4.mono ?_
                    rintro e w4 ⟨rfl, hb4⟩
                    have HT4 := Hid.mk' (HT3.out.below hb4)
                    clear C4 hb4 HT3
                    have HTA := Hid.mk' HT4.out
                    have HHO : Hid (Hold (dq N k) (⟨#[]⟩ : ByteArray) (⟨#[]⟩ : ByteArray) ∧ ((⟨#[]⟩ : ByteArray)).size ≤ 12) := ⟨Or.inl rfl, Nat.zero_le _⟩
                    have HBW : Hid (w.heap.size ≤ w4.heap.size) := HTA.out.bel.size
                    have HBA : Hid (Below w4.heap.size w4 (w4.alloc (.cells #[.string (⟨#[]⟩ : ByteArray)] 9))) := (Below.refl _ _).alloc (Nat.le_refl _) _
                    have HOA : Hid ((w4.alloc (.cells #[.string (⟨#[]⟩ : ByteArray)] 9)).ownsRow w.heap.size 9 1 (.slice ph k ch) k (hs.map Value.string)) := by have h9 := own_below HTA.out.rh HBA.out; rw [HLH.out.1] at h9; exact h9
                    have HTN := Hid.mk' (text_new w4 (⟨#[]⟩ : ByteArray))
                    go_wp2_with (first | (at_builtin; refine wpList_append_own_at _ rfl (.tmp 108) (.tmp 110) 35 rfl w.heap.size 9 i0 (.string ByteArray.empty) 1 16 Tryz.underlying35 hi0 hz0 hz1 hz2 rfl (by decide) (.slice ph k ch) k (hs.map Value.string) rfl HOA.out ⟨w4.heap.size, 0, none⟩ 1 1 [.string (⟨#[]⟩ : ByteArray)] rfl rfl HTN.out (fun u hu => by obtain rfl := List.mem_singleton.1 hu; exact rfl) (by unfold maxLen; omega) (by omega) (Nat.le_trans HBW.out HBA.out.size) ?_; intro v' wb hown' hgrow _ hat; obtain ⟨p9, n9, c9, rfl, HS9⟩ := own_shape hown'; have HT1 : Hid (Tm L w wb X N (.slice p9 n9 c9) (.slice pl k cl) (hs ++ [(⟨#[]⟩ : ByteArray)]) ls) := HTA.out.put HBA.out (row_of HLH.out.1 hown') hgrow hat; have HBW2 : Hid (w.heap.size ≤ wb.heap.size) := HT1.out.bel.size; have HBA2 : Hid (Below wb.heap.size wb (wb.alloc (.cells #[.string (⟨#[]⟩ : ByteArray)] 9))) := (Below.refl _ _).alloc (Nat.le_refl _) _; have HOA2 : Hid ((wb.alloc (.cells #[.string (⟨#[]⟩ : ByteArray)] 9)).ownsRow w.heap.size 9 1 (.slice pl k cl) k (ls.map Value.string)) := (by have h9 := own_below HT1.out.rl HBA2.out; rw [HLH.out.2] at h9; exact h9); have HTN2 := Hid.mk' (text_new wb (⟨#[]⟩ : ByteArray)); clear hown' hgrow hat) | (at_builtin; refine wpList_append_own_at _ rfl (.tmp 112) (.tmp 114) 35 rfl w.heap.size 9 i0 (.string ByteArray.empty) 1 16 Tryz.underlying35 hi0 hz0 hz1 hz2 rfl (by decide) (.slice pl k cl) k (ls.map Value.string) rfl HOA2.out ⟨wb.heap.size, 0, none⟩ 1 1 [.string (⟨#[]⟩ : ByteArray)] rfl rfl HTN2.out (fun u hu => by obtain rfl := List.mem_singleton.1 hu; exact rfl) (by unfold maxLen; omega) (by omega) (Nat.le_trans HBW2.out HBA2.out.size) ?_; intro v' wc hown' hgrow _ hat; obtain ⟨p8, n8, c8, rfl, HS8⟩ := own_shape hown'; have HT2 : Hid (Tm L w wc X N (.slice p9 n9 c9) (.slice p8 n8 c8) (hs ++ [(⟨#[]⟩ : ByteArray)]) (ls ++ [(⟨#[]⟩ : ByteArray)])) := (HT1.out.swap.put HBA2.out (row_of HLH.out.2 hown') hgrow hat).swap; clear hown' hgrow hat))
                    have e9 := HS9.out
                    have e8 := HS8.out
                    subst e9 e8
                    go_roundw
                    case rel => exact ⟨k + 1, _, _, p9, c9, p8, c8, by omega, by go_num, rfl, rfl, HT2, HPU.out.push (by rw [HLH.out.1]; exact hk) (by rw [HLH.out.1]; exact HHO.out.1) HHO.out.2, by rw [Hid, List.length_append, List.length_append, HLH.out.1, HLH.out.2]; exact ⟨rfl, rfl⟩⟩
                    case measure => simp [intOf]; omega
                · obtain ⟨q1, q2, q3, q4, q5⟩ := hold_new HIV.out hp
                  rw [show (0 : Int).toNat = 0 from rfl] at q3 q5
                  rw [q1, errV_zero] at C3
                  have HQ := Hid.mk' q5
                  have HQ4 := Hid.mk' q4
                  obtain ⟨P, hP⟩ : ∃ P, P = Ca.anchR (dq N k).book (0 : Int) := ⟨_, rfl⟩
                  rw [← hP] at C3 hp HQ HQ4
                  have hne := Ca.ne_nil hp
                  have hnb : (P.toList == []) = false := by cases h9 : P.toList; rw [h9] at hne; cases hne; rfl
                  clear hP q1 q2 q4 q5
                  go_wp2_with fail
                  refine C3.mono ?_
                  rintro e w3 ⟨rfl, hb3⟩
                  have C4 := Il.text_get D (dq N k) Fd w3 (HD2.out.below hb3)
                  have HT3 := Hid.mk' (HT2.out.below hb3)
                  clear C3 hb3 HD2 HT2
                  generalize Lf.textR (dq N k).book = T at C4 q3 HQ HMX
                  have hT1 : (1 : Int) ≤ (T.size : Int) := by omega
                  have hT3 : 1 ≤ T.size := by omega
                  go_wp2_with fail
                  refine C4.mono ?_
                  rintro e w4 ⟨rfl, hb4⟩
                  have HT4 := Hid.mk' (HT3.out.below hb4)
                  clear C4 hb4 HT3
                  have HTA := Hid.mk' HT4.out
                  have HHO : Hid (Hold (dq N k) P (T.extract 0 1) ∧ (P).size ≤ 12) := ⟨HQ.out, HQ4.out⟩
                  have HBW : Hid (w.heap.size ≤ w4.heap.size) := HTA.out.bel.size
                  have HBA : Hid (Below w4.heap.size w4 (w4.alloc (.cells #[.string P] 9))) := (Below.refl _ _).alloc (Nat.le_refl _) _
                  have HOA : Hid ((w4.alloc (.cells #[.string P] 9)).ownsRow w.heap.size 9 1 (.slice ph k ch) k (hs.map Value.string)) := by have h9 := own_below HTA.out.rh HBA.out; rw [HLH.out.1] at h9; exact h9
                  have HTN := Hid.mk' (text_new w4 P)
                  go_wp2_with (first | (at_builtin; refine wpList_append_own_at _ rfl (.tmp 108) (.tmp 110) 35 rfl w.heap.size 9 i0 (.string ByteArray.empty) 1 16 Tryz.underlying35 hi0 hz0 hz1 hz2 rfl (by decide) (.slice ph k ch) k (hs.map Value.string) rfl HOA.out ⟨w4.heap.size, 0, none⟩ 1 1 [.string P] rfl rfl HTN.out (fun u hu => by obtain rfl := List.mem_singleton.1 hu; exact rfl) (by unfold maxLen; omega) (by omega) (Nat.le_trans HBW.out HBA.out.size) ?_; intro v' wb hown' hgrow _ hat; obtain ⟨p9, n9, c9, rfl, HS9⟩ := own_shape hown'; have HT1 : Hid (Tm L w wb X N (.slice p9 n9 c9) (.slice pl k cl) (hs ++ [P]) ls) := HTA.out.put HBA.out (row_of HLH.out.1 hown') hgrow hat; have HBW2 : Hid (w.heap.size ≤ wb.heap.size) := HT1.out.bel.size; have HBA2 : Hid (Below wb.heap.size wb (wb.alloc (.cells #[.string (T.extract 0 1)] 9))) := (Below.refl _ _).alloc (Nat.le_refl _) _; have HOA2 : Hid ((wb.alloc (.cells #[.string (T.extract 0 1)] 9)).ownsRow w.heap.size 9 1 (.slice pl k cl) k (ls.map Value.string)) := (by have h9 := own_below HT1.out.rl HBA2.out; rw [HLH.out.2] at h9; exact h9); have HTN2 := Hid.mk' (text_new wb (T.extract 0 1)); clear hown' hgrow hat) | (at_builtin; refine wpList_append_own_at _ rfl (.tmp 112) (.tmp 114) 35 rfl w.heap.size 9 i0 (.string ByteArray.empty) 1 16 Tryz.underlying35 hi0 hz0 hz1 hz2 rfl (by decide) (.slice pl k cl) k (ls.map Value.string) rfl HOA2.out ⟨wb.heap.size, 0, none⟩ 1 1 [.string (T.extract 0 1)] rfl rfl HTN2.out (fun u hu => by obtain rfl := List.mem_singleton.1 hu; exact rfl) (by unfold maxLen; omega) (by omega) (Nat.le_trans HBW2.out HBA2.out.size) ?_; intro v' wc hown' hgrow _ hat; obtain ⟨p8, n8, c8, rfl, HS8⟩ := own_shape hown'; have HT2 : Hid (Tm L w wc X N (.slice p9 n9 c9) (.slice p8 n8 c8) (hs ++ [P]) (ls ++ [(T.extract 0 1)])) := (HT1.out.swap.put HBA2.out (row_of HLH.out.2 hown') hgrow hat).swap; clear hown' hgrow hat))
                  have e9 := HS9.out
                  have e8 := HS8.out
                  subst e9 e8
                  go_roundw
                  case rel => exact ⟨k + 1, _, _, p9, c9, p8, c8, by omega, by go_num, rfl, rfl, HT2, HPU.out.push (by rw [HLH.out.1]; exact hk) (by rw [HLH.out.1]; exact HHO.out.1) HHO.out.2, by rw [Hid, List.length_append, List.length_append, HLH.out.1, HLH.out.2]; exact ⟨rfl, rfl⟩⟩
                  case measure => simp [intOf]; omega
            · obtain rfl : k = n := by omega
              have hkz : ¬ (k : Int) < k := by omega
              obtain ⟨gh, rfl⟩ : ∃ g, ph = some ⟨g, 0, none⟩ := by
                obtain ⟨p9, c9, e9, h9⟩ := row_cell HT.out.rh
                injection e9 with e9 _ _
                obtain ⟨g9, h9, _⟩ := h9 (by rw [HLH.out.1]; omega)
                exact ⟨g9, e9.trans h9⟩
              obtain ⟨gl, rfl⟩ : ∃ g, pl = some ⟨g, 0, none⟩ := by
                obtain ⟨p9, c9, e9, h9⟩ := row_cell HT.out.rl
                injection e9 with e9 _ _
                obtain ⟨g9, h9, _⟩ := h9 (by rw [HLH.out.2]; omega)
                exact ⟨g9, e9.trans h9⟩
              have HTG : Hid (Tg L w wr X k N (.slice (some ⟨gh, 0, none⟩) k ch) (.slice (some ⟨gl, 0, none⟩) k cl) hs ls) := ⟨HT.out, HPU.out⟩
              clear HT HPU
              go_wp2_with fail
              go_loopw [21] (fun v21 wx => ∃ (j : Nat) (N : Nt), (j ≤ 80 ∨ j = hf) ∧ v21 = .int .i64 j ∧ Hid (Tg L w wx X k N (.slice (some ⟨gh, 0, none⟩) k ch) (.slice (some ⟨gl, 0, none⟩) k cl) hs ls)) (fun v21 _ => 90 - (intOf v21).toNat)
              case atStart => exact ⟨hf, N, Or.inr rfl, rfl, HTG⟩
              case round =>
                clear HTG
                obtain ⟨j, N, hj80, rfl, HN⟩ := hrel
                by_cases hc : j < ne ∧ j < 80
                · obtain ⟨h1, h2⟩ := hc
                  have h1z : (j : Int) < ne := by omega
                  have h2z : (j : Int) < 80 := by omega
                  obtain ⟨b, o, rfl, hce⟩ := HEV.out.some (j := j) (by rw [← HNE.out]; exact h1)
                  obtain ⟨c0, c1, c2, c3⟩ := hce wr HN.out.tm.bel
                  have C := HN.out.does (evs.getD j (0, 0, 0, 0))
                  generalize evs.getD j (0, 0, 0, 0) = ev at c0 c1 c2 c3 C
                  obtain ⟨e1, e2, e3, e4⟩ := ev
                  simp only at c0 c1 c2 c3
                  generalize errV (evE N (e1, e2, e3, e4)) = er at C
                  clear hce HN
                  go_wp2_with fail
                  refine C.mono ?_
                  rintro e w8 ⟨rfl, H8⟩
                  clear C c0 c1 c2 c3
                  go_wp2_with fail
                  go_roundw
                  case rel => exact ⟨j + 1, _, by omega, by go_num, H8⟩
                  case measure => simp [intOf]; omega
                · go_upto_region 33 with fail
                  go_cut [124] from 117 to 133 (fun s9 wx => s9 = .bool false ∧ wr = wx)
                  case first =>
                    by_cases h1 : j < ne
                    · have h1z : (j : Int) < ne := by omega
                      have h2z : ¬ (j : Int) < 80 := by omega
                      clear hc h1
                      go_wp2_with fail
                      go_meet
                      case rel => exact ⟨by first | rfl | simp [h2z], rfl⟩
                    · have h1z : ¬ (j : Int) < ne := by omega
                      clear hc h1
                      go_wp2_with fail
                      go_meet
                      case rel => exact ⟨by first | rfl | simp [h1z], rfl⟩
                  case rest =>
                    obtain ⟨rfl, hwx⟩ := hcut
                    subst hwx
                    clear hc hj80
                    go_wp2_with fail
                    go_loopw [] (fun wx => ∃ N, Hid (Tg L w wx X k N (.slice (some ⟨gh, 0, none⟩) k ch) (.slice (some ⟨gl, 0, none⟩) k cl) hs ls)) (fun wx => L.und wx X)
                    case atStart => exact ⟨N, HN⟩
                    case round =>
                      clear HN
                      obtain ⟨N, HN⟩ := hrel
                      have C := HN.out.under U
                      obtain ⟨u, hu⟩ : ∃ u, u = N.us.length := ⟨_, rfl⟩
                      rw [← hu] at C
                      have HU := Hid.mk' hu
                      have hu1 : u ≤ 100 := by rw [hu]; exact HN.out.tm.few
                      have HND : Hid (L.und wr X = u) := by rw [Hid, hu]; exact HN.out.tm.und
                      clear hu
                      by_cases h0 : 0 < u
                      · have hz : (0 : Int) < u := by omega
                        clear HN
                        go_wp2_with fail
                        refine C.mono ?_
                        rintro e w9 ⟨rfl, H9⟩
                        clear C
                        have C2 := H9.out.does d1
                        have HLS : Hid ((evS N d1).us.length < u) := by have h := less_us (N := N) (by rw [← HU.out]; exact h0); rw [Hid]; have := HU.out; omega
                        generalize errV (evE N d1) = er at C2
                        go_wp2_with fail
                        refine C2.mono ?_
                        rintro e w10 ⟨rfl, H10⟩
                        clear C2 H9
                        go_wp2_with fail
                        go_roundw
                        case rel => exact ⟨_, H10⟩
                        case measure => rw [H10.out.tm.und, HND.out]; exact HLS.out
                      · skip
                        have hu0 : u = 0 := by omega
                        have HLU : Hid (N.us = []) := List.eq_nil_of_length_eq_zero (by rw [← HU.out]; omega)
                        rw [hu0, show ((0 : Nat) : Int) = 0 from rfl] at C
                        clear h0 HU HN HND hu1 hu0
                        go_wp2_with fail
                        refine C.mono ?_
                        rintro e w9 ⟨rfl, H9⟩
                        clear C
                        go_wp2_with fail
                        go_loopw [22] (fun v22 wx => ∃ (q : Nat) (N : Nt), q ≤ 2 ∧ v22 = .int .i64 q ∧ Hid (Tg L w wx X k N (.slice (some ⟨gh, 0, none⟩) k ch) (.slice (some ⟨gl, 0, none⟩) k cl) hs ls) ∧ Hid (N.us = [])) (fun v22 _ => 3 - (intOf v22).toNat)
                        case atStart => exact ⟨0, N, by omega, rfl, H9, HLU⟩
                        case round =>
                          clear H9 HLU
                          obtain ⟨q, N, hq, rfl, HN, HLU⟩ := hrel
                          by_cases hq2 : q < 2
                          · have hq2z : (q : Int) < 2 := by omega
                            go_wp2_with fail
                            go_loopw [23] (fun v23 wx => ∃ (i : Nat) (N : Nt), i ≤ k ∧ v23 = .int .i64 i ∧ Hid (Tg L w wx X k N (.slice (some ⟨gh, 0, none⟩) k ch) (.slice (some ⟨gl, 0, none⟩) k cl) hs ls) ∧ Hid (N.us = [])) (fun v23 _ => 5 - (intOf v23).toNat)
                            case atStart => exact ⟨0, N, by omega, rfl, HN, HLU⟩
                            case round =>
                              clear HN HLU
                              obtain ⟨i, N, hin, rfl, HN, HLU⟩ := hrel
                              by_cases hi : i < k
                              · have hiz : (i : Int) < k := by omega
                                go_wp2_with fail
                                go_loopw [24] (fun v24 wx => ∃ (j : Nat) (N : Nt), j ≤ k ∧ v24 = .int .i64 j ∧ Hid (Tg L w wx X k N (.slice (some ⟨gh, 0, none⟩) k ch) (.slice (some ⟨gl, 0, none⟩) k cl) hs ls) ∧ Hid (N.us = [])) (fun v24 _ => 5 - (intOf v24).toNat)
                                case atStart => exact ⟨0, N, by omega, rfl, HN, HLU⟩
                                case round =>
                                  clear HN HLU
                                  obtain ⟨j, N, hjn, rfl, HN, HLU⟩ := hrel
                                  by_cases hj : j < k
                                  · have hjz : (j : Int) < k := by omega
                                    by_cases hij : i = j
                                    · subst hij
                                      go_wp2_with fail
                                      go_roundw
                                      case rel => exact ⟨i + 1, N, by omega, by go_num, HN, HLU⟩
                                      case measure => simp [intOf]; omega
                                    · skip
                                      have hijz : ¬ (i : Int) = (j : Int) := by omega
                                      have hijb : ((i : Int) == (j : Int)) = false := by simpa using hijz
                                      have C := HN.out.pair HLU.out (i := i) (j := j) hi hj hij
                                      have HLU2 : Hid ((Hc.pair N i j).us = []) := rfl
                                      have hb4 := b1_err HN.out.tm.gl (i := i) (j := j) (by rw [HN.out.pu.len]; exact hi) (by rw [HN.out.pu.len]; exact hj)
                                      clear HN HLU
                                      go_wp2_with fail
                                      refine C.mono ?_
                                      rintro e w9 ⟨rfl, M, H9, HM⟩
                                      have C2 := H9.out.does d1
                                      rw [HM.out.1, HM.out.2] at C2
                                      clear C HM H9
                                      rcases hb4 with hb4 | hb4
                                      · rw [hb4, errV_zero] at C2
                                        clear hb4
                                        go_wp2_with fail
                                        refine C2.mono ?_
                                        rintro e w10 ⟨rfl, H10⟩
                                        clear C2
                                        go_wp2_with fail
                                        go_roundw
                                        case rel => exact ⟨j + 1, _, by omega, by go_num, H10, HLU2⟩
                                        case measure => simp [intOf]; omega
                                      · rw [hb4, errV_ne (by decide)] at C2
                                        clear hb4
                                        go_wp2_with fail
                                        refine C2.mono ?_
                                        rintro e w10 ⟨rfl, H10⟩
                                        clear C2
                                        have C3 := same_any 4 4 w10 (Kl.ET.below HE.out H10.out.tm.bel)
                                        rw [errV_ne (by decide), show ((4 : Int) == 4) = true from rfl] at C3
                                        go_wp2_with fail
                                        refine C3.mono ?_
                                        rintro e w11 ⟨rfl, hb11⟩
                                        have HB11 : Hid (Below w.heap.size w w11) := La.bel H10.out.tm.bel hb11
                                        clear C3 hb11 H10
                                        go_wp2_with fail
                                        go_ret
                                        exact ⟨rfl, HB11.out⟩
                                  · have hjz : ¬ (j : Int) < k := by omega
                                    go_wp2_with fail
                                    go_roundw
                                    case rel => exact ⟨i + 1, N, by omega, by go_num, HN, HLU⟩
                                    case measure => simp [intOf]; omega
                              · have hiz : ¬ (i : Int) < k := by omega
                                go_wp2_with fail
                                go_roundw
                                case rel => exact ⟨q + 1, N, by omega, by go_num, HN, HLU⟩
                                case measure => simp [intOf]; omega
                          · have hq2z : ¬ (q : Int) < 2 := by omega
                            have C := HN.out.same Q hn1
                            obtain ⟨sb, hsb⟩ : ∃ sb, sb = sameB N := ⟨_, rfl⟩
                            rw [← hsb] at C
                            have HSB := Hid.mk' hsb
                            clear HN HLU hsb
                            cases sb
                            · go_wp2_with fail
                              refine C.mono ?_
                              rintro e w9 ⟨rfl, H9⟩
                              clear C
                              go_wp2_with fail
                              go_ret
                              exact ⟨rfl, H9.out.tm.bel⟩
                            · go_wp2_with fail
                              refine C.mono ?_
                              rintro e w9 ⟨rfl, H9⟩
                              have HMT : Hid (∀ j, j < k → (Lf.textR (dq N j).book).size ≤ 300) := fun j hj => by
                                have hI := (H9.out.tm.gl.inv j (by rw [H9.out.pu.len]; exact hj)).1
                                rw [Ca.textR_size hI.book]; exact Ca.text_300 hI.book
                              clear C
                              go_wp2_with fail
                              go_loopw [26] (fun v26 wx => ∃ i : Nat, i ≤ k ∧ v26 = .int .i64 i ∧ Hid (Tg L w wx X k N (.slice (some ⟨gh, 0, none⟩) k ch) (.slice (some ⟨gl, 0, none⟩) k cl) hs ls)) (fun v26 _ => 5 - (intOf v26).toNat)
                              case atStart => exact ⟨0, by omega, rfl, H9⟩
                              case round =>
                                clear H9
                                obtain ⟨i, hin, rfl, HN⟩ := hrel
                                by_cases hi : i < k
                                · have hiz : (i : Int) < k := by omega
                                  have hi0 : (0 : Int) ≤ (i : Int) := by omega
                                  have HPC : Hid (∀ W : World, Tg L w W X k N (.slice (some ⟨gh, 0, none⟩) k ch) (.slice (some ⟨gl, 0, none⟩) k cl) hs ls → W.cell? ⟨gh, i, none⟩ = some (.string (hs.getD i e0)) ∧ W.cell? ⟨gl, i, none⟩ = some (.string (ls.getD i e0))) := fun W ht => ⟨ht.cellH HLH.out.1 hi, ht.cellL HLH.out.2 hi⟩
                                  have HP12 : Hid ((hs.getD i e0).size ≤ 12) := (HN.out.pu.hold i (by rw [HLH.out.1]; exact hi)).2
                                  have HHD : Hid (∀ j, j < k → Hold (dq N j) (hs.getD i e0) (ls.getD i e0)) := fun j hj => HN.out.all HSB.out.symm (by rw [HLH.out.1]; exact hi) hj
                                  generalize hs.getD i e0 = P at HPC HHD HP12
                                  generalize ls.getD i e0 = C0 at HPC HHD
                                  have xh := (HPC.out wr HN.out).1
                                  by_cases hp : P.size = 0
                                  · have hpn : P = ⟨#[]⟩ := Ca.size_nil hp
                                    subst hpn
                                    clear hp HHD
                                    go_wp2_with fail
                                    go_roundw
                                    case rel => exact ⟨i + 1, by omega, by go_num, HN⟩
                                    case measure => simp [intOf]; omega
                                  · have hne := Ca.ne_nil hp
                                    have hnb : (P.toList == []) = false := by cases h9 : P.toList; rw [h9] at hne; cases hne; rfl
                                    have HP0 := Hid.mk' hp
                                    clear hp
                                    go_wp2_with fail
                                    go_loopw [27] (fun v27 wx => ∃ j : Nat, j ≤ k ∧ v27 = .int .i64 j ∧ Hid (Tg L w wx X k N (.slice (some ⟨gh, 0, none⟩) k ch) (.slice (some ⟨gl, 0, none⟩) k cl) hs ls)) (fun v27 _ => 5 - (intOf v27).toNat)
                                    case atStart => exact ⟨0, by omega, rfl, HN⟩
                                    case round =>
                                      clear HN xh
                                      obtain ⟨j, hjn, rfl, HN⟩ := hrel
                                      by_cases hj : j < k
                                      · have hjz : (j : Int) < k := by omega
                                        have HO : Hid (Hold (dq N j) P C0) := HHD.out j hj
                                        have C := HN.out.doc DD (i := j) hj
                                        clear HN
                                        go_wp2_with fail
                                        refine C.mono ?_
                                        rintro e w1 ⟨D, Fd, rfl, HD, HT1⟩
                                        have HIV : Hid (Inv (dq N j)) := HD.out.inv
                                        obtain ⟨q1, q2, q3, q4, q5, q6, q7⟩ := hold_end HIV.out HO.out HP0.out
                                        have C2 := Il.book_get D (dq N j) Fd w1 HD.out
                                        clear C HO
                                        go_wp2_with fail
                                        refine C2.mono ?_
                                        rintro e w2 ⟨v2, rfl, hk2, hb2⟩
                                        obtain ⟨p2, n2, c2, rfl⟩ : ∃ p n c, v2 = .slice p n c := by obtain ⟨p, c, e, _⟩ := hk2.1; exact ⟨_, _, _, e⟩
                                        have HK2 := Hid.mk' hk2.1
                                        have HT2 := Hid.mk' (HT1.out.below hb2)
                                        have HD2 := Hid.mk' (HD.out.below hb2)
                                        have C3 := Ca.resolve_any (.slice p2 n2 c2) (dq N j).book P w2 hk2.1 (small_book HIV.out.book) (by unfold maxLen; omega)
                                        obtain ⟨m, hm⟩ : ∃ m : Nat, Ca.resR (dq N j).book P = m := ⟨(Ca.resR (dq N j).book P).toNat, by omega⟩
                                        rw [q2, errV_zero, hm] at C3
                                        rw [hm, Int.toNat_natCast] at q7
                                        have x2 := (HPC.out w2 HT2.out).1
                                        clear C2 hk2 hb2 HT1 HD q6 hm q2
                                        go_wp2_with fail
                                        refine C3.mono ?_
                                        rintro e w3 ⟨rfl, hb3⟩
                                        have HK3 := Hid.mk' (HK2.out.below hb3)
                                        have HT3 := Hid.mk' (HT2.out.below hb3)
                                        have HD3 := Hid.mk' (HD2.out.below hb3)
                                        have x3 := (HPC.out w3 HT3.out).1
                                        obtain ⟨a, ha⟩ : ∃ a, a = Bm.ahd (dq N j).book P.toList := ⟨_, rfl⟩
                                        have C4 : Calls Tryz.prog 19 #[.slice p2 n2 c2, .string P] w3 fun e w' => e = .returned (.tuple #[.int .i64 a, .bool true]) ∧ Below w3.heap.size w3 w' := by
                                          obtain ⟨q9, c9, e9, hlf, hlc, _⟩ := HK3.out
                                          injection e9 with e1 e2 e3
                                          subst e1 e2 e3
                                          have h9 := Ld.find_any p2 _ c2 (dq N j).book P w3 rfl hlf (Bm.bookE_zero.1 HIV.out.book).2.2 (by have := Il.few_book HIV.out; omega)
                                          rw [q3, ← ha] at h9
                                          exact h9
                                        rw [← ha] at q4 q5
                                        clear C3 hb3 HK2 HT2 HD2 x2 ha q3
                                        go_wp2_with fail
                                        refine C4.mono ?_
                                        rintro e w4 ⟨rfl, hb4⟩
                                        have HK4 := Hid.mk' (HK3.out.below hb4)
                                        have HT4 := Hid.mk' (HT3.out.below hb4)
                                        have HD4 := Hid.mk' (HD3.out.below hb4)
                                        clear C4 hb4 HK3 HT3 HD3 x3
                                        obtain ⟨x, hx⟩ : ∃ x, x = Bm.leafAt (dq N j).book P := ⟨_, rfl⟩
                                        rw [← hx] at q5 q7
                                        have hn2 : n2 = (dq N j).book.length := by obtain ⟨_, _, e9, _⟩ := HK4.out; injection e9
                                        have hn300 : n2 ≤ 300 := by rw [hn2]; exact Il.few_book HIV.out
                                        have haz : (a : Int) < (n2 : Int) := by omega
                                        have haz0 : (0 : Int) ≤ (a : Int) := by omega
                                        obtain ⟨b2, o2, rfl, hcell⟩ : ∃ b o, p2 = some ⟨b, o, none⟩ ∧ La.At w4 b o a x := by
                                          obtain ⟨q9, c9, e9, hlf, _⟩ := HK4.out
                                          injection e9 with e1 _ _
                                          subst e1
                                          obtain ⟨b, o, e8, h8⟩ := hlf.some (by intro e; rw [e] at q4; simp at q4)
                                          exact ⟨b, o, e8, by rw [← q5]; exact h8 a q4⟩
                                        obtain ⟨xs, xn, xb⟩ := x
                                        obtain ⟨y1, y2, y3⟩ := hcell
                                        simp only at y1 y2 y3
                                        have C5 := Lp.seen_ref xs xn xb w4
                                        have C6 := Il.text_get D (dq N j) Fd
                                        clear q4 q5 hx hn2
                                        cases hse : Bm.isS (xs, xn, xb)
                                        · rw [hse] at C5
                                          clear q7 hse C6 HD4
                                          go_wp2_with fail
                                          refine C5.mono ?_
                                          rintro e w5 ⟨rfl, hb5⟩
                                          have HT5 := Hid.mk' (HT4.out.below hb5)
                                          clear C5 hb5 HT4 HK4 y1 y2 y3
                                          go_wp2_with fail
                                          go_quiet (fail)
                                          generalize hwq : World.drewN _ _ = w6
                                          have HT6 : Hid (Tg L w w6 X k N (.slice (some ⟨gh, 0, none⟩) k ch) (.slice (some ⟨gl, 0, none⟩) k cl) hs ls) := by rw [← hwq]; exact HT5.out.below (bel_drew (Below.refl _ _) _)
                                          clear hwq HT5
                                          go_wp2_with fail
                                          go_roundw
                                          case rel => exact ⟨j + 1, by omega, by go_num, HT6⟩
                                          case measure => simp [intOf]; omega
                                        · rw [hse] at C5
                                          obtain ⟨r1, r2⟩ := q7 hse
                                          clear hse
                                          have hTs := HMT.out j hj
                                          generalize Lf.textR (dq N j).book = T at C6 r1 r2 hTs
                                          subst r2
                                          go_wp2_with fail
                                          refine C5.mono ?_
                                          rintro e w5 ⟨rfl, hb5⟩
                                          have HT5 := Hid.mk' (HT4.out.below hb5)
                                          have HC6 : Hid (∀ W, Below w5.heap.size w5 W → Calls Tryz.prog 17 #[.pointer (some ⟨D, 0, none⟩)] W fun e w' => e = .returned (.string T) ∧ Below W.heap.size W w') := fun W hb => C6 W (HD4.out.below (La.bel hb5 hb))
                                          have x5 := (HPC.out w5 HT5.out).2
                                          have HR5 := Hid.mk' (Below.refl w5.heap.size w5)
                                          have t1 : (m : Int) + 1 ≤ (T.size : Int) := by omega
                                          have t2 : (m : Int) ≤ (T.size : Int) := by omega
                                          have t3 : m + 1 ≤ T.size := by omega
                                          have t4 : m ≤ T.size := by omega
                                          have t5 : m ≤ 1000 := by omega
                                          have t6 : (0 : Int) ≤ (m : Int) := by omega
                                          have t7 : (m : Int) ≤ ((m + 1 : Nat) : Int) := by omega
                                          have t8 : ((m + 1 : Nat) : Int) ≤ (T.size : Int) := by omega
                                          have t9 : (m : Int) ≤ (m : Int) + 1 := by omega
                                          have t10 : (0 : Int) ≤ ((m + 1 : Nat) : Int) := by omega
                                          have t11 : (m : Int) < (T.size : Int) := by omega
                                          have t12 : m < T.size := by omega
                                          have hwr : IntKind.i64.wrap ((m : Int) + 1) = ((m + 1 : Nat) : Int) := by rw [wrap_in (by omega) (by omega)]; omega
                                          clear C5 hb5 HT4 HK4 y1 y2 y3 C6 HD4
                                          go_wp2_with fail
                                          go_region_held3 (fun W => W.cell? ⟨gl, i, none⟩ = some (.string (T.extract m (m + 1)))) (first | (go_keep; done) | (refine keep_cell hb7 ?_; (first | assumption | (go_split_ands; assumption)))) (first
                                            | (go_at_call 17; refine (HC6.out _ HR5.out.drew).mono ?_; rintro e w6 ⟨rfl, hb7⟩; have HT6 : Hid (Tg L w w6 X k N (.slice (some ⟨gh, 0, none⟩) k ch) (.slice (some ⟨gl, 0, none⟩) k cl) hs ls) := HT5.out.below (La.bel HR5.out.drew hb7)))
                                          all_goals
                                            clear hb7 HT5 x5
                                            go_wp2_with fail
                                            go_roundw
                                            case rel => exact ⟨j + 1, by omega, by go_num, HT6⟩
                                            case measure => simp [intOf]; omega
                                      · have hjz : ¬ (j : Int) < k := by omega
                                        go_wp2_with fail
                                        go_roundw
                                        case rel => exact ⟨i + 1, by omega, by go_num, HN⟩
                                        case measure => simp [intOf]; omega
                                · have hiz : ¬ (i : Int) < k := by omega
                                  go_wp2_with fail
                                  go_ret
                                  exact ⟨rfl, HN.out.tm.bel⟩

end Gn
end Go.Proofs.YtlmdchpbpgcfmaaGreatDoor
