/- StatSums' walk. -/
import Derived.Test.YtiiiineipajhmaaSq4
import Derived.Test.YtiiiineipajhmaaIq
import Derived.Deep.DeepCutAuto
namespace Go.Proofs.Ytiiiineipajhmaa
namespace Sq7
set_option linter.unusedVariables false
set_option linter.unusedSimpArgs false
open Go.ChangeShapes Go.WideShapes Go.ChangeAt Go.RowKit Cm Ka Kb Om Oa Hm Ia Ie Ik Il
open Na (DtsAt)
open Ic (blk_cell)
open Sq1 (Pr zp runs wrt tot struck runs_ok seen_struck tot_take tot_take_le many_pos Rn Wn)
open Sq2 (Own bel_dr)
open Sq3 (OwnI runsR wrtR runs_any written_any)
open Sq4 (struckR struck_any)
open La (bel bel_drew errV_zero errV_ne own_ge own_grow own_below Lies LeafsIn)
open Lj (BookAt BookNew)
open Iq (run run_next run_inv off_old)
open Bm (Leaf bookE text bookE_zero)

def l1 : List Leaf := [(⟨#[110, 99]⟩, 104, false)]
theorem fact1 : bookE l1 = 0 ∧ wrtR l1 = [0, 1, 0, 0, 0, 0, 0, 0] := by decide +kernel
theorem one_leaf (w : World) : LeafsIn (w.alloc (.cells #[.string ⟨#[110, 99]⟩, .int .i64 104, .bool false] 29)) (some ⟨w.heap.size, 0, none⟩) l1 := by
  have h1 := heap_alloc_new w (.cells #[.string ⟨#[110, 99]⟩, .int .i64 104, .bool false] 29)
  refine Or.inr ⟨w.heap.size, 0, rfl, fun j hj => ?_⟩
  match j, hj with
  | 0, _ => exact ⟨blk_cell h1 rfl, blk_cell h1 rfl, blk_cell h1 rfl⟩
theorem small1 : ∀ x ∈ l1, x.1.size ≤ maxLen := by
  intro x hx
  unfold l1 at hx
  simp only [List.mem_cons, List.not_mem_nil, or_false] at hx
  unfold maxLen
  rcases hx with rfl; decide
theorem text_size {l : List Leaf} (h : bookE l = 0) : (Lf.textR l).size = (text l).length := by unfold Lf.textR; rw [if_pos h]; rfl

/- what the law reads of a book that is right -/
structure Sm (l : List Leaf) (r : List Pr) (v : List Int) (n s : Nat) : Prop where
  vlen : v.length = 8
  vsum : tot v = n
  vpos : ∀ x ∈ v, 0 ≤ x
  rn : Rn r n
  few : n ≤ 300
  all : s + n = l.length
  ll : l.length ≤ 300
theorem sm_ok {l : List Leaf} (h : bookE l = 0) : Sm l (runs l) (wrt (runs l)) (text l).length (struck l) := by
  obtain ⟨h1, h2, _⟩ := bookE_zero.1 h
  have hr := runs_ok h2
  exact ⟨hr.wrt.len, hr.wrt.sum, hr.wrt.pos, hr, Nat.le_trans (Bm.text_len_le l) h1, seen_struck l h2, h1⟩
theorem map_getD (r : List Pr) (k : Nat) : (r.map (·.2)).getD k 0 = (r.getD k zp).2 := by
  rw [List.getD_eq_getElem?_getD, List.getElem?_map, List.getD_eq_getElem?_getD]
  cases r[k]? <;> rfl

set_option maxRecDepth 100000 in
set_option maxHeartbeats 8000000 in
theorem walk (vl : Value) (l : List Ox) (w : World) (hl : OpsAt w vl l) (hsz : ∀ x ∈ l, x.2.2.1.size ≤ maxLen) :
    Calls Try.prog 3 #[vl] w fun e w' => e = .returned (.bool true) ∧ Below w.heap.size w w' := by
  obtain ⟨ql, cl, rfl, hlin, _⟩ := hl
  obtain ⟨n, hn⟩ : ∃ n, n = l.length := ⟨_, rfl⟩
  rw [← hn]
  have HN : Hid (l.length = n) := hn.symm
  have HLI : Hid (OpsIn w ql l) := hlin
  have HSZ : Hid (∀ x ∈ l, x.2.2.1.size ≤ maxLen) := hsz
  have C1 := written_any (some ⟨w.heap.size, 0, none⟩) 1 1 l1 _ rfl (one_leaf w) small1 (by unfold maxLen; omega)
  rw [fact1.1, fact1.2, errV_zero] at C1
  have HB0 : Hid (Below w.heap.size w (w.alloc (.cells #[.string ⟨#[110, 99]⟩, .int .i64 104, .bool false] 29))) := (Below.refl _ w).alloc (Nat.le_refl _) _
  clear hlin hsz hn
  go_enter Try.func3, Try.ntmps3
  go_wp2_with fail
  refine C1.mono ?_
  rintro e w1 ⟨v1, rfl, ho1, hb1⟩
  have HB1 : Hid (Below w.heap.size w w1) := bel HB0.out hb1.out
  obtain ⟨q1, c1, rfl, hq1⟩ := ho1.out.shape
  obtain ⟨g1, rfl, _⟩ := hq1 (by decide)
  have hc1 := (ho1.out.cell rfl (show 1 < 8 by omega)).1
  rw [show ([0, 1, 0, 0, 0, 0, 0, 0] : List Int).getD 1 0 = 1 from rfl] at hc1
  rw [show ([0, 1, 0, 0, 0, 0, 0, 0] : List Int).length = 8 from rfl]
  clear hb1 C1 HB0 ho1 hq1
  go_wp2_with fail
  refine (new_any w1).mono ?_
  rintro e w2 ⟨D, F2, rfl, hd2, hf2, hb2⟩
  have HD2 : Hid (DocAt w2 D (run l 0) F2) := hd2
  have HB2 : Hid (Below w.heap.size w w2) := bel HB1.out hb2
  have HF2 : Hid (∀ g, F2 g → w.heap.size ≤ g) := fun g hg => Nat.le_trans HB1.out.size (hf2 g hg)
  clear hd2 hf2 hb2 HB1 hc1
  go_wp2_with fail
  go_loopw [6] (fun vi wr => ∃ (k : Nat) (F : Nat → Prop), k ≤ n ∧ k ≤ 60 ∧ vi = .int .i64 k ∧ Hid (DocAt wr D (run l k) F) ∧ Hid (∀ g, F g → w.heap.size ≤ g) ∧ Hid (Below w.heap.size w wr)) (fun vi _ => 60 - (intOf vi).toNat)
  case atStart => exact ⟨0, F2, by omega, by omega, rfl, HD2, HF2, HB2⟩
  case round =>
    clear HD2 HF2 HB2
    obtain ⟨k, F, hk, hk60, rfl, HD, HF, HB⟩ := hrel
    go_upto_region 6 with fail
    go_cut [45] from 38 to 53 (fun s45 wx => ∃ t : Bool, s45 = .bool t ∧ Hid (t = decide (k < n ∧ k < 60)) ∧ wr = wx)
    case first =>
      by_cases h1 : k < n
      · have h1z : (k : Int) < n := by omega
        by_cases h2 : k < 60
        · have h2z : (k : Int) < 60 := by omega
          go_wp2_with fail
          go_meet
          case rel => exact ⟨true, rfl, (decide_eq_true ⟨h1, h2⟩).symm, rfl⟩
        · have h2z : ¬ (k : Int) < 60 := by omega
          have H2 : Hid (decide (k < n ∧ k < 60) = false) := decide_eq_false (fun h => h2 h.2)
          go_wp2_with fail
          go_meet
          case rel => exact ⟨false, by simp [h2], H2.out.symm, rfl⟩
      · have h1z : ¬ (k : Int) < n := by omega
        have H2 : Hid (decide (k < n ∧ k < 60) = false) := decide_eq_false (fun h => h1 h.1)
        go_wp2_with fail
        go_meet
        case rel => exact ⟨false, rfl, H2.out.symm, rfl⟩
    case rest =>
    obtain ⟨tt, rfl, HTT, rfl⟩ := hcut
    cases tt
    case true =>
      obtain ⟨hlt1, hlt2⟩ := of_decide_eq_true HTT.out.symm
      have hltz : (k : Int) < n := by omega
      have hkl : k < l.length := by rw [HN.out]; exact hlt1
      obtain ⟨bo, oo, rfl, hc⟩ := HLI.out.some (by intro e; rw [e] at hkl; simp at hkl)
      have ha0 := hc k hkl
      have hxm := HSZ.out _ (getO_mem hkl)
      have HRN : Hid (run l (k + 1) = apS (run l k) (l.getD k oz)) := run_next hkl
      obtain ⟨x, hx⟩ : ∃ x, x = l.getD k oz := ⟨_, rfl⟩
      rw [← hx] at ha0 hxm HRN
      obtain ⟨⟨xa, xb⟩, xt, xp, xc, xs⟩ := x
      obtain ⟨vx, ⟨g0, g1, g2, g3, g4, g5⟩, hdx0⟩ := ha0
      simp only at g0 g1 g2 g3 g4 g5 hdx0 hxm
      obtain ⟨pv, nv, cv, rfl⟩ : ∃ pv nv cv, vx = .slice pv nv cv := by obtain ⟨_, _, e9, _⟩ := hdx0; exact ⟨_, _, _, e9⟩
      have hlt' := World.block_lt_of_cell? _ _ g0
      have a0 := (HB.out.cell (p := ⟨bo, oo + k * 6, none⟩) hlt').trans g0
      have a1 := (HB.out.cell (p := ⟨bo, oo + k * 6 + 1, none⟩) hlt').trans g1
      have a2 := (HB.out.cell (p := ⟨bo, oo + k * 6 + 2, none⟩) hlt').trans g2
      have a3 := (HB.out.cell (p := ⟨bo, oo + k * 6 + 3, none⟩) hlt').trans g3
      have a4 := (HB.out.cell (p := ⟨bo, oo + k * 6 + 4, none⟩) hlt').trans g4
      have a5 := (HB.out.cell (p := ⟨bo, oo + k * 6 + 5, none⟩) hlt').trans g5
      have C := apply_any D (run l k) F xa xb xt xp xc (.slice pv nv cv) xs wr HD.out (hdx0.below HB.out) (off_old hdx0 HF.out) hxm
      clear hc hx hkl hxm hdx0 g0 g1 g2 g3 g4 g5 hlt'
      go_wp2_with fail
      refine C.mono ?_
      rintro e w9 ⟨he, _, F9, hd9, hc9, hf9⟩
      have HD9 : Hid (DocAt w9 D (run l (k + 1)) F9) := by unfold Hid; rw [HRN.out]; exact hd9
      have HB9 : Hid (Below w.heap.size w w9) := hc9.below HF.out HB.out HB.out.size
      have HF9 : Hid (∀ g, F9 g → w.heap.size ≤ g) := fun g hg => by
        rcases hf9 g hg with e | e
        · exact HF.out g e
        · exact Nat.le_trans HB.out.size e
      obtain ⟨ev, hev⟩ : ∃ ev, ev = Value.tuple #[.bool (isNew (run l k) ((xa, xb), xt, xp, xc, xs)), errV (apE (run l k) ((xa, xb), xt, xp, xc, xs))] := ⟨_, rfl⟩
      rw [← hev] at he
      subst he
      clear hd9 hc9 hf9 C a0 a1 a2 a3 a4 a5 hev HD HF HB
      go_wp2_with fail
      go_roundw
      case rel => exact ⟨k + 1, F9, by omega, by omega, by go_num, HD9, HF9, HB9⟩
      case measure => simp [intOf]; omega
    case false =>
      obtain ⟨S, hS⟩ : ∃ S, S = run l k := ⟨_, rfl⟩
      have HI : Hid (Inv S) := by unfold Hid; rw [hS]; exact run_inv l k
      rw [← hS] at HD
      have h0 := HI.out.book
      have HSM : Hid (Sm S.book (runs S.book) (wrt (runs S.book)) (text S.book).length (struck S.book)) := sm_ok h0
      have CB := fun w h => book_get D S F w h
      have CT := fun w h => text_get D S F w h
      have hsb := small_book h0
      have hlb : S.book.length ≤ maxLen := by have := (bookE_zero.1 h0).1; unfold maxLen; omega
      have CW : ∀ w p c, LeafsIn w p S.book → _ := fun w p c hI => written_any p S.book.length c S.book w rfl hI hsb hlb
      have CR : ∀ w p c, LeafsIn w p S.book → _ := fun w p c hI => runs_any p S.book.length c S.book w rfl hI hsb hlb
      have CS : ∀ w p c, LeafsIn w p S.book → _ := fun w p c hI => struck_any p S.book.length c S.book w rfl hI hsb hlb
      rw [show wrtR S.book = wrt (runs S.book) by unfold wrtR; rw [if_pos h0]] at CW
      rw [show runsR S.book = runs S.book by unfold runsR; rw [if_pos h0]] at CR
      rw [show struckR S.book = struck S.book by unfold struckR; rw [if_pos h0]] at CS
      rw [h0, errV_zero] at CW CR CS
      obtain ⟨T, hT⟩ : ∃ T, T = Lf.textR S.book := ⟨_, rfl⟩
      have htn : T.size = (text S.book).length := by rw [hT]; exact text_size h0
      rw [← hT] at CT
      rw [← htn] at HSM
      obtain ⟨L, hL⟩ : ∃ L, L = S.book := ⟨_, rfl⟩
      rw [← hL] at CB CW CR CS HSM
      obtain ⟨r, hr⟩ : ∃ r, r = runs L := ⟨_, rfl⟩
      rw [← hr] at CW CR HSM
      obtain ⟨vv, hvv⟩ : ∃ vv, vv = wrt r := ⟨_, rfl⟩
      rw [← hvv] at CW HSM
      obtain ⟨st, hst⟩ : ∃ st, st = struck L := ⟨_, rfl⟩
      rw [← hst] at CS HSM
      obtain ⟨nl, hnl⟩ : ∃ nl, nl = L.length := ⟨_, rfl⟩
      rw [← hnl] at CW CR CS
      have HNL : Hid (L.length = nl) := hnl.symm
      have HCB : Hid _ := CB
      have HCT : Hid _ := CT
      have HCW : Hid _ := CW
      have HCR : Hid _ := CR
      have HCS : Hid _ := CS
      have ht3 : T.size ≤ 300 := HSM.out.few
      have hn3 : nl ≤ 300 := by have := HSM.out.ll; rw [HNL.out] at this; exact this
      have hall : st + T.size = nl := by have := HSM.out.all; rw [HNL.out] at this; exact this
      have HALL : Hid (st + T.size = nl) := hall
      have hs3 : st ≤ 300 := by omega
      clear hS HSZ HLI HTT h0 CB CT CW CR CS hsb hlb hT htn hL hr hvv hst hnl hall
      go_wp2_with fail
      refine (HCB.out wr HD.out).mono ?_
      rintro e w3 ⟨v3, rfl, hk3, hb3⟩
      obtain ⟨p3, c3, rfl, hi3, _⟩ := hk3.1
      rw [HNL.out]
      have K3 : Hid (Below w.heap.size w w3) := bel HB.out hb3
      have HD3 : Hid (DocAt w3 D S F) := HD.out.below hb3
      clear hk3 hb3 HD HB
      go_wp2_with fail
      refine (HCW.out w3 p3 c3 hi3).mono ?_
      rintro e w4 ⟨v4, rfl, HW4, hb4⟩
      obtain ⟨q4, c4, rfl, hq4⟩ := HW4.out.shape
      obtain ⟨g4, rfl, _⟩ := hq4 (by rw [HSM.out.vlen]; omega)
      rw [HSM.out.vlen] at HW4 ⊢
      have K4 : Hid (Below w.heap.size w w4) := bel K3.out hb4.out
      have HD4 : Hid (DocAt w4 D S F) := HD3.out.below hb4.out
      clear hb4 HD3 K3 hi3 hq4
      go_wp2_with fail
      refine (HCB.out w4 HD4.out).mono ?_
      rintro e w5 ⟨v5, rfl, hk5, hb5⟩
      obtain ⟨p5, c5, rfl, hi5, _⟩ := hk5.1
      rw [HNL.out]
      have K5 : Hid (Below w.heap.size w w5) := bel K4.out hb5
      have HD5 : Hid (DocAt w5 D S F) := HD4.out.below hb5
      have HW5 : Hid (OwnI w3.heap.size w5 (.slice (some ⟨g4, 0, none⟩) 8 c4) vv) := own_below HW4.out hb5
      clear hk5 hb5 HD4 K4 HW4
      go_wp2_with fail
      refine (HCR.out w5 p5 c5 hi5).mono ?_
      rintro e w6 ⟨v6, rfl, HR6, hb6⟩
      obtain ⟨q6, c6, rfl, hq6⟩ := HR6.out.shape
      obtain ⟨m, hm⟩ : ∃ m, m = r.length := ⟨_, rfl⟩
      have HM : Hid (r.length = m) := hm.symm
      have HQ6 : Hid (0 < m → ∃ g, q6 = some ⟨g, 0, none⟩ ∧ w5.heap.size ≤ g) := by rw [hm]; exact hq6
      have hm3 : m ≤ 300 := by have := HSM.out.rn.len; omega
      rw [← hm] at HR6 ⊢
      have K6 : Hid (Below w.heap.size w w6) := bel K5.out hb6.out
      have HD6 : Hid (DocAt w6 D S F) := HD5.out.below hb6.out
      have HW6 : Hid (OwnI w3.heap.size w6 (.slice (some ⟨g4, 0, none⟩) 8 c4) vv) := own_below HW5.out hb6.out
      clear hb6 HD5 K5 hi5 hq6 hm HW5
      go_wp2_with fail
      refine (HCB.out w6 HD6.out).mono ?_
      rintro e w7 ⟨v7, rfl, hk7, hb7⟩
      obtain ⟨p7, c7, rfl, hi7, _⟩ := hk7.1
      rw [HNL.out]
      have K7 : Hid (Below w.heap.size w w7) := bel K6.out hb7
      have HD7 : Hid (DocAt w7 D S F) := HD6.out.below hb7
      have HW7 : Hid (OwnI w3.heap.size w7 (.slice (some ⟨g4, 0, none⟩) 8 c4) vv) := own_below HW6.out hb7
      have HR7 : Hid (Own w5.heap.size w7 (.slice q6 m c6) r) := own_below HR6.out hb7
      clear hk7 hb7 HD6 K6 HW6 HR6
      go_wp2_with fail
      refine (HCS.out w7 p7 c7 hi7).mono ?_
      rintro e w8 ⟨rfl, hb8⟩
      have K8 : Hid (Below w.heap.size w w8) := bel K7.out hb8.out
      have HD8 : Hid (DocAt w8 D S F) := HD7.out.below hb8.out
      have HW8 : Hid (OwnI w3.heap.size w8 (.slice (some ⟨g4, 0, none⟩) 8 c4) vv) := own_below HW7.out hb8.out
      have HR8 : Hid (Own w5.heap.size w8 (.slice q6 m c6) r) := own_below HR7.out hb8.out
      clear hb8 HD7 K7 HW7 HR7 hi7
      go_wp2_with fail
      go_loop [13, 14] (fun a i => ∃ (k : Nat) (x : Int), k ≤ 8 ∧ i = .int .i64 k ∧ a = .int .i64 x ∧ Hid (x = tot (vv.take k))) (fun a i => 8 - (intOf i).toNat)
      case atStart => exact ⟨0, 0, by omega, rfl, rfl, rfl⟩
      case round =>
        obtain ⟨k, x, hk, rfl, rfl, HX⟩ := hrel
        by_cases hlt : k < 8
        · have hltz : (k : Int) < 8 := by omega
          have hc := (HW8.out.cell HSM.out.vlen hlt).1
          have htk := tot_take (l := vv) (k := k) (by rw [HSM.out.vlen]; exact hlt)
          have hb1 := tot_take_le HSM.out.vpos k
          have hb2 := tot_take_le HSM.out.vpos (k + 1)
          rw [HSM.out.vsum] at hb1 hb2
          rw [← HX.out] at hb1 htk
          obtain ⟨y, hy⟩ : ∃ y, y = vv.getD k 0 := ⟨_, rfl⟩
          rw [← hy] at hc htk
          have HX2 : Hid (x + y = tot (vv.take (k + 1))) := htk.symm
          rw [htk] at hb2
          obtain ⟨hx0, hx1⟩ := hb1
          obtain ⟨hxy0, hxy1⟩ := hb2
          have hz1 : 0 ≤ x + y := hxy0
          have hz2 : x + y ≤ 300 := by omega
          clear hy htk hxy1 hxy0
          go_wp2
          go_round
          case rel => exact ⟨k + 1, x + y, by omega, by go_num, rfl, HX2⟩
          case measure => simp [intOf]; omega
        · obtain rfl : k = 8 := by omega
          obtain rfl : x = (T.size : Int) := by
            rw [HX.out, List.take_of_length_le (by rw [HSM.out.vlen]; omega)]; exact HSM.out.vsum
          clear HX HW8
          go_wp2_with fail
          go_loopw [15, 16] (fun b i wx => ∃ (k : Nat) (x : Int), k ≤ m ∧ i = .int .i64 k ∧ b = .int .i64 x ∧ Hid (x = tot ((r.map (·.2)).take k)) ∧ Hid (Below w8.heap.size w8 wx)) (fun b i _ => m - (intOf i).toNat)
          case atStart => exact ⟨0, 0, by omega, rfl, rfl, rfl, Below.refl _ _⟩
          case round =>
            obtain ⟨k, x, hk, rfl, rfl, HX, HBX⟩ := hrel
            by_cases hlt : k < m
            · have hltz : (k : Int) < m := by omega
              obtain ⟨g, rfl, _⟩ := HQ6.out (by omega)
              obtain ⟨b1, b2⟩ := HR8.out.cells HM.out hlt
              have B1 := (HBX.out.cell (World.block_lt_of_cell? _ _ b1)).trans b1
              have B2 := (HBX.out.cell (World.block_lt_of_cell? _ _ b2)).trans b2
              have htk := tot_take (l := r.map (·.2)) (k := k) (by rw [List.length_map, HM.out]; exact hlt)
              have hb1 := tot_take_le (many_pos r HSM.out.rn.many).1 k
              have hb2 := tot_take_le (many_pos r HSM.out.rn.many).1 (k + 1)
              rw [HSM.out.rn.sum] at hb1 hb2
              rw [← HX.out] at hb1 htk
              rw [map_getD] at htk
              have hone := HSM.out.rn.many k (by rw [HM.out]; exact hlt)
              have HAP : Hid (∀ j, k = j + 1 → (r.getD j zp).1 ≠ (r.getD k zp).1) := fun j hj => by
                have := HSM.out.rn.apart j (by rw [HM.out]; omega); rw [hj]; exact this
              obtain ⟨f, hf⟩ : ∃ f, f = r.getD k zp := ⟨_, rfl⟩
              rw [← hf] at B1 B2 htk hone HAP
              obtain ⟨fa, fm⟩ := f
              simp only at B1 B2 htk hone
              have HX2 : Hid (x + fm = tot ((r.map (·.2)).take (k + 1))) := htk.symm
              rw [htk] at hb2
              obtain ⟨hx0, hx1⟩ := hb1
              have hz1 : 0 ≤ x + fm := hb2.1
              have hz2 : x + fm ≤ 300 := by have := hb2.2; omega
              have t1 : decide (fm < 1) = false := decide_eq_false (by omega)
              clear hf htk hb2 b1 b2
              by_cases hk0 : k = 0
              · subst hk0
                have B1' : wr.cell? ⟨g, 0, none⟩ = some (.int .i64 fa) := by simpa using B1
                have B2' : wr.cell? ⟨g, 1, none⟩ = some (.int .i64 fm) := by simpa using B2
                clear B1 B2 HAP
                go_wp2_with fail
                go_quiet (fail)
                generalize hwq : World.drewN _ _ = wq
                have HBQ : Hid (Below w8.heap.size w8 wq) := by unfold Hid; rw [← hwq]; exact bel_drew HBX.out _
                clear hwq
                go_wp2_with fail
                go_roundw
                case rel => exact ⟨1, x + fm, by omega, by go_num, rfl, HX2, HBQ⟩
                case measure => simp [intOf]; omega
              · obtain ⟨j, rfl⟩ : ∃ j, k = j + 1 := ⟨k - 1, by omega⟩
                obtain ⟨a1, _⟩ := HR8.out.cells HM.out (show j < m by omega)
                have A1 := (HBX.out.cell (World.block_lt_of_cell? _ _ a1)).trans a1
                have hne := HAP.out j rfl
                obtain ⟨ga, hga⟩ : ∃ ga, ga = (r.getD j zp).1 := ⟨_, rfl⟩
                rw [← hga] at A1 hne
                have hnb : (ga == fa) = false := by simpa using hne
                have hjw : IntKind.i64.wrap (((j + 1 : Nat) : Int) - 1) = (j : Int) := by rw [show (((j + 1 : Nat) : Int) - 1) = (j : Int) by omega]; exact Sq2.wrap_in (by omega) (by omega)
                have hj1 : (j : Int) < m := by omega
                have hj2 : decide ((0 : Int) < ((j + 1 : Nat) : Int)) = true := decide_eq_true (by omega)
                clear hga hne HAP a1 hk0
                go_wp2_with fail
                go_quiet (fail)
                generalize hwq : World.drewN _ _ = wq
                have HBQ : Hid (Below w8.heap.size w8 wq) := by unfold Hid; rw [← hwq]; exact bel_drew HBX.out _
                clear hwq
                go_wp2_with fail
                go_roundw
                case rel => exact ⟨j + 1 + 1, x + fm, by omega, by go_num, rfl, HX2, HBQ⟩
                case measure => simp [intOf]; omega
            · obtain rfl : m = k := by omega
              obtain rfl : x = (T.size : Int) := by
                rw [HX.out, List.take_of_length_le (by rw [List.length_map, HM.out]; exact Nat.le_refl _)]; exact HSM.out.rn.sum
              have K9 : Hid (Below w.heap.size w wr) := bel K8.out HBX.out
              have HD9 : Hid (DocAt wr D S F) := HD8.out.below HBX.out
              clear HX HR8 HBX K8 HD8
              go_wp2_with fail
              refine (HCT.out wr HD9.out).mono ?_
              rintro e w10 ⟨rfl, hb10⟩
              have K10 : Hid (Below w.heap.size w w10) := bel K9.out hb10
              have HD10 : Hid (DocAt w10 D S F) := HD9.out.below hb10
              clear hb10 K9 HD9
              have hsum : (st : Int) + (T.size : Int) = (nl : Int) := by have := HALL.out; omega
              go_wp2_with fail
              refine (HCB.out w10 HD10.out).mono ?_
              rintro e w11 ⟨v11, rfl, hk11, hb11⟩
              obtain ⟨p11, c11, rfl, _⟩ := hk11.1
              rw [HNL.out]
              have K11 : Hid (Below w.heap.size w w11) := bel K10.out hb11
              clear hk11 hb11 K10 HD10
              go_wp2_with fail
              go_ret
              exact ⟨by first | rfl | (refine ret_bool ?_; simp), K11.out⟩

end Sq7
end Go.Proofs.Ytiiiineipajhmaa
