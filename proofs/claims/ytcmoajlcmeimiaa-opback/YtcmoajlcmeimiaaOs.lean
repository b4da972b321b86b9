/- The walk of OpBack: what is asked of package op is a premise here. -/
import Derived.Test.YtcmoajlcmeimiaaOv
import Derived.Test.YtcmoajlcmeimiaaOl
import Derived.Deep.DeepCutAuto
namespace Go.Proofs.Ytcmoajlcmeimiaa
namespace Os
set_option linter.unusedVariables false
open Go.ChangeShapes Go.WideShapes Go.ChangeAt Go.RowKit Cm Ka Kb Na Om Oa Oz Oc Og Oi Ol Ov
open La (bel bel_drew errV_zero errV_ne own_ge own_grow own_below)

theorem err_nil (k : Int) (w : World) : (binOp .eql 28 (errV k) .nilIface).run Try.prog w = .ok (.bool (k == 0)) w := by
  by_cases h : k = 0
  · subst h; rfl
  · rw [errV_ne h]
    have e : (k == 0) = false := by simpa using h
    rw [e]; rfl
theorem err_guard (k : Int) (n : Nat) (w : World) : (eqGuard .eql 28 (.tmp n) (.const .nilIface) (errV k) .nilIface).run Try.prog w = .ok () w := by
  by_cases h : k = 0
  · subst h; rfl
  · rw [errV_ne h]; rfl
theorem err_not (k : Int) (w : World) : (binOp .neq 28 (errV k) .nilIface).run Try.prog w = .ok (.bool (k != 0)) w := by
  by_cases h : k = 0
  · subst h; rfl
  · rw [errV_ne h]
    have e : (k != 0) = true := by simpa using h
    rw [e]; rfl
theorem err_nguard (k : Int) (n : Nat) (w : World) : (eqGuard .neq 28 (.tmp n) (.const .nilIface) (errV k) .nilIface).run Try.prog w = .ok () w := by
  by_cases h : k = 0
  · subst h; rfl
  · rw [errV_ne h]; rfl
def fact2 : Ox := ((1, 2), 2, ⟨#[110, 98]⟩, 0, [])
theorem fact2_right : opE fact2 = 0 := by kernel_rfl
theorem fact2_bytes : encS fact2 = ⟨#[2, 1, 0, 2, 2, 110, 98, 215]⟩ := by
  unfold encS; rw [if_pos fact2_right]; kernel_rfl
theorem enc_list {x : Ox} (h : opE x = 0) : (encS x).toList = bytesB x := by unfold encS; rw [if_pos h, bytesS_list]
theorem pack_list {l : List Ox} (h : packE l = 0) : (packS l).toList = packB l := by unfold packS; rw [if_pos h, toList_mk]
theorem each_len : ∀ (l : List Ox), (∀ o ∈ l, opE o = 0) → (eachB l).length ≤ 142 * l.length
  | [], _ => by simp [eachB]
  | o :: l, h => by
    have h1 := each_len l (fun x hx => h x (List.mem_cons_of_mem _ hx))
    have h2 := (bytes_le (h o (List.mem_cons_self ..))).2
    rw [eachB_cons, List.length_append, List.length_append, b2_len, List.length_cons]
    omega
/- a text with one byte put otherwise -/
def put (T : ByteArray) (i : Nat) (z : UInt8) : ByteArray := ⟨(T.toList.set i z).toArray⟩
/- the block of a text's bytes, one of them put otherwise -/
theorem row_free (w : World) (T : ByteArray) (C i : Nat) (hi : i < T.size) : (w.alloc (.cells (bytesRow T C) 5 ((bytesRow T C).size, (bytesRow T C).size + 1))).frozen? ⟨w.heap.size, i, none⟩ = false := by
  have hb : (w.alloc (.cells (bytesRow T C) 5 ((bytesRow T C).size, (bytesRow T C).size + 1))).heap[w.heap.size]? = some (.cells (bytesRow T C) 5 ((bytesRow T C).size, (bytesRow T C).size + 1)) := heap_alloc_new w _
  have hsz : i < (bytesRow T C).size := by
    have : T.data.size = T.size := rfl
    simp [bytesRow, this]; omega
  simp only [World.frozen?, hb]
  simp
  omega
theorem put_reads (w : World) (T : ByteArray) (C i : Nat) (z : UInt8) (f : Nat × Nat) (cap : Nat) (hi : i < T.size) :
    (convert 46 9 (.slice (some ⟨w.heap.size, 0, none⟩) T.size cap)).run Try.prog ((w.alloc (.cells (bytesRow T C) 5 f)).setCell ⟨w.heap.size, i, none⟩ (.int .u8 (z.toNat : Int))).drew = .ok (.string (put T i z)) ((w.alloc (.cells (bytesRow T C) 5 f)).setCell ⟨w.heap.size, i, none⟩ (.int .u8 (z.toNat : Int))).drew := by
  have hl : (T.toList.set i z).length = T.size := by rw [List.length_set, Om.len_eq]
  have h9 := run_convert_bytes_back (P := Try.prog) ((w.alloc (.cells (bytesRow T C) 5 f)).setCell ⟨w.heap.size, i, none⟩ (.int .u8 (z.toNat : Int))).drew 46 9 5 ⟨w.heap.size, 0, none⟩ cap (T.toList.set i z) Try.underlying46 Try.underlying5 Try.underlying9 ?_
  · rw [hl] at h9; exact h9
  · intro j hj
    rw [hl] at hj
    have hjl : j < T.toList.length := by rw [Om.len_eq]; exact hj
    rw [addr_zero, World.cell?_drew]
    by_cases e : j = i
    · subst e
      rw [World.cell?_setCell_same _ _ _ (text_new w T C f j hjl), List.getElem_set_self]
    · rw [World.cell?_setCell_other _ _ _ _ (by intro e9; injection e9; omega), text_new w T C f j hjl, List.getElem_set_ne (by omega), List.getD_eq_getElem?_getD, List.getElem?_eq_getElem hjl]; rfl
theorem put_ne {T : ByteArray} {i : Nat} {z : UInt8} (hi : i < T.size) (h : T[i] ≠ z) : (put T i z).toList ≠ T.toList := by
  unfold put; rw [toList_mk]
  intro e
  have h9 := congrArg (fun l => l.getD i 0) e
  have hl : i < T.toList.length := by rw [Om.len_eq]; exact hi
  simp only [List.getD_eq_getElem?_getD, List.getElem?_set_self hl] at h9
  have h8 := at_list T i hi
  rw [List.getD_eq_getElem?_getD] at h8
  rw [h8] at h9
  exact h (by simpa using h9.symm)

set_option maxRecDepth 100000 in
set_option maxHeartbeats 16000000 in
theorem walk (HE : EncodeSays) (HD : DecodeSays) (HP : PackSays) (HU : UnpackSays) (a b t : Int) (p : ByteArray) (c : Int) (vs : Value) (s : List Dt) (lv : Value) (l : List Ox) (cb : ByteArray) (ai : Int) (tz : UInt8) (w : World) (hd : DtsAt w vs s) (hp : p.size ≤ maxLen) (hl : OpsAt w lv l) (hlp : ∀ x ∈ l, x.2.2.1.size ≤ maxLen) (hcb : cb.size ≤ maxLen) :
    Calls Try.prog 4 #[.agg #[.int .i64 a, .int .i64 b, .int .i64 t, .string p, .int .i64 c, vs], lv, .string cb, .int .i64 ai, .int .u8 (tz.toNat : Int)] w fun e w' => e = .returned (.bool true) ∧ Below w.heap.size w w' := by
  obtain ⟨ps, cs, hvs, _⟩ := id hd
  obtain ⟨n, hn⟩ : ∃ n, n = s.length := ⟨_, rfl⟩
  rw [← hn] at hvs
  subst hvs
  clear hn
  obtain ⟨pl, cl, hlv, _⟩ := id hl
  obtain ⟨m, hml⟩ : ∃ m, m = l.length := ⟨_, rfl⟩
  rw [← hml] at hlv
  subst hlv
  clear hml
  have HS : Hid (∀ W, Below (w.alloc (.cells #[.int .i64 a, .int .i64 b, .int .i64 t, .string p, .int .i64 c, .slice ps n cs] 39)).heap.size (w.alloc (.cells #[.int .i64 a, .int .i64 b, .int .i64 t, .string p, .int .i64 c, .slice ps n cs] 39)) W → Six W w.heap.size a b t p c (.slice ps n cs) ∧ DtsAt W (.slice ps n cs) s ∧ Below w.heap.size w W) := by
    intro W hb
    have hbw := bel_new (Below.refl _ w) hb
    exact ⟨(six_new w a b t p c (.slice ps n cs) 39).below hb, hd.below hbw, hbw⟩
  have HLS : Hid (∀ W, Below (w.alloc (.cells #[.int .i64 a, .int .i64 b, .int .i64 t, .string p, .int .i64 c, .slice ps n cs] 39)).heap.size (w.alloc (.cells #[.int .i64 a, .int .i64 b, .int .i64 t, .string p, .int .i64 c, .slice ps n cs] 39)) W → OpsAt W (.slice pl m cl) l) := fun W hb => hl.below (HS.out W hb).2.2
  have HEE : Hid (∀ W, Below (w.alloc (.cells #[.int .i64 a, .int .i64 b, .int .i64 t, .string p, .int .i64 c, .slice ps n cs] 39)).heap.size (w.alloc (.cells #[.int .i64 a, .int .i64 b, .int .i64 t, .string p, .int .i64 c, .slice ps n cs] 39)) W → Calls Try.prog 11 #[.agg #[.int .i64 a, .int .i64 b, .int .i64 t, .string p, .int .i64 c, .slice ps n cs]] W fun e w' => e = .returned (.tuple #[.string (encS ((a, b), t, p, c, s)), errV (opE ((a, b), t, p, c, s))]) ∧ Below W.heap.size W w') := fun W hb => HE a b t p c _ s W (HS.out W hb).2.1 hp
  have HPP : Hid (∀ W, Below (w.alloc (.cells #[.int .i64 a, .int .i64 b, .int .i64 t, .string p, .int .i64 c, .slice ps n cs] 39)).heap.size (w.alloc (.cells #[.int .i64 a, .int .i64 b, .int .i64 t, .string p, .int .i64 c, .slice ps n cs] 39)) W → Calls Try.prog 14 #[.slice pl m cl] W fun e w' => e = .returned (.tuple #[.string (packS l), errV (packE l)]) ∧ Below W.heap.size W w') := fun W hb => HP _ l W (HLS.out W hb) hlp
  have C1 := HE 1 2 2 ⟨#[110, 98]⟩ 0 (.slice none 0 0) [] (w.alloc (.cells #[.int .i64 a, .int .i64 b, .int .i64 t, .string p, .int .i64 c, .slice ps n cs] 39)) (DtsAt.nil _) (by decide)
  rw [show opE ((1, 2), 2, ⟨#[110, 98]⟩, 0, []) = 0 from fact2_right, errV_zero, show encS ((1, 2), 2, ⟨#[110, 98]⟩, 0, []) = _ from fact2_bytes] at C1
  obtain ⟨q, hq⟩ : ∃ q, q = opE ((a, b), t, p, c, s) := ⟨_, rfl⟩
  obtain ⟨EN, hEN⟩ : ∃ EN, EN = encS ((a, b), t, p, c, s) := ⟨_, rfl⟩
  rw [← hq, ← hEN] at HEE
  have HQ0 : Hid (q = 0 → opE ((a, b), t, p, c, s) = 0 ∧ EN.toList = bytesB ((a, b), t, p, c, s)) := fun h => ⟨by rw [← hq]; exact h, by rw [hEN]; exact enc_list (by rw [← hq]; exact h)⟩
  obtain ⟨PK, hPK⟩ : ∃ PK, PK = packS l := ⟨_, rfl⟩
  obtain ⟨pe, hpe⟩ : ∃ pe, pe = packE l := ⟨_, rfl⟩
  rw [← hPK, ← hpe] at HPP
  have HP0 : Hid (pe = 0 → packE l = 0 ∧ PK.toList = packB l) := fun h => ⟨by rw [← hpe]; exact h, by rw [hPK]; exact pack_list (by rw [← hpe]; exact h)⟩
  clear hd hl hlp hq hEN hPK hpe hp
  have q2 : ∀ W, (binOp .eql 28 (errV q) .nilIface).run Try.prog W = .ok (.bool (q == 0)) W := fun W => err_nil _ W
  have g2 : ∀ (x : Nat) (W : World), (eqGuard .eql 28 (.tmp x) (.const .nilIface) (errV q) .nilIface).run Try.prog W = .ok () W := fun x W => err_guard _ x W
  have HT2 : Hid ((q == 0) = true → q = 0) := fun h => by simpa using h
  generalize errV q = e2 at HEE q2 g2
  generalize (q == 0) = t2 at q2 HT2
  have q3 : ∀ W, (binOp .eql 28 (errV pe) .nilIface).run Try.prog W = .ok (.bool (pe == 0)) W := fun W => err_nil _ W
  have g3 : ∀ (x : Nat) (W : World), (eqGuard .eql 28 (.tmp x) (.const .nilIface) (errV pe) .nilIface).run Try.prog W = .ok () W := fun x W => err_guard _ x W
  have HT3 : Hid ((pe == 0) = true → pe = 0) := fun h => by simpa using h
  generalize errV pe = e3 at HPP q3 g3
  generalize (pe == 0) = t3 at q3 HT3
  go_enter Try.func4, Try.ntmps4
  go_wp2_with fail
  refine C1.mono ?_
  rintro e w1 ⟨rfl, hb1⟩
  have K1 : Hid (Below (w.alloc (.cells #[.int .i64 a, .int .i64 b, .int .i64 t, .string p, .int .i64 c, .slice ps n cs] 39)).heap.size (w.alloc (.cells #[.int .i64 a, .int .i64 b, .int .i64 t, .string p, .int .i64 c, .slice ps n cs] 39)) w1) := hb1
  obtain ⟨⟨d0, d1, d2, d3, d4, d5⟩, _, _⟩ := HS.out _ K1.out
  have C2 := HEE.out w1 K1.out
  clear hb1 C1
  go_wp2_with fail
  refine C2.mono ?_
  rintro e w2 ⟨rfl, hb2⟩
  have K2 : Hid (Below (w.alloc (.cells #[.int .i64 a, .int .i64 b, .int .i64 t, .string p, .int .i64 c, .slice ps n cs] 39)).heap.size (w.alloc (.cells #[.int .i64 a, .int .i64 b, .int .i64 t, .string p, .int .i64 c, .slice ps n cs] 39)) w2) := bel K1.out hb2
  clear hb2 C2 d0 d1 d2 d3 d4 d5
  go_upto_if 44 with fail
  go_cut [15, 16, 17, 18, 19, 20] from 45 to 93 (fun _ _ _ _ _ _ wx => Hid (Below w2.heap.size w2 wx))
  case first =>
    cases t2
    · go_wp2_with fail
      go_meet
      case rel => exact Below.refl _ _
    · obtain ⟨h0, hEL⟩ := HQ0.out (HT2.out rfl)
      have HDB : Hid (decB EN.toList = some ((a, b), t, p, c, s)) := decB_iff.2 ⟨h0, hEL.symm⟩
      have hby := bytes_le h0
      rw [← hEL, Om.len_eq] at hby
      have hENm : EN.size ≤ maxLen := by unfold maxLen; omega
      have hs40 : s.length ≤ 1048576 := by have := (lawOf_zero.1 (opE_zero.1 h0).2.2.2).2.2.2.1; simp only at this; omega
      have HE140 : Hid (EN.size ≤ 140) := hby.2
      have HEL : Hid (EN.toList = bytesB ((a, b), t, p, c, s)) := hEL
      have C3 := HD EN w2 hENm
      have hde : decE EN = 0 := by unfold decE; rw [HDB.out]; rfl
      rw [hde, errV_zero, HDB.out] at C3
      simp only [Option.getD_some] at C3
      clear hde hEL hby h0
      go_wp2_with fail
      refine C3.mono ?_
      rintro e w3 ⟨u3, rfl, ⟨v3, rfl, hdv⟩, hb3⟩
      simp only at hdv
      obtain ⟨p3, n3, c3, rfl⟩ : ∃ p3 n3 c3, v3 = .slice p3 n3 c3 := by obtain ⟨_, _, e9, _⟩ := hdv; exact ⟨_, _, _, e9⟩
      unfold opV
      simp only
      have K3 : Hid (Below (w.alloc (.cells #[.int .i64 a, .int .i64 b, .int .i64 t, .string p, .int .i64 c, .slice ps n cs] 39)).heap.size (w.alloc (.cells #[.int .i64 a, .int .i64 b, .int .i64 t, .string p, .int .i64 c, .slice ps n cs] 39)) w3) := bel K2.out hb3
      have KX3 : Hid (Below w2.heap.size w2 w3) := hb3
      have HV3 : Hid (DtsAt w3 (.slice p3 n3 c3) s) := hdv
      clear hb3 C3 hdv
      obtain ⟨B3, hB3⟩ : ∃ B3, B3 = w3.alloc (.cells #[.int .i64 a, .int .i64 b, .int .i64 t, .string p, .int .i64 c, .slice p3 n3 c3] 39) := ⟨_, rfl⟩
      have K4 : Hid (Below (w.alloc (.cells #[.int .i64 a, .int .i64 b, .int .i64 t, .string p, .int .i64 c, .slice ps n cs] 39)).heap.size (w.alloc (.cells #[.int .i64 a, .int .i64 b, .int .i64 t, .string p, .int .i64 c, .slice ps n cs] 39)) B3) := by rw [hB3]; exact K3.out.alloc K3.out.size _
      have KX4 : Hid (Below w2.heap.size w2 B3) := by rw [hB3]; exact KX3.out.alloc KX3.out.size _
      have HV4 : Hid (DtsAt B3 (.slice p3 n3 c3) s) := by rw [hB3]; exact HV3.out.below ((Below.refl _ _).alloc (Nat.le_refl _) _)
      have HC4 : Hid (Six B3 w3.heap.size a b t p c (.slice p3 n3 c3)) := by rw [hB3]; exact six_new w3 a b t p c (.slice p3 n3 c3) 39
      obtain ⟨⟨d0, d1, d2, d3, d4, d5⟩, hds, _⟩ := HS.out _ K4.out
      obtain ⟨x0, x1, x2, x3, x4, x5⟩ := HC4.out
      have C5 := same_op a b t p c (.slice p3 n3 c3) s a b t p c (.slice ps n cs) s B3 HV4.out hds hs40
      rw [decide_eq_true rfl] at C5
      have HB3 : Hid (B3 = w3.alloc (.cells #[.int .i64 a, .int .i64 b, .int .i64 t, .string p, .int .i64 c, .slice p3 n3 c3] 39)) := hB3
      rw [hB3] at C5 d0 d1 d2 d3 d4 d5 x0 x1 x2 x3 x4 x5 K4 KX4
      clear hds hB3
      go_wp2_with fail
      refine C5.mono ?_
      rintro e w5 ⟨rfl, hb5⟩
      have K5 : Hid (Below (w.alloc (.cells #[.int .i64 a, .int .i64 b, .int .i64 t, .string p, .int .i64 c, .slice ps n cs] 39)).heap.size (w.alloc (.cells #[.int .i64 a, .int .i64 b, .int .i64 t, .string p, .int .i64 c, .slice ps n cs] 39)) w5) := bel K4.out hb5
      have KX5 : Hid (Below w2.heap.size w2 w5) := bel KX4.out hb5
      clear hb5 C5 d0 d1 d2 d3 d4 d5 x0 x1 x2 x3 x4 x5 HC4 HV4 HV3 K4 KX4 HB3
      by_cases c1 : 0 ≤ ai
      case neg =>
        go_wp2_with fail
        go_meet
        case rel => exact KX5
      obtain ⟨i, hi⟩ : ∃ i : Nat, ai = (i : Int) := ⟨ai.toNat, by omega⟩
      subst hi
      by_cases c2 : i < EN.size
      case neg =>
        have c2z : ¬ (i : Int) < EN.size := by omega
        go_wp2_with fail
        go_meet
        case rel => exact KX5
      have c2z : (i : Int) < EN.size := by omega
      have hib : EN[i].toNat < 256 := UInt8.toNat_lt _
      have htb : tz.toNat < 256 := UInt8.toNat_lt _
      by_cases c3 : EN[i] = tz
      · have c3b : ((EN[i].toNat : Int) != (tz.toNat : Int)) = false := by rw [c3]; simp
        go_wp2_with fail
        go_meet
        case rel => exact KX5
      have c3b : ((EN[i].toNat : Int) != (tz.toNat : Int)) = true := by
        rw [bne_iff_ne]; intro e9
        exact c3 (UInt8.toNat_inj.1 (by omega))
      have hcv := fun w => run_bytes_of_string (P := Try.prog) w 9 46 5 EN Try.underlying9 Try.underlying46 Try.underlying5
      have y1 : (w5.alloc (.cells (bytesRow EN (grownCap w5 EN.size 0 5)) 5 ((bytesRow EN (grownCap w5 EN.size 0 5)).size, (bytesRow EN (grownCap w5 EN.size 0 5)).size + 1))).cell? ⟨w5.heap.size, i, none⟩ = some (.int .u8 (EN[i].toNat : Int)) := by
        have h9 := text_new w5 EN (grownCap w5 EN.size 0 5) ((bytesRow EN (grownCap w5 EN.size 0 5)).size, (bytesRow EN (grownCap w5 EN.size 0 5)).size + 1) i (by rw [Om.len_eq]; exact c2)
        rw [at_list EN i c2] at h9; exact h9
      have y2 : (w5.alloc (.cells (bytesRow EN (grownCap w5 EN.size 0 5)) 5 ((bytesRow EN (grownCap w5 EN.size 0 5)).size, (bytesRow EN (grownCap w5 EN.size 0 5)).size + 1))).frozen? ⟨w5.heap.size, i, none⟩ = false := row_free w5 EN _ i c2
      have y3 : (convert 46 9 (.slice (some ⟨w5.heap.size, 0, none⟩) EN.size (grownCap w5 EN.size 0 5))).run Try.prog ((w5.alloc (.cells (bytesRow EN (grownCap w5 EN.size 0 5)) 5 ((bytesRow EN (grownCap w5 EN.size 0 5)).size, (bytesRow EN (grownCap w5 EN.size 0 5)).size + 1))).setCell ⟨w5.heap.size, i, none⟩ (.int .u8 (tz.toNat : Int))).drew = .ok (.string (put EN i tz)) ((w5.alloc (.cells (bytesRow EN (grownCap w5 EN.size 0 5)) 5 ((bytesRow EN (grownCap w5 EN.size 0 5)).size, (bytesRow EN (grownCap w5 EN.size 0 5)).size + 1))).setCell ⟨w5.heap.size, i, none⟩ (.int .u8 (tz.toNat : Int))).drew := put_reads w5 EN _ i tz _ _ c2
      obtain ⟨Y, hY⟩ : ∃ Y, Y = put EN i tz := ⟨_, rfl⟩
      have hYm : Y.size ≤ maxLen := by
        rw [hY, ← Om.len_eq]; unfold put; rw [toList_mk, List.length_set, Om.len_eq]; exact hENm
      have HYN : Hid (Y.toList ≠ EN.toList) := by rw [hY]; exact put_ne c2 c3
      rw [← hY] at y3
      obtain ⟨W6, hW6⟩ : ∃ W6, W6 = ((w5.alloc (.cells (bytesRow EN (grownCap w5 EN.size 0 5)) 5 ((bytesRow EN (grownCap w5 EN.size 0 5)).size, (bytesRow EN (grownCap w5 EN.size 0 5)).size + 1))).setCell ⟨w5.heap.size, i, none⟩ (.int .u8 (tz.toNat : Int))).drew := ⟨_, rfl⟩
      have hb56 : Below w5.heap.size w5 W6 := by rw [hW6]; exact (((Below.refl _ w5).alloc (Nat.le_refl _) _).setCell (p := ⟨w5.heap.size, i, none⟩) (Nat.le_refl _) _).drew
      have K6 : Hid (Below (w.alloc (.cells #[.int .i64 a, .int .i64 b, .int .i64 t, .string p, .int .i64 c, .slice ps n cs] 39)).heap.size (w.alloc (.cells #[.int .i64 a, .int .i64 b, .int .i64 t, .string p, .int .i64 c, .slice ps n cs] 39)) W6) := bel K5.out hb56
      have KX6 : Hid (Below w2.heap.size w2 W6) := bel KX5.out hb56
      have C7 := HD Y W6 hYm
      obtain ⟨z, hz⟩ : ∃ z, z = (decB Y.toList).getD oz := ⟨_, rfl⟩
      have hzl : z.2.2.2.2.length ≤ 1048576 := by rw [hz]; exact dec_len
      have HZ : Hid (decE Y = 0 → z ≠ ((a, b), t, p, c, s)) := by
        intro h9 hzx
        cases hdy : decB Y.toList with
        | none => unfold decE at h9; rw [hdy] at h9; exact absurd h9 (by decide)
        | some z9 =>
          rw [hdy] at hz
          simp only [Option.getD_some] at hz
          rw [hz] at hzx
          rw [hzx] at hdy
          exact HYN.out ((decB_iff.1 hdy).2.symm.trans HEL.out.symm)
      rw [← hz] at C7
      obtain ⟨dq, hdq⟩ : ∃ dq, dq = decE Y := ⟨_, rfl⟩
      rw [← hdq] at C7 HZ
      have q7 : ∀ W, (binOp .eql 28 (errV dq) .nilIface).run Try.prog W = .ok (.bool (dq == 0)) W := fun W => err_nil _ W
      have g7 : ∀ (x : Nat) (W : World), (eqGuard .eql 28 (.tmp x) (.const .nilIface) (errV dq) .nilIface).run Try.prog W = .ok () W := fun x W => err_guard _ x W
      generalize errV dq = e7 at C7 q7 g7
      rw [hW6] at C7 K6 KX6
      clear hY hW6 hb56 hz hdq c3 HYN
      obtain ⟨⟨za, zb⟩, zt, zp, zc, zs⟩ := z
      simp only at hzl
      go_wp2_with fail
      refine C7.mono ?_
      rintro e w7 ⟨u7, rfl, ⟨v7, rfl, hdv⟩, hb7⟩
      simp only at hdv
      obtain ⟨p7, n7, c7, rfl⟩ : ∃ p7 n7 c7, v7 = .slice p7 n7 c7 := by obtain ⟨_, _, e9, _⟩ := hdv; exact ⟨_, _, _, e9⟩
      unfold opV
      simp only
      have K7 : Hid (Below (w.alloc (.cells #[.int .i64 a, .int .i64 b, .int .i64 t, .string p, .int .i64 c, .slice ps n cs] 39)).heap.size (w.alloc (.cells #[.int .i64 a, .int .i64 b, .int .i64 t, .string p, .int .i64 c, .slice ps n cs] 39)) w7) := bel K6.out hb7
      have KX7 : Hid (Below w2.heap.size w2 w7) := bel KX6.out hb7
      have HV7 : Hid (DtsAt w7 (.slice p7 n7 c7) zs) := hdv
      clear hb7 C7 hdv y1 y2 y3
      have K8 : Hid (Below (w.alloc (.cells #[.int .i64 a, .int .i64 b, .int .i64 t, .string p, .int .i64 c, .slice ps n cs] 39)).heap.size (w.alloc (.cells #[.int .i64 a, .int .i64 b, .int .i64 t, .string p, .int .i64 c, .slice ps n cs] 39)) (w7.alloc (.cells #[.int .i64 za, .int .i64 zb, .int .i64 zt, .string zp, .int .i64 zc, .slice p7 n7 c7] 39))) := K7.out.alloc K7.out.size _
      have KX8 : Hid (Below w2.heap.size w2 (w7.alloc (.cells #[.int .i64 za, .int .i64 zb, .int .i64 zt, .string zp, .int .i64 zc, .slice p7 n7 c7] 39))) := KX7.out.alloc KX7.out.size _
      obtain ⟨⟨d0, d1, d2, d3, d4, d5⟩, hds, _⟩ := HS.out _ K8.out
      obtain ⟨x0, x1, x2, x3, x4, x5⟩ := six_new w7 za zb zt zp zc (.slice p7 n7 c7) 39
      have C9 := same_op za zb zt zp zc (.slice p7 n7 c7) zs a b t p c (.slice ps n cs) s _ (HV7.out.below ((Below.refl _ _).alloc (Nat.le_refl _) (.cells #[.int .i64 za, .int .i64 zb, .int .i64 zt, .string zp, .int .i64 zc, .slice p7 n7 c7] 39))) hds hzl
      obtain ⟨lk, hlk⟩ : ∃ lk, lk = decide ((((za, zb), zt, zp, zc, zs) : Ox) = ((a, b), t, p, c, s)) := ⟨_, rfl⟩
      have HLK : Hid ((dq == 0) = true → lk = false) := by
        intro h9
        rw [hlk, decide_eq_false_iff_not]
        exact HZ.out (by simpa using h9)
      rw [← hlk] at C9
      clear hds hlk
      generalize (dq == 0) = t7 at q7 HLK
      go_wp2_with fail
      refine C9.mono ?_
      rintro e w9 ⟨rfl, hb9⟩
      have KX9 : Hid (Below w2.heap.size w2 w9) := bel KX8.out hb9
      clear hb9 C9 d0 d1 d2 d3 d4 d5 x0 x1 x2 x3 x4 x5
      cases t7
      · go_wp2_with fail
        go_meet
        case rel => exact KX9
      · have hlf := HLK.out rfl
        subst hlf
        go_wp2_with fail
        go_meet
        case rel => exact KX9
  case rest =>
  have K10 : Hid (Below (w.alloc (.cells #[.int .i64 a, .int .i64 b, .int .i64 t, .string p, .int .i64 c, .slice ps n cs] 39)).heap.size (w.alloc (.cells #[.int .i64 a, .int .i64 b, .int .i64 t, .string p, .int .i64 c, .slice ps n cs] 39)) wc) := bel K2.out hcut.out
  clear hcut HQ0 HT2 q2 g2 K2 K1
  have C10 := HPP.out wc K10.out
  go_wp2_with fail
  refine C10.mono ?_
  rintro e w10 ⟨rfl, hb10⟩
  have K11 : Hid (Below (w.alloc (.cells #[.int .i64 a, .int .i64 b, .int .i64 t, .string p, .int .i64 c, .slice ps n cs] 39)).heap.size (w.alloc (.cells #[.int .i64 a, .int .i64 b, .int .i64 t, .string p, .int .i64 c, .slice ps n cs] 39)) w10) := bel K10.out hb10
  clear hb10 C10 K10
  go_upto_if 100 with fail
  go_cut [21, 22, 23] from 101 to 114 (fun _ _ _ wx => Hid (Below w10.heap.size w10 wx))
  case first =>
    cases t3
    · go_wp2_with fail
      go_meet
      case rel => exact Below.refl _ _
    · obtain ⟨h0, hPL⟩ := HP0.out (HT3.out rfl)
      have hup : unpB PK.toList = some l := unpB_iff.2 ⟨h0, hPL.symm⟩
      have hPKm : PK.size ≤ maxLen := by
        rw [← Om.len_eq, hPL]; unfold packB; rw [List.length_append, b2_len]
        have h8 := each_len l (packE_zero.1 h0).2
        have h7 := (packE_zero.1 h0).1
        unfold maxLen; omega
      have hll := @unp_len PK.toList
      rw [hup] at hll
      simp only [Option.getD_some] at hll
      have C12 := HU PK w10 hPKm
      rw [show unpE PK = 0 by unfold unpE; rw [hup]; rfl, errV_zero, hup] at C12
      simp only [Option.getD_some] at C12
      clear hup h0 hPL
      go_wp2_with fail
      refine C12.mono ?_
      rintro e w12 ⟨v12, rfl, ho12, hb12⟩
      have KX12 : Hid (Below w10.heap.size w10 w12) := hb12
      have C13 := same_ops v12 (.slice pl m cl) l l w12 ho12 ((HLS.out _ K11.out).below hb12) hll.1 hll.2
      rw [decide_eq_true rfl] at C13
      obtain ⟨p12, n12, c12, rfl⟩ : ∃ p12 n12 c12, v12 = .slice p12 n12 c12 := by obtain ⟨_, _, e9, _⟩ := ho12; exact ⟨_, _, _, e9⟩
      clear hb12 C12 ho12 hll
      go_wp2_with fail
      refine C13.mono ?_
      rintro e w13 ⟨rfl, hb13⟩
      have KX13 : Hid (Below w10.heap.size w10 w13) := bel KX12.out hb13
      clear hb13 C13
      go_wp2_with fail
      go_meet
      case rel => exact KX13
  case rest =>
  have K14 : Hid (Below (w.alloc (.cells #[.int .i64 a, .int .i64 b, .int .i64 t, .string p, .int .i64 c, .slice ps n cs] 39)).heap.size (w.alloc (.cells #[.int .i64 a, .int .i64 b, .int .i64 t, .string p, .int .i64 c, .slice ps n cs] 39)) wc) := bel K11.out hcut.out
  clear hcut HP0 HT3 q3 g3 K11
  obtain ⟨ul, hul⟩ : ∃ ul, ul = (unpB cb.toList).getD [] := ⟨_, rfl⟩
  by_cases hu : unpB cb.toList = none
  · have C15 := HU cb wc hcb
    rw [show unpE cb = 2 by unfold unpE; rw [hu]; rfl, errV_ne (by decide), ← hul] at C15
    clear hul hu
    go_wp2_with fail
    refine C15.mono ?_
    rintro e w15 ⟨v15, rfl, ho15, hb15⟩
    obtain ⟨p15, n15, c15, rfl⟩ : ∃ p15 n15 c15, v15 = .slice p15 n15 c15 := by obtain ⟨_, _, e9, _⟩ := ho15; exact ⟨_, _, _, e9⟩
    have K15 : Hid (Below (w.alloc (.cells #[.int .i64 a, .int .i64 b, .int .i64 t, .string p, .int .i64 c, .slice ps n cs] 39)).heap.size (w.alloc (.cells #[.int .i64 a, .int .i64 b, .int .i64 t, .string p, .int .i64 c, .slice ps n cs] 39)) w15) := bel K14.out hb15
    clear hb15 C15 ho15
    go_wp2_with fail
    go_ret
    exact ⟨rfl, (HS.out _ K15.out).2.2⟩
  · obtain ⟨u9, hu9⟩ : ∃ u9, unpB cb.toList = some u9 := by
      cases h9 : unpB cb.toList with
      | none => exact absurd h9 hu
      | some u9 => exact ⟨u9, rfl⟩
    obtain ⟨hr0, hrb⟩ := unpB_iff.1 hu9
    have C15 := HU cb wc hcb
    rw [show unpE cb = 0 by unfold unpE; rw [hu9]; rfl, errV_zero, hu9] at C15
    simp only [Option.getD_some] at C15
    have HCP : Hid (∀ (v : Value) W, OpsAt W v u9 → Calls Try.prog 14 #[v] W fun e w' => e = .returned (.tuple #[.string cb, .nilIface]) ∧ Below W.heap.size W w') := by
      intro v W hv
      have h9 := HP v u9 W hv (fun x hx => by
        have h8 := Bm.chk_pos (opE_zero.1 ((packE_zero.1 hr0).2 x hx)).2.2.1
        rw [Om.len_eq] at h8; unfold maxLen; omega)
      have hpc : packS u9 = cb := mk_eq (by rw [pack_list hr0]; exact hrb)
      rw [hr0, errV_zero, hpc] at h9
      exact h9
    clear hul hu hu9 hr0 hrb
    go_wp2_with fail
    refine C15.mono ?_
    rintro e w15 ⟨v15, rfl, ho15, hb15⟩
    have C16 := HCP.out v15 w15 ho15
    obtain ⟨p15, n15, c15, rfl⟩ : ∃ p15 n15 c15, v15 = .slice p15 n15 c15 := by obtain ⟨_, _, e9, _⟩ := ho15; exact ⟨_, _, _, e9⟩
    have K15 : Hid (Below (w.alloc (.cells #[.int .i64 a, .int .i64 b, .int .i64 t, .string p, .int .i64 c, .slice ps n cs] 39)).heap.size (w.alloc (.cells #[.int .i64 a, .int .i64 b, .int .i64 t, .string p, .int .i64 c, .slice ps n cs] 39)) w15) := bel K14.out hb15
    clear hb15 C15 ho15
    go_wp2_with fail
    refine C16.mono ?_
    rintro e w16 ⟨rfl, hb16⟩
    have K16 : Hid (Below (w.alloc (.cells #[.int .i64 a, .int .i64 b, .int .i64 t, .string p, .int .i64 c, .slice ps n cs] 39)).heap.size (w.alloc (.cells #[.int .i64 a, .int .i64 b, .int .i64 t, .string p, .int .i64 c, .slice ps n cs] 39)) w16) := bel K15.out hb16
    clear hb16 C16
    go_wp2_with fail
    go_ret
    exact ⟨rfl, (HS.out _ K16.out).2.2⟩

end Os
end Go.Proofs.Ytcmoajlcmeimiaa
