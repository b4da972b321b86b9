/- The walk of LinkRow: what is asked of package link is a premise here. -/
import Derived.Test.YtaicacnijlneaaaEe
import Derived.Test.YtaicacnijlneaaaEg
import Derived.Deep.DeepCutAuto
namespace Go.Proofs.Ytaicacnijlneaaa
namespace Ei
set_option linter.unusedVariables false
set_option linter.unusedSimpArgs false
open Go.ChangeShapes Go.WideShapes Go.ChangeAt Go.RowKit Ka Kb Ec Ed Ee Ef Eg

def tx : ByteArray := ⟨#[120]⟩
def xs (n : Nat) : List ByteArray := List.replicate n tx
def aw (W n : Nat) : Ln := { Ec.new W 5 with all := xs n }
theorem send_x {W n : Nat} (h : n < 90) : sendE (aw W n) tx = 0 ∧ sendS (aw W n) tx = aw W (n + 1) := by
  have h1 : left (aw W n) = n := by show (xs n).length - 0 = n; unfold xs; simp
  have he : sendE (aw W n) tx = 0 := by
    unfold sendE
    rw [h1, if_neg]
    intro e
    rcases e with e | e
    · exact absurd e (by decide)
    · omega
  refine ⟨he, ?_⟩
  unfold sendS
  rw [if_neg (by simpa using he)]
  show ({ aw W n with all := xs n ++ [tx] } : Ln) = aw W (n + 1)
  have e9 : xs n ++ [tx] = xs (n + 1) := by unfold xs; rw [List.replicate_succ']
  rw [e9]; rfl
theorem start {W n : Nat} (h1 : 1 ≤ W) (h2 : W ≤ 16) : R (xs n) 0 (aw W n) (Ec.new W 5) := by
  have i0 : Inv (Ec.new W 5) := ⟨h1, h2, (by decide : 1 ≤ 5), (by decide : 5 ≤ 20), Nat.le_refl _, Nat.le_refl _, Nat.zero_le _⟩
  have ia : Inv (aw W n) := ⟨h1, h2, (by decide : 1 ≤ 5), (by decide : 5 ≤ 20), Nat.le_refl _, Nat.zero_le _, Nat.zero_le _⟩
  refine ⟨⟨ia, i0, rfl, rfl, rfl, rfl, Nat.le_refl _, Nat.le_refl _, fun d hd => ?_⟩, rfl, rfl, rfl, rfl, rfl⟩
  unfold xs at hd
  rw [List.eq_of_mem_replicate hd]; decide
theorem frames_snoc (sent : List ByteArray) (m k : Nat) : frames sent m (k + 1) = frames sent m k ++ [frame sent (m + k + 1)] := by
  unfold frames
  rw [show k + 1 = k + 1 from rfl, List.range'_concat, List.map_append]
  simp only [List.map_cons, List.map_nil, Nat.one_mul]
  rw [show m + 1 + k = m + k + 1 by omega]
theorem newE_row (a : Int) : newE a 5 = if a < 1 ∨ 16 < a then 1 else 0 := by
  unfold newE
  by_cases h : a < 1 ∨ 16 < a
  · rw [if_pos h, if_pos (by omega)]
  · rw [if_neg h, if_neg (by omega)]
theorem new_bad (L : LinkSays) (a b : Int) (w : World) (h : newE a b ≠ 0) : Calls Try.prog 5 #[.int .i64 a, .int .i64 b] w fun e w' => e = .returned (.tuple #[.pointer none, .iface 40 (.int .i64 1)]) ∧ Below w.heap.size w w' := by
  refine (L.new a b w).mono ?_
  rintro e w' ⟨h1 | h1, hb⟩
  · have e1 : newE a b = 1 := by unfold newE at h ⊢; split; rfl; rename_i h9; rw [if_neg h9] at h; exact absurd rfl h
    rw [e1, errV_ne (by decide)] at h1
    exact ⟨h1.2, hb⟩
  · exact absurd h1.1 h
theorem new_good (L : LinkSays) (a b : Int) (w : World) (h : newE a b = 0) : Calls Try.prog 5 #[.int .i64 a, .int .i64 b] w fun e w' => ∃ X F, e = .returned (.tuple #[ptr X, .nilIface]) ∧ L.At w' X (Ec.new a.toNat b.toNat) F ∧ (∀ g, F g → w.heap.size ≤ g) ∧ Below w.heap.size w w' := by
  refine (L.new a b w).mono ?_
  rintro e w' ⟨h1 | ⟨_, X, F, h2, h3, h4⟩, hb⟩
  · exact absurd h h1.1
  · exact ⟨X, F, h2, h3, h4, hb⟩

set_option maxRecDepth 100000 in
set_option maxHeartbeats 8000000 in
theorem walk (L : LinkSays) (a n : Int) (w : World) : Calls Try.prog 4 #[.int .i64 a, .int .i64 n] w fun e w' => e = .returned (.bool true) ∧ Below w.heap.size w w' := by
  by_cases hw : a < 1 ∨ 16 < a
  · have hne : newE a 5 ≠ 0 := by rw [newE_row, if_pos hw]; decide
    have C1 := new_bad L a 5 w hne
    rcases hw with hw | hw
    · go_enter Try.func4, Try.ntmps4
      go_wp2_with fail
      refine C1.mono ?_
      rintro e w1 ⟨rfl, hb1⟩
      have HB1 : Hid (Below w.heap.size w w1) := hb1
      have C2 := new_bad L a 5 w1 hne
      clear hb1 C1 hne
      go_wp2_with fail
      refine C2.mono ?_
      rintro e w2 ⟨rfl, hb2⟩
      have HB2 : Hid (Below w.heap.size w w2) := bel HB1.out hb2
      clear hb2 C2
      go_wp2_with fail
      go_ret
      exact ⟨rfl, HB2.out⟩
    · have hw2 : ¬ a < 1 := by omega
      go_enter Try.func4, Try.ntmps4
      go_wp2_with fail
      refine C1.mono ?_
      rintro e w1 ⟨rfl, hb1⟩
      have HB1 : Hid (Below w.heap.size w w1) := hb1
      have C2 := new_bad L a 5 w1 hne
      clear hb1 C1 hne
      go_wp2_with fail
      refine C2.mono ?_
      rintro e w2 ⟨rfl, hb2⟩
      have HB2 : Hid (Below w.heap.size w w2) := bel HB1.out hb2
      clear hb2 C2
      go_wp2_with fail
      go_ret
      exact ⟨rfl, HB2.out⟩
  · have hge : newE a 5 = 0 := by rw [newE_row, if_neg hw]
    have hw1 : ¬ a < 1 := by omega
    have hw2 : ¬ 16 < a := by omega
    have C1 := new_good L a 5 w hge
    have C2 : Hid (∀ W, Calls Try.prog 5 #[.int .i64 a, .int .i64 5] W fun e w' => ∃ X F, e = .returned (.tuple #[ptr X, .nilIface]) ∧ L.At w' X (Ec.new a.toNat 5) F ∧ (∀ g, F g → W.heap.size ≤ g) ∧ Below W.heap.size W w') := fun W => new_good L a 5 W hge
    clear hge hw
    by_cases hn : n < 0 ∨ 90 < n
    · rcases hn with hn | hn
      · go_enter Try.func4, Try.ntmps4
        go_wp2_with fail
        refine C1.mono ?_
        rintro e w1 ⟨X, F, rfl, _, _, hb1⟩
        have HB1 : Hid (Below w.heap.size w w1) := hb1
        clear hb1 C1
        go_wp2_with fail
        refine (C2.out w1).mono ?_
        rintro e w2 ⟨Y, G, rfl, _, _, hb2⟩
        have HB2 : Hid (Below w.heap.size w w2) := bel HB1.out hb2
        clear hb2 C2
        go_wp2_with fail
        go_ret
        exact ⟨rfl, HB2.out⟩
      · have hn0 : ¬ n < 0 := by omega
        go_enter Try.func4, Try.ntmps4
        go_wp2_with fail
        refine C1.mono ?_
        rintro e w1 ⟨X, F, rfl, _, _, hb1⟩
        have HB1 : Hid (Below w.heap.size w w1) := hb1
        clear hb1 C1
        go_wp2_with fail
        refine (C2.out w1).mono ?_
        rintro e w2 ⟨Y, G, rfl, _, _, hb2⟩
        have HB2 : Hid (Below w.heap.size w w2) := bel HB1.out hb2
        clear hb2 C2
        go_wp2_with fail
        go_ret
        exact ⟨rfl, HB2.out⟩
    obtain ⟨N, rfl⟩ : ∃ N : Nat, n = N := ⟨n.toNat, by omega⟩
    obtain ⟨W, rfl⟩ : ∃ W : Nat, a = W := ⟨a.toNat, by omega⟩
    have hn1 : ¬ (N : Int) < 0 := by omega
    have hn2 : ¬ (90 : Int) < N := by omega
    have hN : N ≤ 90 := by omega
    have hW1 : 1 ≤ W := by omega
    have hW2 : W ≤ 16 := by omega
    clear hn
    go_enter Try.func4, Try.ntmps4
    go_wp2_with fail
    refine C1.mono ?_
    rintro e w1 ⟨X, F1, rfl, hx, hf1, hb1⟩
    have HB1 : Hid (Below w.heap.size w w1) := hb1
    have HX1 : Hid (L.At w1 X (aw W 0) F1) := by unfold Hid; rw [show (W : Int).toNat = W by omega] at hx; exact hx
    have HF1 : Hid (∀ g, F1 g → w.heap.size ≤ g) := hf1
    clear hb1 C1 hx hf1
    go_wp2_with fail
    refine (C2.out w1).mono ?_
    rintro e w2 ⟨Y, G1, rfl, hy, hg1, hb2⟩
    have HB2 : Hid (Below w.heap.size w w2) := bel HB1.out hb2
    have HT2 : Hid (Two L w.heap.size w2 X Y (aw W 0) (Ec.new W 5) F1 G1) := ⟨L.below HX1.out hb2, by rw [show (W : Int).toNat = W by omega] at hy; exact hy, fun g e1 e2 => by have := L.lt HX1.out g e1; have := hg1 g e2; omega, HF1.out, fun g hg => Nat.le_trans HB1.out.size (hg1 g hg)⟩
    clear hb2 C2 hy hg1 HX1 HF1
    go_wp2_with fail
    go_loopw [9] (fun vi wr => ∃ (i : Nat) (F : Nat → Prop), i ≤ N ∧ vi = .int .i64 i ∧ Hid (Two L w.heap.size wr X Y (aw W i) (Ec.new W 5) F G1) ∧ Hid (Below w.heap.size w wr)) (fun vi _ => N - (intOf vi).toNat)
    case atStart => exact ⟨0, F1, by omega, rfl, HT2, HB2⟩
    case round =>
      clear HT2 HB2 HB1
      obtain ⟨i, F, hi, rfl, HT, HB⟩ := hrel
      by_cases hlt : i < N
      · have hltz : (i : Int) < N := by omega
        have C := L.send X (aw W i) F tx wr HT.out.x ⟨by show (xs i).length ≤ 1000; unfold xs; simp; omega, Nat.zero_le _, Nat.zero_le _⟩ (by unfold maxLen tx; decide)
        rw [(send_x (W := W) (show i < 90 by omega)).1, (send_x (W := W) (show i < 90 by omega)).2, errV_zero] at C
        go_wp2_with fail
        refine C.mono ?_
        rintro e w3 ⟨rfl, F3, hx3, hc3, hf3⟩
        have HT3 : Hid (Two L w.heap.size w3 X Y (aw W (i + 1)) (Ec.new W 5) F3 G1) := HT.out.set_x HB.out.size hx3 hc3 hf3
        have HB3 : Hid (Below w.heap.size w w3) := hc3.below HT.out.lx HB.out HB.out.size
        clear C hx3 hc3 hf3
        go_wp2_with fail
        go_roundw
        case rel => exact ⟨i + 1, F3, by omega, by go_num, HT3, HB3⟩
        case measure => simp [intOf]; omega
      · obtain rfl : i = N := by omega
        have hltz : ¬ (i : Int) < i := by omega
        obtain ⟨w4, rfl⟩ : ∃ w4, w4 = wr := ⟨_, rfl⟩
        have HST : Hid (R (xs i) 0 (aw W i) (Ec.new W 5)) := start hW1 hW2
        have HSL : Hid ((xs i).length = i) := by unfold Hid xs; simp
        go_wp2_with fail
        go_loopw [10] (fun vi wr => ∃ (went : Nat) (s b : Ln) (F G : Nat → Prop), went ≤ i ∧ vi = .int .i64 went ∧ Hid (R (xs i) went s b) ∧ Hid (s.win = W ∧ s.got.length ≤ 0 ∧ b.ticks ≤ 0) ∧ Hid (Two L w.heap.size wr X Y s b F G) ∧ Hid (Below w.heap.size w wr)) (fun vi _ => i - (intOf vi).toNat)
        case atStart => exact ⟨0, aw W i, Ec.new W 5, F, G1, by omega, rfl, HST, ⟨rfl, Nat.le_refl _, Nat.le_refl _⟩, HT, HB⟩
        case round =>
          clear HT HB HST
          obtain ⟨went, s, b, Fs, Gb, hwi, rfl, HR, HQ, HT, HB⟩ := hrel
          have HFS : Hid (Fit s) := ⟨by rw [HR.out.k.all, HSL.out]; omega, by have := HQ.out.2.1; omega, by rw [HR.out.tk]; omega⟩
          by_cases hlt : went < i
          · have hltz2 : (went : Int) < i := by omega
            have hwl : went < (xs i).length := by rw [HSL.out]; exact hlt
            have C := L.out X s Fs wr HT.out.x HFS.out
            have hlen := HR.out.len
            have hwp := wide_pos HR.out hwl
            have hwd : wide (xs i) went s = min W (i - went) := by unfold wide; rw [HQ.out.1, HSL.out]
            obtain ⟨k, hk⟩ : ∃ k, k = wide (xs i) went s := ⟨_, rfl⟩
            have HK : Hid (k = wide (xs i) went s) := hk
            rw [← hk] at hlen hwp hwd
            have hkw : k ≤ W := by omega
            have hki : went + k ≤ i := by omega
            have HWD : Hid (k = min W (i - went)) := hwd
            have HOF : Hid (outF s = frames (xs i) went k) := by unfold Hid; rw [HR.out.out, ← hk]
            have HLN : Hid ((outF s).length = k) := hlen
            clear hk hlen hwl hwd
            go_wp2_with fail
            refine C.mono ?_
            rintro e w5 ⟨p5, n5, c5, F5, rfl, hfr, hx5, hc5, hf5⟩
            obtain ⟨q5, d5, e5, hfk, _⟩ := hfr
            injection e5 with e5a e5b e5c
            subst e5a e5c
            rw [HLN.out] at e5b
            have e5d := e5b.symm
            subst e5d
            have HT5 : Hid (Two L w.heap.size w5 X Y (outS s) b F5 Gb) := HT.out.set_x HB.out.size hx5 hc5 hf5
            have HB5 : Hid (Below w.heap.size w w5) := hc5.below HT.out.lx HB.out HB.out.size
            have HFK : Hid (FrsK (fun g => New wr.heap.size w5 g ∧ ¬ F5 g) w5 p5 (frames (xs i) went k)) := by unfold Hid; rw [← HOF.out]; exact hfk
            have HOG : Hid (∀ g, (New wr.heap.size w5 g ∧ ¬ F5 g) → ¬ Gb g) := fun g hg e9 => by have := L.lt HT.out.y g e9; have := hg.1.1; omega
            have HLT : Hid (∀ g, (New wr.heap.size w5 g ∧ ¬ F5 g) → g < w5.heap.size ∧ ¬ F5 g) := fun g hg => ⟨hg.1.2, hg.2⟩
            obtain ⟨Rr, hRr⟩ : ∃ Rr : Nat → Prop, Rr = fun g => New wr.heap.size w5 g ∧ ¬ F5 g := ⟨_, rfl⟩
            rw [← hRr] at HFK
            have HOG2 : Hid (∀ g, Rr g → ¬ Gb g) := by rw [hRr]; exact HOG.out
            have HLT2 : Hid (∀ g, Rr g → g < w5.heap.size ∧ ¬ F5 g) := by rw [hRr]; exact HLT.out
            clear C hfk hx5 hc5 hf5 HOG HLT hRr HT HB
            go_upto_if 71 with fail
            go_cut [12] from 69 to 72 (fun s12 wx => s12 = .int .i64 (k : Int) ∧ w5 = wx)
            case first =>
              by_cases hgt : W < i - went
              · have hgz : (W : Int) < (i : Int) - (went : Int) := by omega
                have HKW : Hid (k = W) := by have := HWD.out; unfold Hid; omega
                go_wp2_with fail
                go_meet
                case rel => exact ⟨by rw [HKW.out], rfl⟩
              · have hgz : ¬ (W : Int) < (i : Int) - (went : Int) := by omega
                have HKW : Hid ((k : Int) = (i : Int) - (went : Int)) := by have := HWD.out; unfold Hid; omega
                go_wp2_with fail
                go_meet
                case rel => exact ⟨by rw [HKW.out], rfl⟩
            case rest =>
            obtain ⟨rfl, hw5⟩ := hcut
            subst hw5
            go_wp2_with fail
            go_loopw [13] (fun vi wr => ∃ (j : Nat) (G : Nat → Prop), j ≤ k ∧ vi = .int .i64 j ∧ Hid (Two L w.heap.size wr X Y (outS s) ((frames (xs i) went j).foldl hearS b) F5 G) ∧ Hid (FrsK Rr wr p5 (frames (xs i) went k)) ∧ Hid (∀ g, Rr g → ¬ G g) ∧ Hid (w5.heap.size ≤ wr.heap.size) ∧ Hid (Below w.heap.size w wr)) (fun vi _ => k - (intOf vi).toNat)
            case atStart => exact ⟨0, Gb, by omega, rfl, HT5, HFK, HOG2, Nat.le_refl _, HB5⟩
            case round =>
              clear HT5 HFK HOG2 HB5
              obtain ⟨j, G, hj, rfl, HT, HFK, HOG, HZ, HB⟩ := hrel
              by_cases hjk : j < k
              · have hjz : (j : Int) < k := by omega
                obtain ⟨bo, oo, rfl, hRb, hc⟩ := HFK.out.some (by intro e9; have := congrArg List.length e9; rw [show (frames (xs i) went k).length = k by unfold frames; simp] at this; simp at this; omega)
                have hcj := hc j (by unfold frames; simp; exact hjk)
                have hgd : (frames (xs i) went k).getD j fz = frame (xs i) (went + j + 1) := by rw [List.getD_eq_getElem?_getD, frames_at _ _ _ _ hjk]; rfl
                rw [hgd] at hcj
                obtain ⟨f0, f1, f2⟩ := hcj
                have f0' : wr.cell? ⟨bo, oo + j * 3, none⟩ = some (.bool false) := f0
                have f1' : wr.cell? ⟨bo, oo + j * 3 + 1, none⟩ = some (.int .i64 ((went + j + 1 : Nat) : Int)) := f1
                obtain ⟨dd, hdd⟩ : ∃ dd, dd = (xs i).getD (went + j + 1 - 1) e0 := ⟨_, rfl⟩
                have f2' : wr.cell? ⟨bo, oo + j * 3 + 2, none⟩ = some (.string dd) := by rw [hdd]; exact f2
                obtain ⟨q, hq⟩ : ∃ q : Int, q = ((went + j + 1 : Nat) : Int) := ⟨_, rfl⟩
                rw [← hq] at f1'
                have hfe : ((false, q, dd) : Fr) = frame (xs i) (went + j + 1) := by rw [hq, hdd]; rfl
                have hds : dd.size ≤ maxLen := by
                  have := HR.out.k.sz dd (by rw [hdd, List.getD_eq_getElem?_getD, List.getElem?_eq_getElem (by rw [HSL.out]; omega)]; exact List.getElem_mem _)
                  unfold maxLen; omega
                have hbj := HR.out.heard (j := j) (by rw [HSL.out]; omega)
                have HFT : Hid (Fit ((frames (xs i) went j).foldl hearS b)) := by
                  unfold Hid; rw [hbj]
                  refine ⟨by rw [HR.out.k.ball]; exact Nat.zero_le _, ?_, by have := HQ.out.2.2; show b.ticks ≤ 100000; omega⟩
                  show ((xs i).take (went + j)).length ≤ 1000
                  rw [List.length_take]; omega
                have C := L.hear Y _ G false q dd wr HT.out.y HFT.out hds
                have he0 : hearE ((frames (xs i) went j).foldl hearS b) (false, q, dd) = 0 := by rw [hfe]; exact HR.out.hears (by rw [HSL.out]; omega) _
                have hs1 : hearS ((frames (xs i) went j).foldl hearS b) (false, q, dd) = (frames (xs i) went (j + 1)).foldl hearS b := by rw [hfe, frames_snoc, List.foldl_append]; rfl
                rw [he0, hs1, errV_zero] at C
                clear hc hgd f0 f1 f2 hdd hq hfe hds hbj he0 hs1
                go_wp2_with fail
                refine C.mono ?_
                rintro e w6 ⟨rfl, G6, hy6, hc6, hf6⟩
                have HT6 : Hid (Two L w.heap.size w6 X Y (outS s) ((frames (xs i) went (j + 1)).foldl hearS b) F5 G6) := HT.out.set_y HB.out.size hy6 hc6 hf6
                have HB6 : Hid (Below w.heap.size w w6) := hc6.below HT.out.ly HB.out HB.out.size
                have HFK6 : Hid (FrsK Rr w6 (some ⟨bo, oo, none⟩) (frames (xs i) went k)) := HFK.out.stay (hc6.stay fun g hg => ⟨Nat.lt_of_lt_of_le (HLT2.out g hg).1 HZ.out, HOG.out g hg⟩)
                have HOG6 : Hid (∀ g, Rr g → ¬ G6 g) := fun g hg e9 => by
                  rcases hf6 g e9 with e9 | e9
                  · exact HOG.out g hg e9
                  · have := (HLT2.out g hg).1; have := HZ.out; omega
                have HZ6 : Hid (w5.heap.size ≤ w6.heap.size) := Nat.le_trans HZ.out hc6.size
                clear C hy6 hc6 hf6 f0' f1' f2'
                go_wp2_with fail
                go_roundw
                case rel => exact ⟨j + 1, G6, by omega, by go_num, HT6, HFK6, HOG6, HZ6, HB6⟩
                case measure => simp [intOf]; omega
              · obtain rfl : j = k := by omega
                have hjz : ¬ (j : Int) < j := by omega
                obtain ⟨w7, rfl⟩ : ∃ w7, w7 = wr := ⟨_, rfl⟩
                have hb1 : (frames (xs i) went j).foldl hearS b = b1 s b := by unfold b1; rw [HOF.out]
                rw [hb1] at HT
                obtain ⟨g1, g2, g3⟩ := HR.out.go (by rw [HSL.out]; exact hlt)
                rw [← HK.out] at g1 g2 g3
                have HFB : Hid (Fit (b1 s b)) := by
                  have hbj := HR.out.heard (j := j) (by rw [HSL.out]; omega)
                  rw [hb1] at hbj
                  unfold Hid; rw [hbj]
                  refine ⟨by rw [HR.out.k.ball]; exact Nat.zero_le _, ?_, by have := HQ.out.2.2; show b.ticks ≤ 100000; omega⟩
                  show ((xs i).take (went + j)).length ≤ 1000
                  rw [List.length_take]; omega
                have C := L.out Y (b1 s b) G w7 HT.out.y HFB.out
                have HTK : Hid ((b2 s b).ticks ≤ 0) := by
                  have hbj := HR.out.heard (j := j) (by rw [HSL.out]; omega)
                  rw [hb1] at hbj
                  show (if saysN (b1 s b) = [] then (b1 s b).ticks else 0) ≤ 0
                  rw [hbj]
                  split
                  · exact HQ.out.2.2
                  · exact Nat.le_refl _
                have HG1 : Hid (outF (b1 s b) = [(true, ((went + j : Nat) : Int), e0)]) := g1
                have HG2 : Hid (hearE (outS s) (true, ((went + j : Nat) : Int), e0) = 0) := g2
                have HG3 : Hid (R (xs i) (went + j) (hearS (outS s) (true, ((went + j : Nat) : Int), e0)) (b2 s b)) := g3
                obtain ⟨wj, hwj⟩ : ∃ wj : Nat, wj = went + j := ⟨_, rfl⟩
                rw [← hwj] at HG1 HG2 HG3
                have HWJ : Hid (wj = went + j) := hwj
                have hadd : ((went : Int) + (j : Int)) = (wj : Int) := by omega
                have hwm1 : wj ≤ i := by omega
                have hwm2 : went < wj := by omega
                clear g1 g2 g3 hb1 HFK HOG HZ hwj
                go_wp2_with fail
                refine C.mono ?_
                rintro e w8 ⟨p8, n8, c8, G8, rfl, hfr, hy8, hc8, hf8⟩
                rw [HG1.out] at hfr
                obtain ⟨q8, d8, e8, hfk, h81, h82, _⟩ := hfr
                injection e8 with e8a e8b e8c
                have e8b' : n8 = 1 := by rw [e8b]; rfl
                subst e8a e8c e8b'
                obtain ⟨bb, ob, rfl, hRb, hcc⟩ := hfk.some (by simp)
                obtain ⟨f0, f1, f2⟩ := hcc 0 (by simp)
                have x0 : w8.cell? ⟨bb, ob, none⟩ = some (.bool true) := f0
                have x1 : w8.cell? ⟨bb, ob + 1, none⟩ = some (.int .i64 (wj : Int)) := by have := f1; rw [Nat.zero_mul, Nat.add_zero] at this; exact this
                have x2 : w8.cell? ⟨bb, ob + 2, none⟩ = some (.string e0) := by have := f2; rw [Nat.zero_mul, Nat.add_zero] at this; exact this
                have HT8 : Hid (Two L w.heap.size w8 X Y (outS s) (b2 s b) F5 G8) := HT.out.set_y HB.out.size hy8 hc8 hf8
                have HB8 : Hid (Below w.heap.size w w8) := hc8.below HT.out.ly HB.out HB.out.size
                have HFO : Hid (Fit (outS s)) := by
                  refine ⟨by show s.all.length ≤ 1000; exact HFS.out.1, HFS.out.2.1, ?_⟩
                  show (if saysN s = [] then s.ticks else 0) ≤ 100000
                  rw [HR.out.tk]; simp
                have C2 := L.hear X (outS s) F5 true (wj : Int) e0 w8 HT8.out.x HFO.out (by unfold maxLen e0; decide)
                rw [HG2.out, errV_zero] at C2
                clear C hy8 hc8 hf8 hfk hcc f0 f1 f2 HT HB h81 h82 hadd e8b
                go_wp2_with fail
                refine C2.mono ?_
                rintro e w9 ⟨rfl, F9, hx9, hc9, hf9⟩
                have HT9 : Hid (Two L w.heap.size w9 X Y (hearS (outS s) (true, (wj : Int), e0)) (b2 s b) F9 G8) := HT8.out.set_x HB8.out.size hx9 hc9 hf9
                have HB9 : Hid (Below w.heap.size w w9) := hc9.below HT8.out.lx HB8.out HB8.out.size
                have HQ9 : Hid ((hearS (outS s) (true, (wj : Int), e0)).win = W ∧ (hearS (outS s) (true, (wj : Int), e0)).got.length ≤ 0 ∧ (b2 s b).ticks ≤ 0) := by
                  have hh : hearS (outS s) (true, (wj : Int), e0) = { outS s with acked := max (outS s).acked (wj : Int).toNat } := by
                    unfold hearS; rw [if_neg (by simpa using HG2.out), if_pos rfl]
                  unfold Hid
                  rw [hh]
                  exact ⟨HQ.out.1, HQ.out.2.1, HTK.out⟩
                clear C2 hx9 hc9 hf9 x0 x1 x2 HT8 HB8
                go_wp2_with fail
                go_roundw
                case rel => exact ⟨wj, _, _, F9, G8, hwm1, rfl, HG3, HQ9, HT9, HB9⟩
                case measure => simp [intOf]; omega
          · obtain rfl : went = i := by omega
            have hltz2 : ¬ (went : Int) < went := by omega
            have hre : R (xs went) (xs went).length s b := by have := HR.out; rw [HSL.out]; exact this
            obtain ⟨hl0, ho0⟩ := hre.end
            have C1 := L.left X s Fs wr HT.out.x HFS.out
            rw [hl0] at C1
            have HFB : Hid (Fit b) := ⟨by rw [HR.out.k.ball]; exact Nat.zero_le _, by rw [HR.out.gt]; omega, by have := HQ.out.2.2; omega⟩
            have HO0 : Hid (outF s = []) := ho0
            have HGT : Hid (b.got.length = went) := HR.out.gt
            clear hl0 ho0 hre
            go_wp2_with fail
            refine C1.mono ?_
            rintro e w5 ⟨rfl, hb5⟩
            have HT5 : Hid (Two L w.heap.size w5 X Y s b Fs Gb) := HT.out.below hb5
            have HB5 : Hid (Below w.heap.size w w5) := bel HB.out hb5
            have C2 := L.got Y b Gb w5 HT5.out.y HFB.out
            clear C1 hb5 HT HB
            go_wp2_with fail
            refine C2.mono ?_
            rintro e w6 ⟨p6, n6, c6, rfl, ht6, hb6⟩
            have hn6 : n6 = went := by
              obtain ⟨_, _, e6, _⟩ := ht6
              injection e6 with _ e6 _
              rw [e6]; exact HGT.out
            subst hn6
            have HT6 : Hid (Two L w.heap.size w6 X Y s b Fs Gb) := HT5.out.below hb6
            have HB6 : Hid (Below w.heap.size w w6) := bel HB5.out hb6
            have C3 := L.out X s Fs w6 HT6.out.x HFS.out
            clear C2 hb6 ht6 HT5 HB5
            go_wp2_with fail
            refine C3.mono ?_
            rintro e w7 ⟨p7, n7, c7, F7, rfl, hfr, _, hc7, _⟩
            rw [HO0.out] at hfr
            have hn7 : n7 = 0 := by
              obtain ⟨_, _, e7, _⟩ := hfr
              injection e7 with _ e7 _
            subst hn7
            have HB7 : Hid (Below w.heap.size w w7) := hc7.below HT6.out.lx HB6.out HB6.out.size
            clear C3 hfr hc7
            go_wp2_with fail
            go_ret
            exact ⟨rfl, HB7.out⟩

end Ei
end Go.Proofs.Ytaicacnijlneaaa
