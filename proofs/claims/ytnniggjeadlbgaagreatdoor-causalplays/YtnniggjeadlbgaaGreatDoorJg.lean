/- What applyAll and Put do. -/
import Derived.Test.YtnniggjeadlbgaaGreatDoorJf
namespace Go.Proofs.YtnniggjeadlbgaaGreatDoor
namespace Jg
set_option linter.unusedVariables false
set_option linter.unusedSimpArgs false
open Go.ChangeShapes Go.WideShapes Go.ChangeAt Go.RowKit Cm Ka Kb Na Om Oa Oz Oc Og Oi Hm Ia Ic Idc Ie If Ig Ii Ij Ik Il Im Ja Jb Je Jf
open La (bel bel_drew errV_zero errV_ne own_ge own_grow own_below Lies)

theorem mem_drop {w w' : World} {B D MB : Nat} {S : Dq} {M : List Wx} {F G : Nat → Prop} {d : Dt} (h : BufMem w B D MB S M F G) (hm : MapW w' MB (ridW d M)) (hg : w.grownBy w' (some MB)) : BufMem w' B D MB S (ridW d M) F G := by
  have oth : ∀ g, g < w.heap.size → g ≠ MB → w'.heap[g]? = w.heap[g]? := fun g hl hne => hg.block g hl (fun e => hne (by injection e))
  have hs : Stay G w w' := fun g hgg => oth g (h.lt g hgg) (h.offB g hgg).2
  refine ⟨by rw [oth B (Array.getElem?_eq_some_iff.1 h.blk).1 h.ne]; exact h.blk, h.doc.stay (fun g hf => oth g (h.doc.lt g hf) (fun e => h.offD.2 (e ▸ hf))) hg.size, hm, fun y hy => ?_, fun y hy => h.size y ((ridW_sub d M).subset hy), by rw [rid_map]; exact h.wt.rid d, fun g hgg => Nat.lt_of_lt_of_le (h.lt g hgg) hg.size, h.offF, h.offB, h.offD⟩
  have hy2 := (ridW_sub d M).subset hy
  exact ⟨dots_stay (h.dts y hy2).1 (h.dts y hy2).2 hs, (h.dts y hy2).2⟩
theorem mem_did {w w' : World} {B D MB : Nat} {S S' : Dq} {M : List Wx} {F F' G : Nat → Prop} (h : BufMem w B D MB S M F G) (hd : DocAt w' D S' F') (hc : Chg F w w') (hf : ∀ g, F' g → F g ∨ w.heap.size ≤ g) : BufMem w' B D MB S' M F' G := by
  have hB := (Array.getElem?_eq_some_iff.1 h.blk).1
  have hM := h.map.lt
  have hs : Stay G w w' := fun g hgg => hc.block g (h.lt g hgg) (h.offF g hgg)
  refine ⟨by rw [hc.block B hB h.offD.1]; exact h.blk, hd, h.map.stay (hc.block MB hM h.offD.2), fun y hy => ⟨dots_stay (h.dts y hy).1 (h.dts y hy).2 hs, (h.dts y hy).2⟩, h.size, h.wt, fun g hgg => Nat.lt_of_lt_of_le (h.lt g hgg) hc.size, fun g hgg e => ?_, h.offB, fun e => ?_, fun e => ?_⟩
  · rcases hf g e with e | e
    · exact h.offF g hgg e
    · have := h.lt g hgg; omega
  · rcases hf B e with e | e
    · exact h.offD.1 e
    · omega
  · rcases hf MB e with e | e
    · exact h.offD.2 e
    · omega
theorem mem_push {w w' : World} {B D MB : Nat} {S : Dq} {M : List Wx} {F G : Nat → Prop} {o : Ox} {v : Value} (h : BufMem w B D MB S M F G) (hm : MapW w' MB (M ++ [(o, v)])) (hg : w.grownBy w' (some MB)) (hd : DtsAt w v o.2.2.2.2) (hsz : o.2.2.1.size ≤ maxLen) (hw : Wt (M.map (·.1) ++ [o]))
    (hin : In (fun g => v.ownBlock = some g) v) (hv : ∀ g, v.ownBlock = some g → g < w.heap.size ∧ ¬ F g ∧ g ≠ B ∧ g ≠ MB) : BufMem w' B D MB S (M ++ [(o, v)]) F (fun g => G g ∨ v.ownBlock = some g) := by
  have oth : ∀ g, g < w.heap.size → g ≠ MB → w'.heap[g]? = w.heap[g]? := fun g hl hne => hg.block g hl (fun e => hne (by injection e))
  have hs : Stay G w w' := fun g hgg => oth g (h.lt g hgg) (h.offB g hgg).2
  refine ⟨by rw [oth B (Array.getElem?_eq_some_iff.1 h.blk).1 h.ne]; exact h.blk, h.doc.stay (fun g hf => oth g (h.doc.lt g hf) (fun e => h.offD.2 (e ▸ hf))) hg.size, hm, fun y hy => ?_, fun y hy => ?_, by rw [List.map_append]; exact hw, fun g hgg => ?_, fun g hgg => ?_, fun g hgg => ?_, h.offD⟩
  · rcases List.mem_append.1 hy with hy | hy
    · exact ⟨dots_stay (h.dts y hy).1 (h.dts y hy).2 hs, (h.dts y hy).2.mono (fun g e => Or.inl e)⟩
    · rw [List.mem_singleton.1 hy]
      exact ⟨dots_stay hd hin (fun g e => oth g (hv g e).1 (hv g e).2.2.2), hin.mono (fun g e => Or.inr e)⟩
  · rcases List.mem_append.1 hy with hy | hy
    · exact h.size y hy
    · rw [List.mem_singleton.1 hy]; exact hsz
  · rcases hgg with e | e
    · exact Nat.lt_of_lt_of_le (h.lt g e) hg.size
    · exact Nat.lt_of_lt_of_le (hv g e).1 hg.size
  · rcases hgg with e | e
    · exact h.offF g e
    · exact (hv g e).2.1
  · rcases hgg with e | e
    · exact h.offB g e
    · exact (hv g e).2.2
theorem enter_apply (args : Array Value) (W : World) : (callFunc 12 args).run Tryz.prog W = .ok (.enter 12 args) W := by
  first | kernel_rfl | simp [callFunc, go_sem, Tryz.func12]

theorem len1 (M : List Wx) : M.length = (M.map (·.1)).length := (List.length_map ..).symm

def AllPost (w : World) (B D MB : Nat) (F G : Nat → Prop) (r : (Int × Int) × Dq × List Ox) (e : Ending) (w' : World) : Prop :=
  e = .returned (.tuple #[.int .i64 r.1.1, errV r.1.2]) ∧ ∃ M' F', BufMem w' B D MB r.2.1 M' F' G ∧ M'.map (·.1) = r.2.2 ∧ Chg (fun g => F g ∨ g = MB) w w' ∧ ∀ g, F' g → F g ∨ w.heap.size ≤ g

set_option maxRecDepth 100000 in
set_option maxHeartbeats 8000000 in
theorem all_any (B D MB : Nat) (S : Dq) (M : List Wx) (F G : Nat → Prop) (w : World) (h : BufMem w B D MB S M F G) (r : (Int × Int) × Dq × List Ox) (hr : Ja.drain M.length 0 S (M.map (·.1)) = r) :
    Calls Tryz.prog 78 #[.pointer (some ⟨B, 0, none⟩)] w (AllPost w B D MB F G r) := by
  have HM0 : Hid (BufMem w B D MB S M F G) := h
  have HR0 : Hid (Ja.drain M.length 0 S (M.map (·.1)) = r) := hr
  obtain ⟨N, hN⟩ : ∃ N, N = M.length := ⟨_, rfl⟩
  have HN : Hid (N = M.length) := hN
  have hN4 : N ≤ 400 := by have := h.wt.few; rw [List.length_map] at this; omega
  clear h hr hN
  go_enter Tryz.func78, Tryz.ntmps78
  go_wp2_with fail
  go_loopw [4] (fun vn wr => ∃ (n : Nat) (S' : Dq) (M' : List Wx) (F' : Nat → Prop), vn = .int .i64 n ∧ n ≤ N ∧ Hid (n + M'.length = N) ∧ Hid (BufMem wr B D MB S' M' F' G) ∧ Hid (Ja.drain M'.length n S' (M'.map (·.1)) = r) ∧ Hid (Chg (fun g => F g ∨ g = MB) w wr) ∧ Hid (∀ g, F' g → F g ∨ w.heap.size ≤ g)) (fun vn _ => N - (intOf vn).toNat)
  case atStart => exact ⟨0, S, M, F, rfl, by omega, by unfold Hid; rw [HN.out]; omega, HM0, HR0, Chg.refl _ _, fun g hg => Or.inl hg⟩
  case round =>
    clear HM0 HR0
    obtain ⟨n, S', M', F', rfl, hn, HNM, HM, HR, HCH, HFF⟩ := hrel
    have CN := next_any B D MB S' M' F' G wr HM.out
    go_wp2_with fail
    refine CN.mono ?_
    rintro e w1 ⟨hpost, hb1⟩
    have HB1 : Hid (Below wr.heap.size wr w1) := hb1
    clear hb1 CN
    rcases hpost with ⟨x, v, hmem, hnx, rfl⟩ | ⟨hnx, rfl⟩
    · obtain ⟨⟨a, b⟩, t, p, c, s⟩ := x
      obtain ⟨hdt, hin⟩ := HM.out.dts _ hmem
      obtain ⟨q, c1, e9, _⟩ := id hdt
      simp only at e9
      obtain ⟨n1, hn1⟩ : ∃ n1, n1 = s.length := ⟨_, rfl⟩
      rw [← hn1] at e9
      subst e9
      have HNX : Hid (nextO S' (M'.map (·.1)) = some ((a, b), t, p, c, s)) := hnx
      have HPZ : Hid (p.size ≤ maxLen) := HM.out.size _ hmem
      have HIN : Hid (In G (.slice q n1 c1)) := hin
      have HDT : Hid (DtsAt w1 (.slice q n1 c1) s) := hdt.below HB1.out
      have HM1 : Hid (BufMem w1 B D MB S' M' F' G) := HM.out.below HB1.out
      have HLEN : Hid ((ridW (a, b) M').length + 1 = M'.length) := by
        have h9 := rid_len (nextO_some hnx).1
        unfold Hid
        rw [← rid_map, List.length_map, List.length_map] at h9
        exact h9
      clear hmem hnx hdt hin hn1
      simp only [opV]
      have HW1 : Hid (Below w1.heap.size w1 (w1.alloc (.cells #[.int .i64 a, .int .i64 b, .int .i64 t, .string p, .int .i64 c, .slice q n1 c1] 33))) := below_a w1 _
      have HBX : Hid ((w1.alloc (.cells #[.int .i64 a, .int .i64 b, .int .i64 t, .string p, .int .i64 c, .slice q n1 c1] 33)).heap[w1.heap.size]? = some (.cells #[.int .i64 a, .int .i64 b, .int .i64 t, .string p, .int .i64 c, .slice q n1 c1] 33)) := heap_alloc_new w1 _
      go_wp2_with fail
      generalize hW : w1.alloc (.cells #[.int .i64 a, .int .i64 b, .int .i64 t, .string p, .int .i64 c, .slice q n1 c1] 33) = W1 at HW1 HBX ⊢
      have HMW : Hid (BufMem W1 B D MB S' M' F' G) := HM1.out.below HW1.out
      have HMP : Hid (MapW W1.drew MB M') := HMW.out.map.below (below_d W1)
      have b1 := blk_cell HMW.out.blk (i := 1) (u := .map (some MB)) rfl
      have x0 := blk_cell HBX.out (i := 0) (u := .int .i64 a) rfl
      have x1 := blk_cell HBX.out (i := 1) (u := .int .i64 b) rfl
      clear hW
      go_region_law (first
        | (refine Jb.step_drop (by rfl) (.tmp 20) (.tmp 22) (by rfl) (by rfl) HMP.out a b (by rfl) ?_; intro w2 hm2 hg2; have HM2 : Hid (BufMem w2 B D MB S' (ridW (a, b) M') F' G) := mem_drop (HMW.out.below (below_d W1)) hm2 hg2; have HG2 : Hid (W1.drew.grownBy w2 (some MB)) := hg2; clear hm2 hg2))
      all_goals
        clear b1 x0 x1
        have HBX2 : Hid (w2.heap[w1.heap.size]? = some (.cells #[.int .i64 a, .int .i64 b, .int .i64 t, .string p, .int .i64 c, .slice q n1 c1] 33)) := by
          refine (HG2.out.block _ (Array.getElem?_eq_some_iff.1 HBX.out).1 (fun e => ?_)).trans HBX.out
          injection e with e
          have := HM1.out.map.lt
          omega
        have HDT2 : Hid (DtsAt w2.drew (.slice q n1 c1) s) := by
          refine dots_stay (HDT.out.below (bel HW1.out (below_d W1))) HIN.out (fun g hg => ?_)
          exact HG2.out.block g (HMW.out.lt g hg) (fun e => by injection e with e; exact (HMW.out.offB g hg).2 e)
        have HC2 : Hid (Chg (fun g => F g ∨ g = MB) w w2) := (HCH.out.next (Chg.ofBelow (bel (bel HB1.out HW1.out) (below_d W1)) (fun _ => False)) (fun g e => e.elim)).next (Chg.grown (F := fun g => g = MB) HG2.out (fun g e => by injection e with e; exact e.symm)) (fun g e => Or.inl (Or.inr e))
        have b0 := blk_cell HM2.out.blk (i := 0) (u := .pointer (some ⟨D, 0, none⟩)) rfl
        have x0 := blk_cell HBX2.out (i := 0) (u := .int .i64 a) rfl
        have x1 := blk_cell HBX2.out (i := 1) (u := .int .i64 b) rfl
        have x2 := blk_cell HBX2.out (i := 2) (u := .int .i64 t) rfl
        have x3 := blk_cell HBX2.out (i := 3) (u := .string p) rfl
        have x4 := blk_cell HBX2.out (i := 4) (u := .int .i64 c) rfl
        have x5 := blk_cell HBX2.out (i := 5) (u := .slice q n1 c1) rfl
        have CA := apply_any D S' F' a b t p c (.slice q n1 c1) s w2.drew (HM2.out.doc.below (below_d w2)) HDT2.out (fun ad n c e hn hf => HM2.out.offF _ (HIN.out ad n c e hn) hf) HPZ.out
        obtain ⟨bn, hbn⟩ : ∃ bn, bn = isNew S' ((a, b), t, p, c, s) := ⟨_, rfl⟩
        by_cases he : apE S' ((a, b), t, p, c, s) = 0
        · have CA2 : Hid (Calls Tryz.prog 12 #[.pointer (some ⟨D, 0, none⟩), .agg #[.int .i64 a, .int .i64 b, .int .i64 t, .string p, .int .i64 c, .slice q n1 c1]] w2.drew fun e w' => ∃ v, e = .returned v ∧ (v = .tuple #[.bool bn, .nilIface] ∧ ∃ F'', DocAt w' D (apS S' ((a, b), t, p, c, s)) F'' ∧ Chg F' w2.drew w' ∧ ∀ g, F'' g → F' g ∨ w2.drew.heap.size ≤ g)) := CA.mono (by rintro e w' ⟨h1, _, F'', h2, h3, h4⟩; exact ⟨_, h1, by rw [he, hbn]; rfl, F'', h2, h3, h4⟩)
          have HRE : Hid (Ja.drain (ridW (a, b) M').length ((n + 1 : Nat) : Int) (apS S' ((a, b), t, p, c, s)) ((ridW (a, b) M').map (·.1)) = r) := by
            have h9 := HR.out
            rw [len1 M', drain_next HNX.out he] at h9
            unfold Hid
            rw [len1 (ridW (a, b) M'), rid_map]
            exact h9
          clear CA he hbn
          go_wp2_with fail
          go_region_law (first
            | (refine step_call2 (R := fun v w' => v = .tuple #[.bool bn, .nilIface] ∧ ∃ F'', DocAt w' D (apS S' ((a, b), t, p, c, s)) F'' ∧ Chg F' w2.drew w' ∧ ∀ g, F'' g → F' g ∨ w2.drew.heap.size ≤ g) (by rfl) 12 (.tmp 27) (.tmp 28) _ _ (by rfl) _ _ (by rfl) (by rfl) enter_apply CA2.out ?_; rintro v3 w3 ⟨rfl, F3, hd3, hc3, hf3⟩; have HM3 : Hid (BufMem w3 B D MB (apS S' ((a, b), t, p, c, s)) (ridW (a, b) M') F3 G) := mem_did (HM2.out.below (below_d w2)) hd3 hc3 hf3; have HC3 : Hid (Chg (fun g => F g ∨ g = MB) w w3) := (HC2.out.next (Chg.ofBelow (below_d w2) (fun _ => False)) (fun g e => e.elim)).next hc3 (fun g e => by rcases HFF.out g e with e | e; (exact Or.inl (Or.inl e)); (exact Or.inr e)); have HF3 : Hid (∀ g, F3 g → F g ∨ w.heap.size ≤ g) := (fun g e => by rcases hf3 g e with e | e; (exact HFF.out g e); (exact Or.inr (Nat.le_trans HC2.out.size e))); clear hd3 hc3 hf3))
          all_goals
            clear b0 x0 x1 x2 x3 x4 x5
            go_wp2_with fail
            go_roundw
            case rel => exact ⟨n + 1, _, _, F3, by go_num, by have := HNM.out; have := HLEN.out; omega, by unfold Hid; have := HNM.out; have := HLEN.out; omega, HM3, HRE, HC3, HF3⟩
            case measure => simp only [intOf]; have := HNM.out; have := HLEN.out; omega
        · have CA2 : Hid (Calls Tryz.prog 12 #[.pointer (some ⟨D, 0, none⟩), .agg #[.int .i64 a, .int .i64 b, .int .i64 t, .string p, .int .i64 c, .slice q n1 c1]] w2.drew fun e w' => ∃ v, e = .returned v ∧ (v = .tuple #[.bool bn, .iface 105 (.int .i64 (apE S' ((a, b), t, p, c, s)))] ∧ ∃ F'', DocAt w' D (apS S' ((a, b), t, p, c, s)) F'' ∧ Chg F' w2.drew w' ∧ ∀ g, F'' g → F' g ∨ w2.drew.heap.size ≤ g)) := CA.mono (by rintro e w' ⟨h1, _, F'', h2, h3, h4⟩; exact ⟨_, h1, by rw [errV_ne he, hbn], F'', h2, h3, h4⟩)
          have HRE : Hid (((0, apE S' ((a, b), t, p, c, s)), apS S' ((a, b), t, p, c, s), (ridW (a, b) M').map (·.1)) = r) := by
            have h9 := HR.out
            rw [len1 M', drain_err HNX.out he] at h9
            unfold Hid
            rw [rid_map]
            exact h9
          have HE : Hid (apE S' ((a, b), t, p, c, s) ≠ 0) := he
          obtain ⟨k, hk⟩ : ∃ k, k = apE S' ((a, b), t, p, c, s) := ⟨_, rfl⟩
          rw [← hk] at CA2 HRE HE
          clear CA he hbn hk
          go_wp2_with fail
          go_region_law (first
            | (refine step_call2 (R := fun v w' => v = .tuple #[.bool bn, .iface 105 (.int .i64 k)] ∧ ∃ F'', DocAt w' D (apS S' ((a, b), t, p, c, s)) F'' ∧ Chg F' w2.drew w' ∧ ∀ g, F'' g → F' g ∨ w2.drew.heap.size ≤ g) (by rfl) 12 (.tmp 27) (.tmp 28) _ _ (by rfl) _ _ (by rfl) (by rfl) enter_apply CA2.out ?_; rintro v3 w3 ⟨rfl, F3, hd3, hc3, hf3⟩; have HM3 : Hid (BufMem w3 B D MB (apS S' ((a, b), t, p, c, s)) (ridW (a, b) M') F3 G) := mem_did (HM2.out.below (below_d w2)) hd3 hc3 hf3; have HC3 : Hid (Chg (fun g => F g ∨ g = MB) w w3) := (HC2.out.next (Chg.ofBelow (below_d w2) (fun _ => False)) (fun g e => e.elim)).next hc3 (fun g e => by rcases HFF.out g e with e | e; (exact Or.inl (Or.inl e)); (exact Or.inr e)); have HF3 : Hid (∀ g, F3 g → F g ∨ w.heap.size ≤ g) := (fun g e => by rcases hf3 g e with e | e; (exact HFF.out g e); (exact Or.inr (Nat.le_trans HC2.out.size e))); clear hd3 hc3 hf3))
          all_goals
            clear b0 x0 x1 x2 x3 x4 x5
            go_wp2_with fail
            go_ret2
            refine ⟨?_, ridW (a, b) M', F3, ?_, ?_, HC3.out, HF3.out⟩
            · rw [← HRE.out, errV_ne HE.out]; rfl
            · rw [← HRE.out]; exact HM3.out
            · rw [← HRE.out]
    · have HRE : Hid ((((n : Nat) : Int), (0 : Int)) = r.1 ∧ S' = r.2.1 ∧ M'.map (·.1) = r.2.2) := by
        have h9 := HR.out
        rw [drain_stop hnx] at h9
        rw [← h9]; exact ⟨rfl, rfl, rfl⟩
      simp only [opZ]
      clear hnx
      have HBA : Hid (∀ O, Below wr.heap.size wr (w1.alloc O)) := fun O => bel HB1.out (below_a w1 O)
      go_wp2_with fail
      go_ret2
      refine ⟨?_, M', F', ?_, HRE.out.2.2, HCH.out.next (Chg.ofBelow (HBA.out _) (fun _ => False)) (fun g e => e.elim), HFF.out⟩
      · rw [← HRE.out.1]; rfl
      · rw [← HRE.out.2.1]; exact HM.out.below (HBA.out _)

end Jg
end Go.Proofs.YtnniggjeadlbgaaGreatDoor
