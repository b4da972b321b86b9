/- What settle leaves: the places at which a join saw what is still to come. -/
import Derived.Test.YtgefpcchcegcpaaGreatDoorIg
namespace Go.Proofs.YtgefpcchcegcpaaGreatDoor
namespace Ih
set_option linter.unusedVariables false
set_option linter.unusedSimpArgs false
open Go.ChangeShapes Go.WideShapes Go.ChangeAt Go.RowKit Cm Ka Kb Na Om Oa Oz Oc Og Oi Hm Ia Ib Ic Idc Ie If Ig
open La (bel bel_drew errV_zero errV_ne own_ge own_grow own_below Lies)

structure SetSt (w : World) (m : Mem) (S : Dq) (G : Nat → Prop) (N : Nat) (a b t : Int) (p : ByteArray) (c : Int) (vs : Value) (s : List Dt) (k : Nat) (wr : World) (M' : List Ent) : Prop where
  mem : DocMem wr { m with M := M' } S G
  chg : Chg (Wr m) w wr
  own : ∀ g, Wr { m with M := M' } g → Wr m g ∨ w.heap.size ≤ g
  box : wr.heap[w.heap.size]? = some (.cells #[.int .i64 a, .int .i64 b, .int .i64 t, .string p, .int .i64 c, vs] 34)
  short : ∀ x ∈ M', x.2.2.length ≤ N + k
  jn : ∀ d q, d ≠ (a, b) → (q ∈ getJ M' d ↔ q ∈ getJ m.M d ∨ (d ∈ s.take k ∧ Dm.hasB S.known d.1 d.2 = false ∧ q = p))
theorem keep_heap {W W' : World} {k : Nat} {o : Obj} (hb : Below W.heap.size W W') (h : W.heap[k]? = some o) : W'.heap[k]? = some o := by
  rw [hb.block k (Array.getElem?_eq_some_iff.1 h).1]; exact h
theorem SetSt.below {w : World} {m : Mem} {S : Dq} {G : Nat → Prop} {N : Nat} {a b t : Int} {p : ByteArray} {c : Int} {vs : Value} {s : List Dt} {k : Nat} {wr w2 : World} {M' : List Ent} (h : SetSt w m S G N a b t p c vs s k wr M') (hb : Below wr.heap.size wr w2) : SetSt w m S G N a b t p c vs s k w2 M' :=
  ⟨h.mem.below hb, h.chg.trans (Chg.ofBelow hb _), h.own, keep_heap hb h.box, h.short, h.jn⟩
theorem mem_take_succ {s : List Dt} {k : Nat} {x d : Dt} (hk : k < s.length) (hx : x = s.getD k noneD) : d ∈ s.take (k + 1) ↔ d ∈ s.take k ∨ d = x := by
  rw [List.take_add_one, List.getElem?_eq_getElem hk, List.mem_append, hx, List.getD_eq_getElem?_getD, List.getElem?_eq_getElem hk]
  simp
theorem SetSt.skip {w : World} {m : Mem} {S : Dq} {G : Nat → Prop} {N : Nat} {a b t : Int} {p : ByteArray} {c : Int} {vs : Value} {s : List Dt} {k : Nat} {wr : World} {M' : List Ent} {x : Dt} (h : SetSt w m S G N a b t p c vs s k wr M') (hk : k < s.length) (hx : x = s.getD k noneD) (hs : Dm.hasB S.known x.1 x.2 = true ∨ isIn (getJ M' x) p = true) : SetSt w m S G N a b t p c vs s (k + 1) wr M' := by
  refine ⟨h.mem, h.chg, h.own, h.box, fun y hy => Nat.le_trans (h.short y hy) (by omega), fun d q hd => ?_⟩
  rw [h.jn d q hd, mem_take_succ hk hx]
  constructor
  · rintro (e | ⟨e1, e2⟩)
    · exact Or.inl e
    · exact Or.inr ⟨Or.inl e1, e2⟩
  · rintro (e | ⟨e1 | e1, e2, e3⟩)
    · exact Or.inl e
    · exact Or.inr ⟨e1, e2, e3⟩
    · subst e1
      rcases hs with hs | hs
      · rw [hs] at e2; cases e2
      · rw [e3]; exact (h.jn d p hd).1 (isIn_iff.1 hs)
theorem SetSt.put {w : World} {m : Mem} {S : Dq} {G : Nat → Prop} {N : Nat} {a b t : Int} {p : ByteArray} {c : Int} {vs : Value} {s : List Dt} {k : Nat} {wr w2 : World} {M' : List Ent} {x : Dt} {v' : Value} (h : SetSt w m S G N a b t p c vs s k wr M') (hk : k < s.length) (hx : x = s.getD k noneD) (hs : Dm.hasB S.known x.1 x.2 = false) 
    (hm : MapAt w2 m.B (putM x v' (getJ M' x ++ [p]) M')) (hr : RowS w2 v' (getJ M' x ++ [p])) (hc : Chg (fun g => g = m.B ∨ (getV M' x).ownBlock = some g) wr w2) (hv : ∀ g, v'.ownBlock = some g → (getV M' x).ownBlock = some g ∨ wr.heap.size ≤ g) :
    SetSt w m S G N a b t p c vs s (k + 1) w2 (putM x v' (getJ M' x ++ [p]) M') := by
  obtain ⟨r1, r2, r3⟩ := put_memd (m := { m with M := M' }) h.mem hm hr hc hv
  have hz : w.heap.size ≤ wr.heap.size := h.chg.size
  have hbox : ¬ (w.heap.size = m.B ∨ (getV M' x).ownBlock = some w.heap.size) := by
    rintro (e | e)
    · obtain ⟨es, clock, hb, _⟩ := h.mem.map
      have hb2 : wr.heap[m.B]? = some (.map es clock) := hb
      rw [← e, h.box] at hb2; cases hb2
    · rcases get_mem x M' with ⟨e0, _⟩ | ⟨z, hz, e0, _⟩
      · rw [e0] at e; cases e
      · rw [← e0] at e
        obtain ⟨_, cur, hcc⟩ := own_lt (h.mem.rows z hz) _ e
        rw [h.box] at hcc
        injection hcc with hcc
        injection hcc with _ hcc _
        exact absurd hcc (by decide)
  refine ⟨r1, h.chg.next r2 h.own, fun g hg => ?_, ?_, fun y hy => ?_, fun d q hd => ?_⟩
  · rcases r3 g hg with e | e
    · exact h.own g e
    · exact Or.inr (by omega)
  · rw [hc.block _ (Array.getElem?_eq_some_iff.1 h.box).1 hbox]; exact h.box
  · rcases put_mem hy with rfl | hy
    · have := short_get h.short x
      simp only [List.length_append, List.length_singleton]
      omega
    · exact Nat.le_trans (h.short y hy) (by omega)
  · rw [getJ_put, mem_take_succ hk hx]
    by_cases e : d = x
    · rw [if_pos e, List.mem_append, List.mem_singleton, ← e, h.jn d q hd]
      rw [← e] at hs
      constructor
      · rintro ((e1 | ⟨e1, e2⟩) | e1)
        · exact Or.inl e1
        · exact Or.inr ⟨Or.inl e1, e2⟩
        · exact Or.inr ⟨Or.inr rfl, hs, e1⟩
      · rintro (e1 | ⟨_, _, e3⟩)
        · exact Or.inl (Or.inl e1)
        · exact Or.inr e3
    · rw [if_neg e, h.jn d q hd]
      constructor
      · rintro (e1 | ⟨e1, e2⟩)
        · exact Or.inl e1
        · exact Or.inr ⟨Or.inl e1, e2⟩
      · rintro (e1 | ⟨e1 | e1, e2⟩)
        · exact Or.inl e1
        · exact Or.inr ⟨e1, e2⟩
        · exact absurd e1 e

set_option maxRecDepth 100000 in
set_option maxHeartbeats 8000000 in
theorem settle_any (m : Mem) (S : Dq) (G : Nat → Prop) (N : Nat) (a b t : Int) (p : ByteArray) (c : Int) (vs : Value) (s : List Dt) (w : World) (h : DocMem w m S G) (hN : N + 41 ≤ 1048576) (hsh : ∀ x ∈ m.M, x.2.2.length ≤ N) (hd : DtsAt w vs s) (hoff : In (fun g => ¬ Wr m g) vs) (hs : s.length ≤ 40) :
    Calls Tryz.prog 44 #[.pointer (some ⟨m.D, 0, none⟩), .agg #[.int .i64 a, .int .i64 b, .int .i64 t, .string p, .int .i64 c, vs]] w fun e w' => e = .returned (.tuple #[]) ∧ ∃ M', SetSt w m S G N a b t p c vs s s.length w' M' := by
  have d4 := blk_cell h.blk (i := 4) (u := .map (some m.B)) rfl
  have HB1 : Hid (Below w.heap.size w (w.alloc (.cells #[.int .i64 a, .int .i64 b, .int .i64 t, .string p, .int .i64 c, vs] 34))) := (Below.refl _ w).alloc (Nat.le_refl _) _
  have HMA : Hid (∀ W, Below w.heap.size w W → MapAt W m.B m.M) := fun W hb => MapAt.below h.map hb
  have HDR : Hid (∀ W w', Below w.heap.size w W → W.heap[w.heap.size]? = some (.cells #[.int .i64 a, .int .i64 b, .int .i64 t, .string p, .int .i64 c, vs] 34) → MapAt w' m.B (delM (a, b) m.M) → W.grownBy w' (some m.B) → SetSt w m S G N a b t p c vs s 0 w' (delM (a, b) m.M)) := by
    intro W w' hb hbx hm hg
    obtain ⟨r1, r2, r3⟩ := drop_mem (h.below hb) hm hg
    have hne : w.heap.size ≠ m.B := fun e => by have := MapAt.lt h.map; omega
    refine ⟨r1, (Chg.ofBelow hb _).trans (r2.mono fun g e => Or.inr (Or.inl e)), fun g hgg => Or.inl (r3 g hgg), ?_, fun x hx => hsh x ((del_sub _ _).subset hx), fun d q hdd => ?_⟩
    · rw [hg.block _ (Array.getElem?_eq_some_iff.1 hbx).1 (fun e => hne (by injection e))]; exact hbx
    · rw [getJ_del _ _ hdd]; simp
  have HDS : Hid (∀ W, Chg (Wr m) w W → DtsAt W vs s) := fun W hc => dots_stay hd (G := fun g => g < w.heap.size ∧ ¬ Wr m g) (fun x n cc e hn => ⟨by
      obtain ⟨q, c2, hv, hin, _⟩ := hd
      rw [e] at hv
      injection hv with e1 e2 e3
      rcases hin with e0 | ⟨bb, oo, hp, hcs⟩
      · rw [e0] at e2; simp at e2; omega
      · rw [hp] at e1; injection e1 with e1; rw [e1]; exact (hcs 0 (by omega)).lt, hoff x n cc e hn⟩) (hc.stay fun g hg => hg)
  obtain ⟨D, hD⟩ : ∃ D, D = m.D := ⟨_, rfl⟩
  obtain ⟨B, hB⟩ : ∃ B, B = m.B := ⟨_, rfl⟩
  have HD : Hid (D = m.D) := hD
  have HBB : Hid (B = m.B) := hB
  obtain ⟨pv, nv, cv, hvs⟩ : ∃ p n c, vs = .slice p n c := by obtain ⟨p, c, e, _⟩ := hd; exact ⟨_, _, _, e⟩
  have HVN : Hid (s.length = nv) := by obtain ⟨p, c, e, _⟩ := hd; rw [hvs] at e; injection e with _ e _; exact e.symm
  rw [← hB, ← hD] at d4
  rw [← hB] at HMA HDR
  rw [← hD]
  rw [hvs] at HDS
  have e4 := keep_cell HB1.out d4
  obtain ⟨o0, o1, o2, o3, o4, o5⟩ := six_new w a b t p c vs 34
  have HBX : Hid ((w.alloc (.cells #[.int .i64 a, .int .i64 b, .int .i64 t, .string p, .int .i64 c, vs] 34)).heap[w.heap.size]? = some (.cells #[.int .i64 a, .int .i64 b, .int .i64 t, .string p, .int .i64 c, vs] 34)) := heap_alloc_new w _
  have HS : Hid (s.length ≤ 40) := hs
  have HN : Hid (N + 41 ≤ 1048576) := hN
  have hnv : nv ≤ 40 := by rw [← HVN.out]; exact hs
  have hnvz : (nv : Int) ≤ 40 := by omega
  have HVS : Hid (vs = .slice pv nv cv) := hvs
  rw [hvs] at o0 o1 o2 o3 o4 o5 HBX HB1 e4 HDR
  rw [hvs]
  clear h hsh hd hoff hs hD hB hvs hN d4
  go_enter Tryz.func44, Tryz.ntmps44
  go_wp2_with fail
  go_region_law (first
    | (refine step_drop (by rfl) (.tmp 9) (.tmp 11) (by rfl) (by rfl) (HMA.out _ HB1.out.drew) a b (by rfl) ?_; intro w2 hm2 hg2; have HS2 : Hid (SetSt w m S G N a b t p c (.slice pv nv cv) s 0 w2 (delM (a, b) m.M)) := HDR.out _ w2 HB1.out.drew HBX.out hm2 hg2; have q5 := blk_cell HS2.out.box (i := 5) (u := .slice pv nv cv) rfl))
  all_goals
    clear hm2 hg2 o0 o1 o2 o3 o4 o5 e4
    go_wp2_with fail
    clear HMA HDR HB1 HBX q5
    go_loopw [15] (fun vi wr => ∃ (k : Nat) (M' : List Ent), k ≤ nv ∧ vi = .int .i64 k ∧ Hid (SetSt w m S G N a b t p c (.slice pv nv cv) s k wr M')) (fun vi _ => nv - (intOf vi).toNat)
    case atStart => exact ⟨0, _, by omega, rfl, HS2⟩
    case round =>
      clear HS2
      obtain ⟨k, M', hk, rfl, HST⟩ := hrel
      by_cases hlt : k < nv
      · have hltz : (k : Int) < nv := by omega
        have hkl : k < s.length := by rw [HVN.out]; exact hlt
        obtain ⟨qd, cd, hvd, hin, _⟩ := HDS.out wr HST.out.chg
        injection hvd with v1 v2 v3
        subst v1
        clear v2 v3
        obtain ⟨bs, os, rfl, hcs⟩ := hin.some (by intro e; rw [e] at hkl; simp at hkl)
        obtain ⟨x, hx⟩ : ∃ x, x = s.getD k noneD := ⟨_, rfl⟩
        obtain ⟨u1, u2⟩ := hcs k hkl
        rw [← hx] at u1 u2
        have HX : Hid (x = s.getD k noneD) := hx
        have HKL : Hid (k < s.length) := hkl
        obtain ⟨x1, x2⟩ := x
        simp only at u1 u2
        have HBA : Hid (Below wr.heap.size wr (wr.alloc (.cells #[.int .i64 x1, .int .i64 x2] 31))) := (Below.refl _ wr).alloc (Nat.le_refl _) _
        have CK : Hid (∀ W, Below wr.heap.size wr W → Calls Tryz.prog 58 #[.pointer (some ⟨D, 0, none⟩), .agg #[.int .i64 x1, .int .i64 x2]] W fun e w' => e = .returned (.bool (Dm.hasB S.known x1 x2)) ∧ Below W.heap.size W w') := fun W hb => by
          rw [HD.out]; exact knows_any { m with M := M' } S G x1 x2 W (HST.out.mem.below hb)
        have hma : MapAt wr B M' := by rw [HBB.out]; exact HST.out.mem.map
        obtain ⟨es, clock, hes, hes2⟩ := hma
        have hlk : ∀ W, W.heap[B]? = some (.map es clock) → (Instr.lookup 72 (.map (some B)) (.agg #[.int .i64 x1, .int .i64 x2]) false).run Tryz.prog W = .ok (getV M' (x1, x2)) W := fun W hW => lookup_run ⟨es, clock, hW, hes2⟩ x1 x2
        have hrow := row_get HST.out.mem.rows (x1, x2)
        have CN : Hid (∀ W, Below wr.heap.size wr W → Calls Tryz.prog 63 #[getV M' (x1, x2), .string p] W fun e w' => e = .returned (.bool (isIn (getJ M' (x1, x2)) p)) ∧ w' = W) := fun W hb =>
          contains_any _ _ p W (RowS.below hrow hb) (Nat.le_trans (short_get HST.out.short (x1, x2)) (by have := HN.out; omega))
        have HROW : Hid (RowS wr (getV M' (x1, x2)) (getJ M' (x1, x2))) := hrow
        have HME : Hid (MapAt wr B M') := ⟨es, clock, hes, hes2⟩
        obtain ⟨pr, cr, hvr, _⟩ := row_txts hrow
        obtain ⟨nr, hnr⟩ : ∃ nr, nr = (getJ M' (x1, x2)).length := ⟨_, rfl⟩
        rw [← hnr] at hvr
        have HVR : Hid (getV M' (x1, x2) = .slice pr nr cr) := hvr
        rw [hvr] at hlk CN
        have y0 := keep_cell HBA.out (blk_cell HST.out.mem.blk (i := 4) (u := .map (some m.B)) rfl)
        rw [show ({ m with M := M' } : Mem).D = D from HD.out.symm, ← HBB.out] at y0
        have y3 := keep_cell HBA.out (blk_cell HST.out.box (i := 3) (u := .string p) rfl)
        have y5 := keep_heap HBA.out hes
        obtain ⟨z0, z1⟩ := Nj.new_cellD (x := (x1, x2)) (Below.refl _ (wr.alloc (.cells #[.int .i64 x1, .int .i64 x2] 31)))
        simp only at z0 z1
        clear hcs hx hkl hin hes hes2 hrow hvr hnr
        cases hhas : Dm.hasB S.known x1 x2
        · rw [hhas] at CK
          have HHAS : Hid (Dm.hasB S.known x1 x2 = false) := hhas
          clear hhas
          cases hisin : isIn (getJ M' (x1, x2)) p
          · rw [hisin] at CN
            clear hisin
            go_wp2_with fail
            go_region_held3 (fun W => W.cell? ⟨wr.heap.size, 0, none⟩ = some (.int .i64 x1) ∧ W.cell? ⟨wr.heap.size, 1, none⟩ = some (.int .i64 x2) ∧ W.cell? ⟨D, 4, none⟩ = some (.map (some B)) ∧ W.cell? ⟨w.heap.size, 3, none⟩ = some (.string p) ∧ W.heap[B]? = some (.map es clock)) (first | exact ⟨z0, z1, y0, y3, y5⟩ | (go_split_ands; assumption) | (refine ⟨keep_cell hb7 ?_, keep_cell hb7 ?_, keep_cell hb7 ?_, keep_cell hb7 ?_, keep_heap hb7 ?_⟩ <;> (go_split_ands; assumption))) (first
              | (go_at_call 58; refine (CK.out _ HBA.out.drew).mono ?_; rintro e w7 ⟨rfl, hb7⟩; have HB7 : Hid (Below wr.heap.size wr w7) := bel HBA.out.drew hb7)
              | (go_at_call 63; refine (CN.out _ HB7.out).mono ?_; rintro e w8 ⟨rfl, hw⟩; have hw2 := hw.symm; subst hw2; clear hw))
            all_goals
              have i0 := keep_cell (p := ⟨wr.heap.size, 0, none⟩) hb7 z0
              have i1 := keep_cell (p := ⟨wr.heap.size, 1, none⟩) hb7 z1
              have i3 := keep_cell (p := ⟨w.heap.size, 3, none⟩) hb7 y3
              have i4 := keep_cell (p := ⟨D, 4, none⟩) hb7 y0
              have HBN : Below w7.heap.size w7 (w7.alloc (.cells #[.string p] 9)) := (Below.refl _ w7).alloc (Nat.le_refl _) _
              have j0 := keep_cell HBN i0
              have j1 := keep_cell HBN i1
              have j3 := keep_cell HBN i3
              have j4 := keep_cell HBN i4
              clear HBN
              have HBW : Hid (Below wr.heap.size wr ((w7.alloc (.cells #[.string p] 9)).drew)) := (HB7.out.alloc HB7.out.size _).drew
              obtain ⟨st, w5, hme, hent, hg5⟩ := entry_run (MapAt.below HME.out HBW.out) x1 x2
              have HENT : Hid (EntAt w5 B (putM (x1, x2) (getV M' (x1, x2)) (getJ M' (x1, x2)) M') (x1, x2) st) := hent
              have HG5 : Hid (((w7.alloc (.cells #[.string p] 9)).drew).grownBy w5 (some B)) := hg5
              rw [HVR.out] at hme
              have HC5 : Hid (w5.cell? ⟨w7.heap.size, 0, none⟩ = some (.string p)) := by
                have h9 : ((w7.alloc (.cells #[.string p] 9)).drew).heap[w7.heap.size]? = some (.cells #[.string p] 9) := heap_alloc_new w7 _
                exact blk_cell ((hg5.block _ (Array.getElem?_eq_some_iff.1 h9).1 (fun e => by have := MapAt.lt HME.out; have := HB7.out.size; injection e with e; omega)).trans h9) rfl
              have HR5 : Hid (RowS w5 (.slice pr nr cr) (getJ M' (x1, x2))) := by
                unfold Hid
                rw [← HVR.out]
                refine own_stay (RowS.below HROW.out HBW.out) fun g hg => hg5.block g (own_lt (RowS.below HROW.out HBW.out) g hg).1 fun e => ?_
                injection e with e
                obtain ⟨_, cur, hc⟩ := own_lt HROW.out g hg
                obtain ⟨es9, clock9, hb9, _⟩ := HME.out
                rw [e, hb9] at hc; cases hc
              clear hent hg5 hlk z0 z1 y0 y3 y5 hb7 CK CN u1 u2
              go_wp2_with fail
              go_region_law (first
                | (refine step_putS (by rfl) (.tmp 40) (.tmp 43) (by rfl) (.slice pr nr cr) (getJ M' (x1, x2)) p (by rfl) w7.heap.size (by rfl) (by have := short_get HST.out.short (x1, x2); have := HN.out; have := HKL.out; have := HS.out; omega) HR5.out HC5.out ?_; intro v9 w9 hr9 hg9 hl9; obtain ⟨p9, n9, c9, rfl, _⟩ := own_shape hr9; have HR9 : Hid (RowS w9 (.slice p9 n9 c9) (getJ M' (x1, x2) ++ [p])) := hr9; have HG9 : Hid (w5.grownBy w9 (Value.slice pr nr cr).ownBlock) := hg9; have HL9 : Hid ((Value.slice p9 n9 c9).ownBlock = (Value.slice pr nr cr).ownBlock ∨ (Value.slice p9 n9 c9).ownBlock = some w5.heap.size) := hl9; obtain ⟨w10, hst, hm10, hg10⟩ := store_run (EntAt.stay HENT.out (hg9.block B (by obtain ⟨es9, clock9, i9, u9, hb9, _⟩ := HENT.out; exact (Array.getElem?_eq_some_iff.1 hb9).1) (fun e => by obtain ⟨es9, clock9, i9, u9, hb9, _⟩ := HENT.out; obtain ⟨_, cur, hc⟩ := own_lt HR5.out B e.symm; rw [hb9] at hc; cases hc))) (.slice p9 n9 c9) (getJ M' (x1, x2) ++ [p]); have HM10 : Hid (MapAt w10 B (putM (x1, x2) (.slice p9 n9 c9) (getJ M' (x1, x2) ++ [p]) (putM (x1, x2) (getV M' (x1, x2)) (getJ M' (x1, x2)) M'))) := hm10; have HG10 : Hid (w9.grownBy w10 (some B)) := hg10; clear hr9 hg9 hl9 hm10 hg10))
              all_goals
                have HN10 : Hid (SetSt w m S G N a b t p c (.slice (some ⟨bs, os, none⟩) nv cv) s (k + 1) w10 (putM (x1, x2) (.slice p9 n9 c9) (getJ M' (x1, x2) ++ [p]) M')) := by
                  have hne : ∀ g, (Value.slice p9 n9 c9).ownBlock = some g → g ≠ B := fun g hg e => by
                    obtain ⟨_, cur, hc⟩ := own_lt HR9.out g hg
                    have h9 := HG9.out.block B (by obtain ⟨es9, clock9, i9, u9, hb9, _⟩ := HENT.out; exact (Array.getElem?_eq_some_iff.1 hb9).1) (fun e => by obtain ⟨es9, clock9, i9, u9, hb9, _⟩ := HENT.out; obtain ⟨_, cur, hc⟩ := own_lt HR5.out B e.symm; rw [hb9] at hc; cases hc)
                    obtain ⟨es9, clock9, i9, u9, hb9, _⟩ := HENT.out
                    rw [e, h9, hb9] at hc; cases hc
                  refine SetSt.put HST.out HKL.out HX.out HHAS.out ?_ ?_ ?_ ?_
                  · have := HM10.out
                    rw [put_put, HBB.out] at this; exact this
                  · exact own_stay HR9.out fun g hg => HG10.out.block g (own_lt HR9.out g hg).1 fun e => hne g hg (by injection e)
                  · rw [HVR.out, ← HBB.out]
                    have c1 : Chg (fun g => g = B ∨ (Value.slice pr nr cr).ownBlock = some g) wr w5 := (Chg.ofBelow HBW.out _).trans (Chg.grown HG5.out fun g e => Or.inl (by injection e with e; exact e.symm))
                    have c2 : Chg (fun g => g = B ∨ (Value.slice pr nr cr).ownBlock = some g) w5 w9 := Chg.grown HG9.out fun g e => Or.inr e
                    have c3 : Chg (fun g => g = B ∨ (Value.slice pr nr cr).ownBlock = some g) w9 w10 := Chg.grown HG10.out fun g e => Or.inl (by injection e with e; exact e.symm)
                    exact (c1.trans c2).trans c3
                  · intro g hg
                    rw [HVR.out]
                    rcases HL9.out with e | e
                    · exact Or.inl (by rw [← e]; exact hg)
                    · rw [hg] at e
                      injection e with e
                      have q1 := HG5.out.size
                      have q2 := HBW.out.size
                      exact Or.inr (by omega)
                clear hst
                go_wp2_with fail
                go_roundw
                case rel => exact ⟨k + 1, _, by omega, by go_num, HN10⟩
                case measure => simp [intOf]; omega
          · have HIS : Hid (isIn (getJ M' (x1, x2)) p = true) := hisin
            rw [hisin] at CN
            clear hisin
            go_wp2_with fail
            go_region_held3 (fun W => W.cell? ⟨wr.heap.size, 0, none⟩ = some (.int .i64 x1) ∧ W.cell? ⟨wr.heap.size, 1, none⟩ = some (.int .i64 x2) ∧ W.cell? ⟨D, 4, none⟩ = some (.map (some B)) ∧ W.cell? ⟨w.heap.size, 3, none⟩ = some (.string p) ∧ W.heap[B]? = some (.map es clock)) (first | exact ⟨z0, z1, y0, y3, y5⟩ | (go_split_ands; assumption) | (refine ⟨keep_cell hb7 ?_, keep_cell hb7 ?_, keep_cell hb7 ?_, keep_cell hb7 ?_, keep_heap hb7 ?_⟩ <;> (go_split_ands; assumption))) (first
              | (go_at_call 58; refine (CK.out _ HBA.out.drew).mono ?_; rintro e w7 ⟨rfl, hb7⟩; have HB7 : Hid (Below wr.heap.size wr w7) := bel HBA.out.drew hb7)
              | (go_at_call 63; refine (CN.out _ HB7.out).mono ?_; rintro e w8 ⟨rfl, hw⟩; have hw2 := hw.symm; subst hw2; clear hw))
            all_goals
              have HN7 : Hid (SetSt w m S G N a b t p c (.slice (some ⟨bs, os, none⟩) nv cv) s (k + 1) w7 M') := SetSt.skip (HST.out.below HB7.out) HKL.out HX.out (Or.inr HIS.out)
              clear hb7 CK CN hlk z0 z1 y0 y3 y5
              go_wp2_with fail
              go_roundw
              case rel => exact ⟨k + 1, _, by omega, by go_num, HN7⟩
              case measure => simp [intOf]; omega
        · have HHAS : Hid (Dm.hasB S.known x1 x2 = true) := hhas
          rw [hhas] at CK
          clear hhas
          go_wp2_with fail
          refine wp_region_held_drew (S := fun W => W.cell? ⟨wr.heap.size, 0, none⟩ = some (.int .i64 x1) ∧ W.cell? ⟨wr.heap.size, 1, none⟩ = some (.int .i64 x2)) (by kernel_rfl) ⟨z0, z1⟩ (fun hS0 => ?_)
          refine wpAnyH_take (i := 0) (oi := { dst := some 19, op := Op.move (Operand.tmp 0), type := 36, pos := "doc.go:137", after := #[], guard := none }) (v := .pointer (some ⟨D, 0, none⟩)) rfl (by kernel_rfl) (by kernel_rfl) (by kernel_rfl) (fun _ _ _ h => h) (Or.inl ⟨by rfl, by (intro W hW; obtain ⟨g0, g1⟩ := hW; go_simp)⟩) hS0 ?_
          try simp only [Act.put, List.setIfInBounds_toArray, List.set_cons_zero, List.set_cons_succ]
          refine wpAnyH_take (i := 1) (oi := { dst := some 20, op := Op.load 31 (Operand.tmp 5), type := 31, pos := "doc.go:137", after := #[], guard := none }) (v := .agg #[.int .i64 x1, .int .i64 x2]) rfl (by kernel_rfl) (by kernel_rfl) (by kernel_rfl) (fun _ _ _ h => h) (Or.inl ⟨by rfl, by (intro W hW; obtain ⟨g0, g1⟩ := hW; go_simp)⟩) hS0 ?_
          try simp only [Act.put, List.setIfInBounds_toArray, List.set_cons_zero, List.set_cons_succ]
          refine wpAnyH_ready (rs := [2]) (by kernel_rfl) (by simp) ?_
          refine AllReadyH.cons (o := { dst := some 21, op := Op.call { callee := Callee.value (Operand.func 58), args := #[Operand.tmp 19, Operand.tmp 20], argTypes := #[36, 31] }, type := 4, pos := "doc.go:137", after := #[{ on := 0, ground := Ground.data }, { on := 1, ground := Ground.data }], guard := none }) rfl (fun K hK => ?_) AllReadyH.nil
          refine step_call2 (R := fun v w' => v = .bool true ∧ Below ((wr.alloc (.cells #[.int .i64 x1, .int .i64 x2] 31)).drew).heap.size ((wr.alloc (.cells #[.int .i64 x1, .int .i64 x2] 31)).drew) w') rfl 58 (.tmp 19) (.tmp 20) _ _ rfl (.pointer (some ⟨D, 0, none⟩)) (.agg #[.int .i64 x1, .int .i64 x2]) rfl rfl enter_knows ((CK.out _ HBA.out.drew).mono fun e w' h9 => ⟨_, h9.1, rfl, h9.2⟩) ?_
          rintro v7 w7 ⟨rfl, hb7⟩
          have HB7 : Hid (Below wr.heap.size wr w7) := bel HBA.out.drew hb7
          refine hK _ _ ⟨keep_cell hb7 z0, keep_cell hb7 z1⟩ (fun hS1 => ?_)
          try simp only [Act.put, List.setIfInBounds_toArray, List.set_cons_zero, List.set_cons_succ]
          refine wpAnyH_take (i := 3) (oi := { dst := some 22, op := Op.unOp UnOp.not 4 (Operand.tmp 21), type := 4, pos := "doc.go:137", after := #[{ on := 2, ground := Ground.data }], guard := none }) (v := .bool false) rfl (by kernel_rfl) (by kernel_rfl) (by kernel_rfl) (fun _ _ _ h => h) (Or.inl ⟨by rfl, by (intro W hW; obtain ⟨g0, g1⟩ := hW; go_simp)⟩) hS1 ?_
          try simp only [Act.put, List.setIfInBounds_toArray, List.set_cons_zero, List.set_cons_succ]
          refine wpAnyH_take (i := 4) (oi := { dst := some 23, op := Op.move (Operand.tmp 22), type := 4, pos := "doc.go:137", after := #[{ on := 3, ground := Ground.data }, { on := 2, ground := Ground.chain }], guard := none }) (v := .bool false) rfl (by kernel_rfl) (by kernel_rfl) (by kernel_rfl) (fun _ _ _ h => h) (Or.inl ⟨by rfl, by (intro W hW; obtain ⟨g0, g1⟩ := hW; go_simp)⟩) hS1 ?_
          try simp only [Act.put, List.setIfInBounds_toArray, List.set_cons_zero, List.set_cons_succ]
          refine wpAnyH_take (i := 5) (oi := { dst := some 24, op := Op.move (Operand.tmp 0), type := 36, pos := "doc.go:137", after := #[{ on := 4, ground := Ground.guard }], guard := some (4, true) }) (v := undef) rfl (by kernel_rfl) (by kernel_rfl) (by kernel_rfl) (fun _ _ _ h => h) (Or.inr ⟨by rfl, rfl⟩) hS1 ?_
          try simp only [Act.put, List.setIfInBounds_toArray, List.set_cons_zero, List.set_cons_succ]
          refine wpAnyH_take (i := 6) (oi := { dst := some 25, op := Op.nilCheck (Operand.tmp 24), type := 0, pos := "doc.go:137", after := #[{ on := 5, ground := Ground.data }, { on := 4, ground := Ground.guard }], guard := some (4, true) }) (v := undef) rfl (by kernel_rfl) (by kernel_rfl) (by kernel_rfl) (fun _ _ _ h => h) (Or.inr ⟨by rfl, rfl⟩) hS1 ?_
          try simp only [Act.put, List.setIfInBounds_toArray, List.set_cons_zero, List.set_cons_succ]
          refine wpAnyH_take (i := 7) (oi := { dst := some 26, op := Op.fieldAddr 74 (Operand.tmp 25) 2, type := 0, pos := "doc.go:137", after := #[{ on := 6, ground := Ground.data }, { on := 4, ground := Ground.guard }], guard := some (4, true) }) (v := undef) rfl (by kernel_rfl) (by kernel_rfl) (by kernel_rfl) (fun _ _ _ h => h) (Or.inr ⟨by rfl, rfl⟩) hS1 ?_
          try simp only [Act.put, List.setIfInBounds_toArray, List.set_cons_zero, List.set_cons_succ]
          refine wpAnyH_take (i := 8) (oi := { dst := some 27, op := Op.load 72 (Operand.tmp 26), type := 72, pos := "doc.go:137", after := #[{ on := 7, ground := Ground.data }, { on := 4, ground := Ground.guard }], guard := some (4, true) }) (v := undef) rfl (by kernel_rfl) (by kernel_rfl) (by kernel_rfl) (fun _ _ _ h => h) (Or.inr ⟨by rfl, rfl⟩) hS1 ?_
          try simp only [Act.put, List.setIfInBounds_toArray, List.set_cons_zero, List.set_cons_succ]
          refine wpAnyH_take (i := 9) (oi := { dst := some 28, op := Op.load 31 (Operand.tmp 5), type := 31, pos := "doc.go:137", after := #[{ on := 4, ground := Ground.guard }], guard := some (4, true) }) (v := undef) rfl (by kernel_rfl) (by kernel_rfl) (by kernel_rfl) (fun _ _ _ h => h) (Or.inr ⟨by rfl, rfl⟩) hS1 ?_
          try simp only [Act.put, List.setIfInBounds_toArray, List.set_cons_zero, List.set_cons_succ]
          refine wpAnyH_take (i := 10) (oi := { dst := some 29, op := Op.lookup 72 (Operand.tmp 27) (Operand.tmp 28) false, type := 119, pos := "doc.go:137", after := #[{ on := 8, ground := Ground.data }, { on := 9, ground := Ground.data }, { on := 4, ground := Ground.guard }], guard := some (4, true) }) (v := undef) rfl (by kernel_rfl) (by kernel_rfl) (by kernel_rfl) (fun _ _ _ h => h) (Or.inr ⟨by rfl, rfl⟩) hS1 ?_
          try simp only [Act.put, List.setIfInBounds_toArray, List.set_cons_zero, List.set_cons_succ]
          refine wpAnyH_take (i := 11) (oi := { dst := some 30, op := Op.fieldAddr 34 (Operand.tmp 3) 2, type := 0, pos := "doc.go:137", after := #[{ on := 4, ground := Ground.guard }], guard := some (4, true) }) (v := undef) rfl (by kernel_rfl) (by kernel_rfl) (by kernel_rfl) (fun _ _ _ h => h) (Or.inr ⟨by rfl, rfl⟩) hS1 ?_
          try simp only [Act.put, List.setIfInBounds_toArray, List.set_cons_zero, List.set_cons_succ]
          refine wpAnyH_take (i := 12) (oi := { dst := some 31, op := Op.load 9 (Operand.tmp 30), type := 9, pos := "doc.go:137", after := #[{ on := 11, ground := Ground.data }, { on := 4, ground := Ground.guard }], guard := some (4, true) }) (v := undef) rfl (by kernel_rfl) (by kernel_rfl) (by kernel_rfl) (fun _ _ _ h => h) (Or.inr ⟨by rfl, rfl⟩) hS1 ?_
          try simp only [Act.put, List.setIfInBounds_toArray, List.set_cons_zero, List.set_cons_succ]
          refine wpAnyH_take (i := 13) (oi := { dst := some 32, op := Op.call { callee := Callee.value (Operand.func 63), args := #[Operand.tmp 29, Operand.tmp 31], argTypes := #[119, 9] }, type := 4, pos := "doc.go:137", after := #[{ on := 10, ground := Ground.data }, { on := 12, ground := Ground.data }, { on := 4, ground := Ground.chain }, { on := 4, ground := Ground.guard }], guard := some (4, true) }) (v := undef) rfl (by kernel_rfl) (by kernel_rfl) (by kernel_rfl) (fun _ _ _ h => h) (Or.inr ⟨by rfl, rfl⟩) hS1 ?_
          try simp only [Act.put, List.setIfInBounds_toArray, List.set_cons_zero, List.set_cons_succ]
          refine wpAnyH_take (i := 14) (oi := { dst := some 33, op := Op.unOp UnOp.not 4 (Operand.tmp 32), type := 4, pos := "doc.go:137", after := #[{ on := 13, ground := Ground.data }, { on := 4, ground := Ground.guard }], guard := some (4, true) }) (v := undef) rfl (by kernel_rfl) (by kernel_rfl) (by kernel_rfl) (fun _ _ _ h => h) (Or.inr ⟨by rfl, rfl⟩) hS1 ?_
          try simp only [Act.put, List.setIfInBounds_toArray, List.set_cons_zero, List.set_cons_succ]
          refine wpAnyH_take (i := 15) (oi := { dst := some 34, op := Op.pick (Operand.tmp 23) (Operand.tmp 33) (Operand.const (Value.bool false)), type := 4, pos := "doc.go:137", after := #[{ on := 4, ground := Ground.data }, { on := 14, ground := Ground.data }], guard := none }) (v := .bool false) rfl (by kernel_rfl) (by kernel_rfl) (by kernel_rfl) (fun _ _ _ h => h) (Or.inl ⟨by rfl, by (intro W hW; obtain ⟨g0, g1⟩ := hW; go_simp)⟩) hS1 ?_
          try simp only [Act.put, List.setIfInBounds_toArray, List.set_cons_zero, List.set_cons_succ]
          refine wpAnyH_done (by kernel_rfl) ?_ _
          all_goals
            have HN7 : Hid (SetSt w m S G N a b t p c (.slice (some ⟨bs, os, none⟩) nv cv) s (k + 1) w7 M') := SetSt.skip (HST.out.below HB7.out) HKL.out HX.out (Or.inl HHAS.out)
            clear hb7 CK CN hlk z0 z1 y0 y3 y5
            go_wp2_with fail
            go_roundw
            case rel => exact ⟨k + 1, _, by omega, by go_num, HN7⟩
            case measure => simp [intOf]; omega
      · obtain rfl : k = nv := by omega
        have hltz : ¬ (k : Int) < k := by omega
        go_wp2_with fail
        go_end0
        exact ⟨rfl, M', by rw [HVN.out]; exact HST.out⟩

end Ih
end Go.Proofs.YtgefpcchcegcpaaGreatDoor
