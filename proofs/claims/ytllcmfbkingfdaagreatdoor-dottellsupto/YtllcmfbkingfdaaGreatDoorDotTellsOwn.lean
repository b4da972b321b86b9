/- DotTells, up to the bound: for every two lists of numbers, every dot and every text that together hold at most 1048576 values and letters, the law returns true: package dot answers as the reference does, and tells the same errors. The card ties the listed package-level variables of Go's library. -/
import Derived.Test.YtllcmfbkingfdaaGreatDoorTb
import Derived.Test.YtllcmfbkingfdaaGreatDoorTc
import Derived.Test.YtllcmfbkingfdaaGreatDoorTd
import Derived.Test.YtllcmfbkingfdaaGreatDoorTe
import Derived.Test.YtllcmfbkingfdaaGreatDoorTf
import Derived.Test.YtllcmfbkingfdaaGreatDoorDs
import Derived.Test.YtllcmfbkingfdaaGreatDoorCards
import Derived.Test.YtllcmfbkingfdaaGreatDoorTie
import Derived.SevenTiedAt
import Derived.Deep.DeepHandedRow
import Derived.Deep.DeepWitnessRowRef
import Derived.ShutString
import Derived.ChangeOld
import Derived.Carry
import Derived.Lib.SmallJoins
namespace Go.Proofs.YtllcmfbkingfdaaGreatDoor
namespace DotTellsOwn
set_option linter.unusedVariables false
open Go.ChangeShapes Go.WideShapes Go.ChangeAt Go.RowKit Za Di Dd Ta Pt
open Go.ChangeMaps (open_string shut_string)

theorem laidOut : laidOutB Tryz.prog = true := by kernel_rfl

theorem bulk_lits {H : Type} (k : IntKind) : ∀ l : List Int, Rows.uptoBulkAll (lits (H := H) k l) = l.length
  | [] => rfl
  | x :: r => by
    have := bulk_lits (H := H) k r
    simp only [lits, List.map_cons, Rows.uptoBulkAll, Rows.uptoBulk, List.length_cons] at this ⊢
    omega

set_option maxRecDepth 100000 in
/- what a list that came in is: its numbers lie in memory; its length is at most its bulk -/
theorem open_vec {H : Type} {enc : TypeId × Value → H} {W : World} {base : Nat} {v : Value} {d : DataW H} {ps : List MemPlace}
    (hv : Value.okWide Tryz.prog W .any base 22 v) (h : DataW.Trod enc Tryz.prog W 0 (fun _ => true) true 22 v d ps) :
    ∃ p n c l, v = .slice p n c ∧ l.length = n ∧ IntsIn W p l ∧ n ≤ Rows.uptoBulk d := by
  obtain ⟨a0, len0, cap0, rfl⟩ := okWide_slice Tryz.underlying22 hv
  obtain ⟨fuel, hf⟩ := h
  rcases open_ints Tryz.underlying22 Tryz.underlying3 (by kernel_rfl) hf with ⟨hcs, _⟩ | ⟨x, l, c, zs, hcs, _, hl, hm, hz, hx, hcell, hwz⟩
  · simp [Value.cells] at hcs
    obtain ⟨rfl, rfl, rfl⟩ := hcs
    exact ⟨none, 0, 0, [], rfl, rfl, IntsIn.nil _ _, Nat.zero_le _⟩
  · simp [Value.cells] at hcs
    obtain ⟨rfl, rfl, rfl⟩ := hcs
    simp at hz
    have hd : d = .slice (lits .i64 (zs.take len0)) (lits .i64 (zs.drop len0)) := congrArg Prod.fst hx
    refine ⟨some x, len0, cap0, zs.take len0, rfl, by rw [List.length_take]; omega, ?_, ?_⟩
    · by_cases h0 : len0 = 0
      · left; rw [h0]; rfl
      · right
        obtain ⟨b, off, spot⟩ := x
        have hc0 := hcell 0 (by omega)
        have hspot : spot = none := by simpa [Addr.add] using World.cell?_spot hc0
        subst hspot
        refine ⟨b, off, rfl, fun j hj => ?_⟩
        rw [List.length_take] at hj
        have := hcell j (by omega)
        rw [Addr.add_lit] at this
        rw [this, List.getD_eq_getElem?_getD, List.getD_eq_getElem?_getD, List.getElem?_take_of_lt (by omega)]
    · rw [hd]
      simp only [Rows.uptoBulk, bulk_lits]
      rw [List.length_take]; omega

theorem cellsDot : Tryz.prog.cellsOf 24 = 2 := by kernel_rfl
set_option maxRecDepth 100000 in
theorem open_dot {H : Type} {enc : TypeId × Value → H} {W : World} {base : Nat} {v : Value} {d : DataW H} {ps : List MemPlace}
    (hv : Value.okWide Tryz.prog W .any base 24 v) (h : DataW.Trod enc Tryz.prog W 0 (fun _ => true) true 24 v d ps) :
    ∃ who m : Int, v = .agg #[.int .i64 who, .int .i64 m] := by
  obtain ⟨c0, c1, y0, y1, mm, rfl, _, _, hy0, hy1⟩ := Go.Joins.open_agg2 Tryz.underlying24 (by kernel_rfl) cellsDot hv h
  obtain ⟨a, e0, _, _⟩ := DataW.trod_int Tryz.underlying3 hy0
  obtain ⟨b, e1, _, _⟩ := DataW.trod_int Tryz.underlying3 hy1
  simp at e0 e1
  exact ⟨a, b, by rw [e0, e1]⟩

theorem walk (pa pb : Option Addr) (na nb ca cb : Nat) (la lb : List Int) (who m : Int) (s : ByteArray) (w : World) (ha : la.length = na) (hb : lb.length = nb) (hna : na ≤ 1048576) (ia : IntsIn w pa la) (ib : IntsIn w pb lb) (hs : s.size ≤ 1048576) (hL : Lib3 w) (hg : ET w) :
    Calls Tryz.prog 3 #[.slice pa na ca, .slice pb nb cb, .agg #[.int .i64 who, .int .i64 m], .string s] w fun e w' => e = .returned (.bool true) ∧ Below w.heap.size w w' := by
  by_cases hva : Dm.vecE la = 0
  · by_cases hde : Dm.dotE who m = 0
    · have hwe : Dm.withE la who m = 0 := by unfold Dm.withE; rw [if_pos hva]; exact hde
      have hcases : Dm.addE la who m = 7 ∨ Dm.addE la who m = 6 ∨ Dm.addE la who m = 0 := by
        unfold Dm.addE; rw [hwe, if_neg (by simp)]
        split
        · exact Or.inl rfl
        · split
          · exact Or.inr (Or.inl rfl)
          · exact Or.inr (Or.inr rfl)
      by_cases hvb : Dm.vecE lb = 0
      · rcases hcases with h | h | h
        · exact walk_c7y pa pb na nb ca cb la lb who m s w ha hb hna ia ib hs hL hg hwe h hvb
        · exact walk_c6y pa pb na nb ca cb la lb who m s w ha hb hna ia ib hs hL hg hwe h hvb
        · exact walk_c0y pa pb na nb ca cb la lb who m s w ha hb hna ia ib hs hL hg hwe h hvb
      · rcases hcases with h | h | h
        · exact walk_c7n pa pb na nb ca cb la lb who m s w ha hb hna ia ib hs hL hg hwe h hvb
        · exact walk_c6n pa pb na nb ca cb la lb who m s w ha hb hna ia ib hs hL hg hwe h hvb
        · exact walk_c0n pa pb na nb ca cb la lb who m s w ha hb hna ia ib hs hL hg hwe h hvb
    · by_cases hvb : Dm.vecE lb = 0
      · exact walk_cDy pa pb na nb ca cb la lb who m s w ha hb hna ia ib hs hL hg hva hde hvb
      · exact walk_cDn pa pb na nb ca cb la lb who m s w ha hb hna ia ib hs hL hg hva hde hvb
  · exact walk_cV pa pb na nb ca cb la lb who m s w ha hb hna ia ib hs hL hg hva

set_option maxRecDepth 100000 in
theorem reads (os : Os) {H : Type} (enc : TypeId × Value → H) : ∃ places, DataW.whole enc Tryz.prog (({ World.holding Tryz.prog os Ds.start with heap := Ds.heapOf (World.holding Tryz.prog os Ds.start).heap (World.holding Tryz.prog os ⟨#[], #[], []⟩).heap.size } : World).forCall (fun _ _ => 0) ⟨#[], #[.slice none 0 0, .slice none 0 0, .agg #[.int .i64 0, .int .i64 0], .string ⟨#[]⟩], []⟩).memory Tryz.f3.params.toList Rows.dotTellsSpec.vars false #[Value.slice none 0 0, Value.slice none 0 0, Value.agg #[.int .i64 0, .int .i64 0], Value.string ⟨#[]⟩].toList 8 = some ([.nil, .nil, .agg [.lit (.int .i64 0), .lit (.int .i64 0)], .lit (.string [])], [], places) :=
  ⟨[], by kernel_rfl⟩

set_option maxRecDepth 100000 in
theorem lifted (os : Os) (started : os.Started) (H : Type) (enc : TypeId × Value → H) (F : Stop.Interp) :
    ReturnsInHanded {} Tryz.checked os 3 .any ((Rows.OpenSpec.upto Rows.dotTellsSpec).preRow enc Tryz.prog Tryz.f3 Rows.dotTellsUptoRow.domain false Rows.dotTellsUptoRow.laid) (((Rows.OpenSpec.upto Rows.dotTellsSpec).at F).post enc Tryz.prog Tryz.f3 false true false false) := by
  obtain ⟨places, hx⟩ := reads os enc
  refine returnsInHanded_of_row (C := Tryz.checked) (s := Rows.OpenSpec.upto Rows.dotTellsSpec) Ds.own started (by kernel_rfl) Tryz.func3
    (witness_row_atRef (enc := enc) (C := Tryz.checked) false { World.holding Tryz.prog os Ds.start with heap := Ds.heapOf (World.holding Tryz.prog os Ds.start).heap (World.holding Tryz.prog os ⟨#[], #[], []⟩).heap.size } #[.slice none 0 0, .slice none 0 0, .agg #[.int .i64 0, .int .i64 0], .string ⟨#[]⟩] rfl (by kernel_rfl) (by kernel_rfl) (by kernel_rfl)
      (OpenSpec.preRow_of_cond 8 hx (by kernel_rfl) (fun k hk => by cases hk; kernel_rfl) (by kernel_rfl) (Ds.laid_met os _))) ?_
  intro W base args ds gs before hval0 hW _ hcond _ hL hsh _
  have hval : ∀ (j : Nat) t v, Tryz.f3.params[j]? = some t → args[j]? = some v → Value.okWide Tryz.prog W .any base t v := hval0
  have hW' := hW
  obtain ⟨p, q, hA0, hV0, rfl, hfz, hnd⟩ := hW
  have hA : DataW.TrodAll enc Tryz.prog W 0 (fun _ => true) true Tryz.f3.params.toList args.toList ds p := hA0
  have hV : DataW.TrodVars enc Tryz.prog W (fun _ => true) [] gs q := hV0
  rw [Tryz.params3] at hA hval
  obtain ⟨v0, vs0, d0, ds0, p0, q0, hargs, rfl, rfl, h0, r0⟩ := trodAll_cons hA
  obtain ⟨v1, vs1, d1, ds1, p1, q1, rfl, rfl, rfl, h1, r1⟩ := trodAll_cons r0
  obtain ⟨v2, vs2, d2, ds2, p2, q2, rfl, rfl, rfl, h2, r2⟩ := trodAll_cons r1
  obtain ⟨v3, vs3, d3, ds3, p3, q3, rfl, rfl, rfl, h3, r3⟩ := trodAll_cons r2
  obtain ⟨rfl, rfl, rfl⟩ := trodAll_nil r3
  obtain rfl : args = #[v0, v1, v2, v3] := by cases args; simp_all
  obtain ⟨rfl, rfl⟩ : gs = [] ∧ q = [] := by
    cases gs with
    | nil => exact ⟨rfl, hV⟩
    | cons g r => exact absurd hV (by intro h; cases h)
  have hbk : Rows.uptoBulkAll [d0, d1, d2, d3] ≤ 1048576 := of_decide_eq_true (hcond _ rfl)
  simp only [Rows.uptoBulkAll] at hbk
  have k0 := h0
  have k1 := h1
  have k2 := h2
  have lt0 : ∀ x ∈ p0, x.block < W.heap.size := by obtain ⟨m, hm⟩ := k0; exact DataW.trod_lt m _ _ _ hm
  have lt1 : ∀ x ∈ p1, x.block < W.heap.size := by obtain ⟨m, hm⟩ := k1; exact DataW.trod_lt m _ _ _ hm
  have lt2 : ∀ x ∈ p2, x.block < W.heap.size := by obtain ⟨m, hm⟩ := k2; exact DataW.trod_lt m _ _ _ hm
  obtain ⟨pa, na, ca, la, e0, hla, ia, ba⟩ := open_vec (hval 0 22 v0 rfl rfl) h0
  obtain ⟨pb, nb, cb, lb, e1, hlb, ib, bb⟩ := open_vec (hval 1 22 v1 rfl rfl) h1
  obtain ⟨who, m, e2⟩ := open_dot (hval 2 24 v2 rfl rfl) h2
  obtain ⟨s, rfl, rfl, rfl, hs⟩ := open_string Tryz.underlying9 (hval 3 9 v3 rfl rfl) h3
  have hss : s.size ≤ 1048576 := by
    have h9 : s.data.toList.length = s.size := rfl
    simp only [Rows.uptoBulk] at hbk
    omega
  have hg := Ds.lib_of hL hsh
  have het := Ds.et_of hL
  clear hA0 hval0
  simp only [List.append_nil] at hW'
  have hwalk := walk pa pb na nb ca cb la lb who m s W hla hlb (by omega) ia ib hss hg het
  rw [← e0, ← e1, ← e2] at hwalk
  refine hwalk.mono fun e W' ⟨he, bel⟩ => ?_
  subst he
  exact ⟨_, rfl, _, _, _, [], _, [], hW', trodAll_mk1 (shut_bool Tryz.underlying4 _), (trodAll_cons_mk (Below.trod laidOut (by kernel_rfl) (of_decide_eq_true (by kernel_rfl)) k0 bel lt0) (trodAll_cons_mk (Below.trod laidOut (by kernel_rfl) (of_decide_eq_true (by kernel_rfl)) k1 bel lt1) (trodAll_cons_mk (Below.trod laidOut (by kernel_rfl) (of_decide_eq_true (by kernel_rfl)) k2 bel lt2) (trodAll_cons_mk (shut_string Tryz.underlying9 hs) trodAll_mk0)))), rfl, bel.frame _, fun h => by cases h⟩

theorem over : Rows.DotTellsUptoSaid :=
  OpenClaim.holds_of_cond 3 Tryz.f3 rfl rfl rfl rfl rfl rfl rfl ⟨rfl, rfl, rfl, rfl, rfl⟩ rfl rfl rfl rfl rfl (by kernel_rfl) Tryz.func3 (by kernel_rfl)
    (of_decide_eq_true (by kernel_rfl)) (by unfold Func.isWrapper; rw [if_neg (of_decide_eq_false (by kernel_rfl))]; exact ⟨rfl, rfl⟩)
    (fun os started H enc _ F => by rw [OpenClaim.pre_eq_preRow]; exact lifted os started H enc F)

end DotTellsOwn

theorem dotTellsUpto_holds : Rows.DotTellsUptoCardSaid :=
  Claim7.holds_tied_plain_at .later [] _ _ _ _
    DotTellsOwn.over (fun _ h => by cases h) (by kernel_rfl) (fun _ h => by cases h) dotTellsUpto_row_tie rfl ⟨rfl, rfl⟩ (by kernel_rfl) rfl
    (fun f fn hf hfn => by
      obtain rfl : f = 3 := Option.some.inj ((show Tryz.prog.funcNamed Rows.dotTellsUptoRow.func = some 3 by kernel_rfl).symm.trans hf) |>.symm
      obtain rfl : fn = Tryz.f3 := (Option.some.inj (Tryz.func3.symm.trans hfn)).symm
      exact ⟨by kernel_rfl, fun j t ht => by
        rw [Tryz.params3] at ht
        have h3 : t = 22 ∨ t = 24 ∨ t = 9 := by
          rcases j with _ | _ | _ | _ | j
          · exact Or.inl (by simpa using ht.symm)
          · exact Or.inl (by simpa using ht.symm)
          · exact Or.inr (Or.inl (by simpa using ht.symm))
          · exact Or.inr (Or.inr (by simpa using ht.symm))
          · simp at ht
        rcases h3 with rfl | rfl | rfl
        · exact (show Tryz.prog.wantsStandIn 22 = false by kernel_rfl)
        · exact (show Tryz.prog.wantsStandIn 24 = false by kernel_rfl)
        · exact (show Tryz.prog.wantsStandIn 9 = false by kernel_rfl)⟩)
    (by kernel_rfl)
#print axioms dotTellsUpto_holds
end Go.Proofs.YtllcmfbkingfdaaGreatDoor
