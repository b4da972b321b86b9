/- What dot.Number answers, of so many digits as are asked (package dot asks 9, a session's line 4). -/
import Derived.Test.YtllcmfbkingfdaaGreatDoorDg
import Derived.Test.YtllcmfbkingfdaaGreatDoorSh
import Derived.Test.YtllcmfbkingfdaaGreatDoorDj
import Derived.Lib.AtoiErrMem
import Derived.Lib.AppendIntMem
import Derived.Lib.AtoiBound
namespace Go.Proofs.YtllcmfbkingfdaaGreatDoor
namespace Di
set_option linter.unusedVariables false
open Go.ChangeShapes Go.WideShapes Go.ChangeAt Go.RowKit Za Db Dg

/- the name of the library's table of powers of ten, as the row lists it -/
def tabName : String := (Rows.dotTellsRow.laid.map (fun x => x.1)).getD 2 (String.ofList [])

/- what a walk asks of the library's variables: the table of powers of ten, an int, an error -/
def Lib3 (w : World) : Prop := Lib.TabIs Tryz.prog w tabName .u64 Lib.pow10Tab ∧ (∃ m, w.cell? ⟨2, 0, none⟩ = some (.int .i64 m)) ∧ (∃ tp p, w.var? Tryz.prog "strconv.ErrSyntax" = some #[.iface tp p])

theorem itoa_any (n : Int) (h0 : -9223372036854775808 ≤ n) (h1 : n ≤ 9223372036854775807) (w : World) (h : Lib3 w) :
    Calls Tryz.prog 23 #[.int .i64 n] w fun e w' => e = .returned (.string ⟨(Lib.itoa n).toArray⟩) ∧ Below w.heap.size w w' := by
  refine (Any.strconv_Itoa Tryz.laysM171 n h0 h1 w h.1).mono ?_
  rintro e w' ⟨rfl, k, os, rfl⟩
  exact ⟨rfl, Lib.below_grow _ w (Nat.le_refl _) k os⟩

theorem atoi_yes (s : ByteArray) (n : Int) (hl : s.size ≤ 9) (h : Lib.atoi s.data.toList = some n) (w : World) :
    Calls Tryz.prog 40 #[.string s] w fun e w' => e = .returned (.tuple #[.int .i64 n, .nilIface]) ∧ Below w.heap.size w w' := by
  refine (Tryz.strconv_Atoi s n (by omega) h w).mono ?_
  rintro e w' ⟨rfl, t, rfl⟩
  exact ⟨rfl, Lib.bytesWorld_below w _ t⟩

theorem atoi_no (s : ByteArray) (hl : s.size ≤ 9) (h : Lib.atoi s.data.toList = none) (w : World) (hL : Lib3 w) :
    Calls Tryz.prog 40 #[.string s] w fun e w' => ∃ T N, e = .returned (.tuple #[.int .i64 0, .iface T (.pointer (some ⟨N, 0, none⟩))]) ∧ Below w.heap.size w w' := by
  obtain ⟨tp, p, hv⟩ := hL.2.2
  refine (Tryz.strconv_Atoi_err_var s (by omega) h tp p w hv).mono ?_
  rintro e w' ⟨N, rfl, _, _, hb⟩
  exact ⟨_, N, rfl, hb⟩

theorem var_below {w w' : World} (hb : Below w.heap.size w w') {nm : String} {cs : Array Value} (hc : 0 < cs.size) (h : w.var? Tryz.prog nm = some cs) : w'.var? Tryz.prog nm = some cs := by
  unfold World.var? at h ⊢
  cases hg : Tryz.prog.globalNamed nm with
  | none => rw [hg] at h; cases h
  | some g =>
    rw [hg] at h
    have hlt : g < w.heap.size := by
      rcases Nat.lt_or_ge g w.heap.size with h2 | h2
      · exact h2
      · simp [Array.getElem?_eq_none h2] at h
    simp only [Option.bind_some] at h ⊢
    rw [hb.block g hlt]; exact h

theorem Lib3.below {w w' : World} (h : Lib3 w) (hb : Below w.heap.size w w') : Lib3 w' := by
  obtain ⟨h1, ⟨m, h2⟩, tp, p, h3⟩ := h
  refine ⟨var_below hb (by decide) h1, ⟨m, ?_⟩, tp, p, var_below hb (by simp) h3⟩
  rw [hb.cell (p := ⟨2, 0, none⟩) (World.block_lt_of_cell? _ _ h2)]; exact h2

/- a number of at most D digits, as Itoa would write it -/
def numD (D : Nat) (l : List UInt8) : Option Int :=
  if D < l.length then none else match Lib.atoi l with
    | none => none
    | some n => if n < 0 then none else if Lib.itoa n = l then some n else none
theorem numD_nine (l : List UInt8) : numD 9 l = Dm.numO l := rfl
theorem numD_low {D : Nat} (hD : D ≤ 9) {l : List UInt8} (h : l.length ≤ D) : numD D l = Dm.numO l := by
  unfold numD Dm.numO; rw [if_neg (by omega), if_neg (by omega)]; rfl
theorem numD_parts {D : Nat} {l : List UInt8} {n : Int} (h : numD D l = some n) : l.length ≤ D ∧ Lib.atoi l = some n ∧ 0 ≤ n ∧ Lib.itoa n = l := by
  unfold numD at h
  by_cases h9 : D < l.length
  · rw [if_pos h9] at h; cases h
  · rw [if_neg h9] at h
    cases ha : Lib.atoi l with
    | none => rw [ha] at h; cases h
    | some k =>
      rw [ha] at h
      simp only at h
      by_cases hk : k < 0
      · rw [if_pos hk] at h; cases h
      · rw [if_neg hk] at h
        by_cases hi : Lib.itoa k = l
        · rw [if_pos hi] at h; injection h with h; subst h
          exact ⟨by omega, rfl, by omega, hi⟩
        · rw [if_neg hi] at h; cases h

theorem number_yes (D : Nat) (d : Int) (hD : D ≤ 9) (hd : d = (D : Int)) (s : ByteArray) (n : Int) (w : World) (hL : Lib3 w) (h : numD D s.data.toList = some n) :
    Calls Tryz.prog 32 #[.string s, .int .i64 d] w fun e w' => e = .returned (.tuple #[.int .i64 n, .bool true]) ∧ Below w.heap.size w w' := by
  obtain ⟨h9, ha, h0, hi⟩ := numD_parts h
  have hsD : s.size ≤ D := h9
  have hs9 : s.size ≤ 9 := by omega
  have hsd : (s.size : Int) ≤ d := by omega
  have hbd := Lib.atoi_bound ha (show s.data.toList.length ≤ 18 from Nat.le_trans (show s.data.toList.length ≤ 9 from hs9) (by decide))
  have hst : (⟨(Lib.itoa n).toArray⟩ : ByteArray) = s := by rw [hi]
  have C := atoi_yes s n hs9 ha w
  have HI : Hid (∀ w2, Below w.heap.size w w2 → Calls Tryz.prog 23 #[.int .i64 n] w2 fun e w' => e = .returned (.string s) ∧ Below w2.heap.size w2 w') := by
    intro w2 hb
    have := itoa_any n (by omega) (by omega) w2 (hL.below hb)
    rw [hst] at this; exact this
  clear h h9 ha hi hst hL hbd hd hD hsD
  go_enter Tryz.func32, Tryz.ntmps32
  go_wp2_with fail
  refine C.mono ?_
  rintro e w2 ⟨rfl, hb2⟩
  have C2 := HI.out w2 hb2
  have HB2 : Hid (Below w.heap.size w w2) := hb2
  clear C HI hb2
  go_wp2_with fail
  refine C2.mono ?_
  rintro e w3 ⟨rfl, hb3⟩
  have HB3 : Hid (Below w.heap.size w w3) := bel HB2.out hb3
  clear C2 hb3
  go_wp2_with fail
  go_ret2
  exact ⟨rfl, HB3.out⟩

theorem number_no (D : Nat) (d : Int) (hD : D ≤ 9) (hd : d = (D : Int)) (s : ByteArray) (w : World) (hL : Lib3 w) (h : numD D s.data.toList = none) :
    Calls Tryz.prog 32 #[.string s, .int .i64 d] w fun e w' => e = .returned (.tuple #[.int .i64 0, .bool false]) ∧ Below w.heap.size w w' := by
  by_cases h9' : s.size ≤ D
  · have h9 : s.size ≤ 9 := by omega
    have hsd : (s.size : Int) ≤ d := by omega
    have hl9 : ¬ D < s.data.toList.length := by
      have : s.data.toList.length = s.size := rfl
      omega
    unfold numD at h
    rw [if_neg hl9] at h
    clear hD hd h9'
    cases ha : Lib.atoi s.data.toList with
    | none =>
      have C := atoi_no s h9 ha w hL
      clear h ha hL hl9
      go_enter Tryz.func32, Tryz.ntmps32
      go_wp2_with fail
      refine C.mono ?_
      rintro e w2 ⟨T, N, rfl, hb2⟩
      have HB2 : Hid (Below w.heap.size w w2) := hb2
      clear C hb2
      go_wp2_with fail
      go_ret2
      exact ⟨rfl, HB2.out⟩
    | some n =>
      rw [ha] at h
      simp only at h
      have C := atoi_yes s n h9 ha w
      have hbd := Lib.atoi_bound ha (show s.data.toList.length ≤ 18 from Nat.le_trans (show s.data.toList.length ≤ 9 from h9) (by decide))
      by_cases hn : n < 0
      · clear h ha hL hl9 hbd
        go_enter Tryz.func32, Tryz.ntmps32
        go_wp2_with fail
        refine C.mono ?_
        rintro e w2 ⟨rfl, hb2⟩
        have HB2 : Hid (Below w.heap.size w w2) := hb2
        clear C hb2
        go_wp2_with fail
        go_ret2
        exact ⟨rfl, HB2.out⟩
      · rw [if_neg hn] at h
        have hne : Lib.itoa n ≠ s.data.toList := by
          intro e; rw [if_pos e] at h; cases h
        obtain ⟨t, ht⟩ : ∃ t : ByteArray, t = ⟨(Lib.itoa n).toArray⟩ := ⟨_, rfl⟩
        have htl : t.toList = Lib.itoa n := by rw [ht, ByteArray.toList_eq]
        have hb1 : (t.toList == s.toList) = false := by
          rw [htl, ByteArray.toList_eq]; simpa using hne
        have HI : Hid (∀ w2, Below w.heap.size w w2 → Calls Tryz.prog 23 #[.int .i64 n] w2 fun e w' => e = .returned (.string t) ∧ Below w2.heap.size w2 w') := by
          intro w2 hb
          have := itoa_any n (by omega) (by omega) w2 (hL.below hb)
          rw [← ht] at this; exact this
        have hn0 : 0 ≤ n := by omega
        clear h ha hL hl9 hbd hne ht htl hn
        go_enter Tryz.func32, Tryz.ntmps32
        go_wp2_with fail
        refine C.mono ?_
        rintro e w2 ⟨rfl, hb2⟩
        have C2 := HI.out w2 hb2
        have HB2 : Hid (Below w.heap.size w w2) := hb2
        clear C HI hb2
        go_wp2_with fail
        refine C2.mono ?_
        rintro e w3 ⟨rfl, hb3⟩
        have HB3 : Hid (Below w.heap.size w w3) := bel HB2.out hb3
        clear C2 hb3
        go_wp2_with fail
        go_ret2
        exact ⟨rfl, HB3.out⟩
  · have hsd : d < (s.size : Int) := by omega
    clear h hL h9' hd hD
    go_enter Tryz.func32, Tryz.ntmps32
    go_wp2_with fail
    go_ret2
    exact ⟨rfl, Below.refl _ _⟩

end Di
end Go.Proofs.YtllcmfbkingfdaaGreatDoor
