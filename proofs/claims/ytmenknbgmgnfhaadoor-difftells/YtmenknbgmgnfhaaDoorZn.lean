/- What both have is kept: the walk. -/
import Derived.Test.YtmenknbgmgnfhaaDoorZm
namespace Go.Proofs.YtmenknbgmgnfhaaDoor
namespace Zn
set_option linter.unusedVariables false
set_option linter.unusedSimpArgs false
open Go.ChangeShapes Go.WideShapes Go.ChangeAt Go.RowKit Ka Kb Zb Zc Zd Ze Zf Zg Zh Zi Zj Zm

theorem cost_eq : ∀ {l : List Fr}, (∀ x ∈ l, 0 ≤ x.2.1 ∧ x.2.1 ≤ 200) → costN l = cost (eds l)
  | [], _ => rfl
  | x :: l, h => by
    have h1 := h x (List.mem_cons_self ..)
    have h2 := cost_eq (l := l) fun y hy => h y (List.mem_cons_of_mem _ hy)
    have e : costN (x :: l) = cs x + costN l := by simp [costN]
    rw [e, h2, cs, if_pos h1]
    show _ = x.2.1.toNat + x.2.2.toList.length + cost (eds l)
    rw [Kb.len_eq]
theorem strikes_of {l : List Fr} {A B : List UInt8} (hr : run A (eds l) = some B) (hA : A.length ≤ 200) : ∀ x ∈ l, 0 ≤ x.2.1 ∧ x.2.1 ≤ 200 := by
  intro x hx
  have h := run_strike hr (ed x) (List.mem_map.2 ⟨x, hx, rfl⟩)
  unfold ed at h
  dsimp only at h
  omega
/- what Diff answers -/
structure Dl (A B : List UInt8) (l : List Fr) : Prop where
  eq : eds l = dif A B
  sz : ∀ x ∈ l, x.2.2.size ≤ 200
theorem Dl.run {A B : List UInt8} {l : List Fr} (h : Dl A B l) : Zc.run A (eds l) = some B := by rw [h.eq]; exact (dif_ok A B).run
theorem Dl.cost {A B : List UInt8} {l : List Fr} (h : Dl A B l) (hA : A.length ≤ 200) : costN l = least A B := by
  rw [cost_eq (strikes_of h.run hA), h.eq]; exact (dif_ok A B).cost
theorem Dl.len {A B : List UInt8} {l : List Fr} (h : Dl A B l) (hA : A.length ≤ 200) (hB : B.length ≤ 200) : l.length ≤ 134 := by
  have h1 := (dif_ok A B).len
  have h2 := congrArg List.length h.eq
  rw [eds, List.length_map] at h2
  omega
theorem diff_at (a b : ByteArray) (w : World) (ha : a.size ≤ 200) (hb : b.size ≤ 200) :
    Calls Tryd.prog 4 #[.string a, .string b] w fun e w' => ∃ p n c l, e = .returned (.tuple #[.slice p n c, .nilIface]) ∧ Hid (n = l.length) ∧ Hid (FrsJ (New w.heap.size w') w' (.slice p n c) l) ∧ Hid (Dl a.toList b.toList l) ∧ Hid (Below w.heap.size w w') := by
  refine (diff_any a b w ha hb).mono ?_
  rintro e w' ⟨v, l, rfl, HR, HE, HS, HB⟩
  obtain ⟨p, n, c, rfl, hn⟩ := own_shape HR.out
  exact ⟨p, n, c, l, rfl, hn, (FrsJ.own HR.out).mono fun g hg => ⟨own_ge HR.out g hg, (own_lt HR.out g hg).1⟩, ⟨HE.out, HS.out⟩, HB⟩
theorem cost_at (R : Nat → Prop) (v : Value) (l : List Fr) (A B : List UInt8) (w : World) (h : FrsJ R w v l) (hd : Dl A B l) (hA : A.length ≤ 200) (hB : B.length ≤ 200) :
    Calls Tryd.prog 11 #[v] w fun e w' => e = .returned (.int .i64 (least A B)) ∧ Below w.heap.size w w' := by
  have := cost_any R v l w h (by have := hd.len hA hB; omega) (fun x hx => by have := hd.sz x hx; omega)
  rw [hd.cost hA] at this
  exact this
/- a text put in -/
theorem app_size (x y : ByteArray) : (x ++ y).size = x.size + y.size := ByteArray.size_append
theorem app_list (x y : ByteArray) : (x ++ y).toList = x.toList ++ y.toList := by
  rw [ByteArray.toList_eq, ByteArray.toList_eq, ByteArray.toList_eq]; simp
theorem put_list (a b : ByteArray) (n : Nat) (hn : n ≤ a.size) : (a.extract 0 n ++ b ++ a.extract n a.size).toList = a.toList.take n ++ b.toList ++ a.toList.drop n := by
  rw [app_list, app_list, list_rest, list_extract, List.drop_zero]
theorem put_size (a b : ByteArray) (n : Nat) (hn : n ≤ a.size) : (a.extract 0 n ++ b ++ a.extract n a.size).size = a.size + b.size := by
  rw [app_size, app_size, size_extract _ _ _ hn, size_extract _ _ _ (Nat.le_refl _)]; omega
def one : List Fr := [(1, 0, ⟨#[120]⟩)]
theorem one_eds : eds one = [⟨1, 0, [120]⟩] := by
  show [(⟨1, 0, (⟨#[120]⟩ : ByteArray).toList⟩ : Ed)] = _
  rw [show (⟨#[120]⟩ : ByteArray).toList = [120] from toList_mk [120]]
theorem one_E : appE [97, 98] (eds one) = 0 := by rw [one_eds]; decide
theorem one_R : bs (appR [97, 98] (eds one)) = ⟨#[97, 120, 98]⟩ := by
  have : appR [97, 98] (eds one) = [97, 120, 98] := by rw [one_eds]; decide
  rw [this]; rfl

end Zn
end Go.Proofs.YtmenknbgmgnfhaaDoor
