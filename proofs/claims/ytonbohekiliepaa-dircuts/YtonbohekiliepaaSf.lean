/- Package dir: Stretches, Locate, Slice, Of. -/
import Derived.Test.YtonbohekiliepaaSe
import Derived.Deep.QuietTactic
import Derived.BigQuiet
namespace Go.Proofs.Ytonbohekiliepaa
namespace Sf
set_option linter.unusedVariables false
open Go.ChangeShapes Go.WideShapes Go.ChangeAt Go.RowKit Cm Ka Kb Na Sm Sb Sd Se
open La (bel bel_drew errV_zero errV_ne own_ge own_grow own_below LeafsIn Lies)
open Bm (Leaf ahd bookE text)
open Op (bytesLess)

theorem Mks_shape {w : World} {v : Value} {l : List Mk} (h : MksAt w v l) : ∃ p n c, v = .slice p n c := by obtain ⟨p, c, e, _⟩ := h; exact ⟨_, _, _, e⟩
theorem err_shape (k : Int) : errV k = .nilIface ∨ ∃ z, errV k = .iface 99 (.int .i64 z) := by
  unfold errV; split
  · exact Or.inl rfl
  · exact Or.inr ⟨_, rfl⟩
set_option maxRecDepth 100000 in
theorem stretches_dir (q : Option Addr) (n c : Nat) (l : List Leaf) (u : Value) (m : List Mk) (w : World) (hl : l.length = n) (h : LeafsIn w q l) (hs : ∀ x ∈ l, x.1.size ≤ maxLen) (hn : n ≤ c) (hcm : c ≤ maxLen) (hA : MksAt w u m) (hsm : ∀ x ∈ m, x.1.size ≤ maxLen) :
    Calls Try.prog 20 #[.slice q n c, u] w fun e w' => ∃ v, e = .returned (.tuple #[v, errV (dirE l m)]) ∧ DirAt w w' l m v := by
  have C := cut_any q n c l u m w hl h hs hn hcm hA hsm
  obtain ⟨pu, nu, cu, hu⟩ := Mks_shape hA
  obtain ⟨T, hT⟩ : ∃ T, T = textD l m := ⟨_, rfl⟩
  obtain ⟨E, hE⟩ : ∃ E, E = errV (dirE l m) := ⟨_, rfl⟩
  rw [← hT, ← hE] at C
  rw [← hE]
  rw [hu] at C ⊢
  clear hl h hs hn hcm hA hsm hu hT hE
  go_enter Try.func20, Try.ntmps20
  go_wp2_with fail
  refine C.mono ?_
  rintro e w1 ⟨v1, rfl, hd1⟩
  have HD1 : Hid (DirAt w w1 l m v1) := hd1
  clear hd1 C
  go_wp2_with fail
  go_ret2
  exact ⟨v1, rfl, HD1.out⟩

/- what is said of a book or of marks that are wrong is said first -/
theorem locE_ne {l : List Leaf} {m : List Mk} {o : Int} (h : dirE l m ≠ 0) : locE l m o = dirE l m ∧ locI l m o = 0 ∧ locJ l m o = 0 := ⟨by unfold locE; rw [if_pos h], by unfold locI; rw [if_neg h], by unfold locJ; rw [if_neg h]⟩
theorem locE_some {l : List Leaf} {m : List Mk} {o : Int} {k : Nat} (h : dirE l m = 0) (hk : locO l m o = some k) : locE l m o = 0 ∧ locI l m o = k ∧ locJ l m o = o - beg l (heads m) k := ⟨by unfold locE; rw [if_neg (by simp [h]), hk]; rfl, by unfold locI; rw [if_pos h, hk]; rfl, by unfold locJ; rw [if_pos h, hk]⟩
theorem locE_none {l : List Leaf} {m : List Mk} {o : Int} (h : dirE l m = 0) (hk : locO l m o = none) : locE l m o = 1 ∧ locI l m o = 0 ∧ locJ l m o = 0 := ⟨by unfold locE; rw [if_neg (by simp [h]), hk]; rfl, by unfold locI; rw [if_pos h, hk]; rfl, by unfold locJ; rw [if_pos h, hk]⟩
theorem stD_ok {l : List Leaf} {m : List Mk} (h : dirE l m = 0) : stD l m = stretches l m := by unfold stD; rw [if_pos h]
theorem beg_300 {l : List Leaf} (h : bookE l = 0) (H : List ByteArray) (k : Nat) : beg l H k ≤ 300 := by
  have h8 := beg_le l H k; have h9 := Bm.text_len_le l; have := (Bm.bookE_zero.1 h).1; omega
theorem mks_at {w : World} {g n c : Nat} {l : List Leaf} {m : List Mk} (h : MksAt w (.slice (some ⟨g, 0, none⟩) n c) (stretches l m)) (k : Nat) (hk : k < (heads m).length) : MAt w g 0 k (stOf l (heads m) k) := by
  obtain ⟨p, c', e, hin, _⟩ := h
  injection e with e1 e2 e3
  subst e1
  obtain ⟨b, o, e, hc⟩ := hin.some (by intro e; have := stretches_len l m; rw [e] at this; have := heads_pos m; simp at *; omega)
  injection e with e
  injection e with e1 e2
  subst e1 e2
  have h9 := hc k (by rw [stretches_len]; exact hk)
  rw [List.getD_eq_getElem?_getD, stretches_at hk] at h9
  exact h9

theorem sliE_ne {l : List Leaf} {m : List Mk} {i : Int} (h : dirE l m ≠ 0) : sliE l m i = dirE l m ∧ sliR l m i = ⟨#[]⟩ := by
  have e : sliE l m i = dirE l m := by unfold sliE; rw [if_pos h]
  exact ⟨e, by unfold sliR; rw [if_neg (by rw [e]; exact h)]⟩
theorem sliE_out {l : List Leaf} {m : List Mk} {i : Int} (h : dirE l m = 0) (hi : ¬ (0 ≤ i ∧ i < (heads m).length)) : sliE l m i = 1 ∧ sliR l m i = ⟨#[]⟩ := by
  have e : sliE l m i = 1 := by unfold sliE; rw [if_neg (by simp [h]), if_neg hi]
  exact ⟨e, by unfold sliR; rw [if_neg (by rw [e]; omega)]⟩
theorem sliE_in {l : List Leaf} {m : List Mk} {k : Nat} (h : dirE l m = 0) (hi : k < (heads m).length) : sliE l m k = 0 ∧ sliR l m k = ⟨(sliceB l (heads m) k).toArray⟩ := by
  have e : sliE l m k = 0 := by unfold sliE; rw [if_neg (by simp [h]), if_pos ⟨by omega, by omega⟩]
  exact ⟨e, by unfold sliR; rw [if_pos e]; rfl⟩
theorem mk_list (l : List UInt8) : (⟨l.toArray⟩ : ByteArray).toList = l := ByteArray.toList_mk l
theorem cut_slice (l : List Leaf) (H : List ByteArray) (k : Nat) : (⟨(text l).toArray⟩ : ByteArray).extract (beg l H k) (beg l H (k + 1)) = ⟨(sliceB l H k).toArray⟩ := by
  apply Bm.bytes_inj
  rw [ByteArray.toList_eq, ByteArray.data_extract, Array.toList_extract, List.extract_eq_take_drop, mk_list]
  unfold sliceB
  rw [← List.drop_take]

theorem ofE_ne {l : List Leaf} {m : List Mk} {p : ByteArray} (h : dirE l m ≠ 0) : ofE l m p = dirE l m ∧ ofR l m p = 0 := by
  have e : ofE l m p = dirE l m := by unfold ofE; rw [if_pos h]
  exact ⟨e, by unfold ofR; rw [if_neg (by rw [e]; exact h)]⟩
theorem ofE_wrong {l : List Leaf} {m : List Mk} {p : ByteArray} (h : dirE l m = 0) (hp : ¬ Pm.chk p.toList = 0) : ofE l m p = Pm.chk p.toList ∧ ofR l m p = 0 := by
  have e : ofE l m p = Pm.chk p.toList := by unfold ofE; rw [if_neg (by simp [h])]
  exact ⟨e, by unfold ofR; rw [if_neg (by rw [e]; exact hp)]⟩
theorem ofE_ok {l : List Leaf} {m : List Mk} {p : ByteArray} (h : dirE l m = 0) (hp : Pm.chk p.toList = 0) : ofE l m p = 0 ∧ ofR l m p = ofTo (heads m) p (heads m).length := by
  have e : ofE l m p = 0 := by unfold ofE; rw [if_neg (by simp [h])]; exact hp
  exact ⟨e, by unfold ofR; rw [if_pos e]⟩

end Sf
end Go.Proofs.Ytonbohekiliepaa
