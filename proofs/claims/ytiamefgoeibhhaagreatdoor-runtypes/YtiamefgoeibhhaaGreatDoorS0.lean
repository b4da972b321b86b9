import Derived.Test.YtiamefgoeibhhaaGreatDoorJ6
import Derived.Test.YtiamefgoeibhhaaGreatDoorJ5
import Derived.OwnWalk
import Derived.Test.YtiamefgoeibhhaaGreatDoorJ1
import Derived.Test.YtiamefgoeibhhaaGreatDoorJ4
import Derived.Test.YtiamefgoeibhhaaGreatDoorJ2
set_option linter.unusedVariables false
set_option maxRecDepth 100000
set_option maxHeartbeats 8000000
namespace Go.Proofs.YtiamefgoeibhhaaGreatDoor
namespace Nr
open Go.ChangeShapes Go.WideShapes Go.ChangeAt Go.RowKit Cm Ka Kb Na Nb Nc Nd Nl
open La (bel bel_drew errV_zero errV_ne own_ge own_grow own_below)
def noS:ByteArray:=ByteArray.empty
def StsAt (w:World) (v:Value) (l:List ByteArray):Prop:=∃p c,v=.slice p l.length c∧(l=[]∨∃b o,p=some ⟨b,o,none⟩∧∀j,j<l.length→w.cell? ⟨b,o+j,none⟩=some (.string (l.getD j noS)))
theorem StsAt.nil (w:World):StsAt w (.slice none 0 0) []:=⟨none,0,rfl,Or.inl rfl⟩
def compTo (l:List ByteArray):Nat→List ByteArray
 | 0=>[]
 | k+1=>if k=0∨l.getD k noS≠l.getD (k-1) noS then compTo l k++[l.getD k noS] else compTo l k
theorem takeS {l:List ByteArray} {k:Nat} (hk:k<l.length):l.take (k+1)=l.take k++[l.getD k noS]:=by
 rw[List.getD_eq_getElem?_getD,List.getElem?_eq_getElem hk,List.take_add_one,List.getElem?_eq_getElem hk];rfl
theorem compTo_all {l:List ByteArray}:∀{k:Nat},k≤l.length→(∀j,1≤j→j<k→l.getD j noS≠l.getD (j-1) noS)→compTo l k=l.take k
 | 0,_,_=>rfl
 | k+1,hk,h=>by
  rw[compTo,if_pos,compTo_all (by omega) (fun j h1 h2=>h j h1 (by omega)),takeS (by omega)]
  by_cases h0:k=0
  ·exact Or.inl h0
  ·exact Or.inr (h k (by omega) (by omega))
theorem compTo_same {l:List ByteArray} {k:Nat} (hk:0<k) (h:l.getD k noS=l.getD (k-1) noS):compTo l (k+1)=compTo l k:=by
 rw[compTo,if_neg];rintro(e | e)
 ·omega
 ·exact e h
theorem compTo_next {l:List ByteArray} {k:Nat} (h:l.getD k noS≠l.getD (k-1) noS):compTo l (k+1)=compTo l k++[l.getD k noS]:=by
 rw[compTo,if_pos (Or.inr h)]
def SRow (w:World) (g n i j:Nat) (K:List ByteArray) (l:List ByteArray):Prop:=∃R:List ByteArray,R.length=n∧(∀x,x<R.length→w.cell? ⟨g,x,none⟩=some (.string (R.getD x noS)))∧R.take i=K∧R.drop j=l.drop j
theorem SRow.at{w:World} {g n i j:Nat} {K l:List ByteArray} (h:SRow w g n i j K l) {x:Nat} (hj:j≤x) (hx:x<n):w.cell? ⟨g,x,none⟩=some (.string (l.getD x noS)):=by
 obtain⟨R,h1,h2,_,h4⟩:=h
 have e:R.getD x noS=l.getD x noS:=by
  have e1:(R.drop j)[x-j]? =(l.drop j)[x-j]? :=by rw[h4]
  rw[List.getElem?_drop,List.getElem?_drop,show j+(x-j)=x by omega] at e1
  rw[List.getD_eq_getElem?_getD,List.getD_eq_getElem?_getD,e1]
 rw[←e];exact h2 x (by omega)
theorem SRow.any {w:World} {g n i j:Nat} {K l:List ByteArray} (h:SRow w g n i j K l) {x:Nat} (hx:x<n):∃y,w.cell? ⟨g,x,none⟩=some (.string y):=by
 obtain⟨R,h1,h2,_,_⟩:=h
 exact⟨_,h2 x (by omega)⟩
theorem SRow.skip {w:World} {g n i j:Nat} {K l:List ByteArray} (h:SRow w g n i j K l):SRow w g n i (j+1) K l:=by
 obtain⟨R,h1,h2,h3,h4⟩:=h
 refine⟨R,h1,h2,h3, ?_⟩
 have:=congrArg (List.drop 1) h4
 rwa [List.drop_drop,List.drop_drop] at this
theorem SRow.put {w:World} {g n i j:Nat} {K l:List ByteArray} {x:ByteArray} (h:SRow w g n i j K l) (hij:i≤j) (hi:i<n):
  SRow (w.setCell ⟨g,i,none⟩ (.string x)) g n (i+1) (j+1) (K++[x]) l:=by
 obtain⟨R,h1,h2,h3,h4⟩:=h
 refine⟨R.set i x,by rw[List.length_set];exact h1, ?_, ?_, ?_⟩
 ·intro y hy
  rw[List.length_set] at hy
  by_cases e:y=i
  ·subst e
   rw[World.cell?_setCell_same _ _ _ (h2 y hy),List.getD_eq_getElem?_getD,List.getElem?_set_self hy];rfl
  ·rw[World.cell?_setCell_other _ _ _ _ (by intro e2;injection e2;omega),h2 y hy,List.getD_eq_getElem?_getD,List.getD_eq_getElem?_getD,List.getElem?_set_ne (by omega)]
 ·rw[←h3,takeS (by rw[List.length_set];omega),List.take_set_of_le (Nat.le_refl _)]
  congr 1
  rw[List.getD_eq_getElem?_getD,List.getElem?_set_self (by omega)];rfl
 ·rw[List.drop_set_of_lt (by omega)]
  have:=congrArg (List.drop 1) h4
  rwa [List.drop_drop,List.drop_drop] at this
theorem zero_text (w:World):(zeroValue 9).run Tryz.prog w=.ok (.string ⟨#[]⟩) w:=by kernel_rfl
theorem clear_texts (w:World) (g i n c:Nat) (ty:TypeId) (hi:i<n) (hc:∀k,k<n→(w.cell? ⟨g,k,none⟩).isSome=true) (hf:∀o,w.frozen? ⟨g,o,none⟩=false):
  (Builtin.clear_ #[23] ty #[.slice (some ⟨g,i,none⟩) (n-i) (c-i)]).run Tryz.prog w=.ok (.tuple #[]) (w.setCells g i (Builtin.zeroCells (Value.string ⟨#[]⟩).cells (n-i)).toList):=
 run_clear w 23 9 ty (.string ⟨#[]⟩) Tryz.underlying23 zero_text (by decide) (by intro u hu;simp[Value.cells] at hu;subst hu;rfl) g i (n-i) (c-i) (by omega)
  (fun j hj=>hc _ (by have:(Value.string ⟨#[]⟩).cells.size=1:=rfl;rw[this] at hj;omega)) hf
theorem compact_any (W0 w : World) (g n c : Nat) (l : List ByteArray) (hl : l.length = n) (hcs : ∀ j, j < l.length → w.cell? ⟨g, j, none⟩ = some (.string (l.getD j noS))) (hfr : ∀ o, w.frozen? ⟨g, o, none⟩ = false) (hg : W0.heap.size ≤ g) (hb0 : Below W0.heap.size W0 w) (hn : n ≤ 1000) (hnc : n ≤ c) (hcm : c ≤ 1000) :
  Calls Tryz.prog 201 #[.slice (some ⟨g, 0, none⟩) n c] w fun e w' => ∃ v', e = .returned v' ∧ StsAt w' v' (compTo l n) ∧ Below W0.heap.size W0 w' := by
 have HL := z9 hl
 have HR : Hid (SRow w g n 0 0 [] l) := ⟨l, hl, hcs, rfl, rfl⟩
 have HF := z9 hfr
 have HB0 := z9 hb0
 have HGL := z9 hg
 have HALL : Hid (∀ wr, SRow wr g n 0 0 [] l → (∀ j, 1 ≤ j → j < n → l.getD j noS ≠ l.getD (j - 1) noS) → StsAt wr (.slice (some ⟨g, 0, none⟩) n c) (compTo l n)) := by
  intro wr hrow hne
  rw [compTo_all (by omega) hne, List.take_of_length_le (by omega)]
  obtain ⟨R, h1, h2, _, h4⟩ := hrow
  have e : R = l := by simpa using h4
  subst e
  exact ⟨some ⟨g, 0, none⟩, c, by rw [hl], Or.inr ⟨g, 0, rfl, fun j hj => by rw [Nat.zero_add]; exact h2 j hj⟩⟩
 clear hl hcs hfr hg hb0
 by_cases hn2 : n < 2
 ·have hn2z : (n : Int) < 2 := by omega
  have HA := z9 (HALL.out w HR.out (fun j h1 h2 => by omega))
  go_enter Tryz.func201, Tryz.ntmps201
  go_wp2_with fail
  go_ret
  exact ⟨_, rfl, HA.out, HB0.out⟩
 ·have hn2z : ¬ (n : Int) < 2 := by omega
  go_enter Tryz.func201, Tryz.ntmps201
  go_wp2_with fail
  go_loopw [3] (fun vk wr => ∃ k : Nat, 1 ≤ k ∧ k ≤ n ∧ vk = .int .i64 k ∧ Hid (∀ j, 1 ≤ j → j < k → l.getD j noS ≠ l.getD (j - 1) noS) ∧ Hid (SRow wr g n 0 0 [] l) ∧ Hid (∀ o, wr.frozen? ⟨g, o, none⟩ = false) ∧ Hid (Below W0.heap.size W0 wr)) (fun vk _ => n - (intOf vk).toNat)
  case atStart => exact ⟨1, by omega, by omega, rfl, fun j h1 h2 => by omega, HR, HF, HB0⟩
  case round =>
   clear HR HF HB0
   obtain ⟨k, hk1, hkn, rfl, HN, HR, HF, HB⟩ := hrel
   by_cases hlt : k < n
   ·have hltz : (k : Int) < n := by omega
    obtain ⟨m, hm⟩ : ∃ m, m + 1 = k := ⟨k - 1, by omega⟩
    have hkm : IntKind.i64.wrap ((k : Int) - 1) = (m : Int) := by rw [show (k : Int) - 1 = (m : Int) by omega]; exact wrap_in (by omega) (by omega)
    have hmz : (m : Int) < n := by omega
    have a1 := HR.out.at (Nat.zero_le k) hlt
    have a0 := HR.out.at (x := m) (Nat.zero_le m) (by omega)
    have HM : Hid (k - 1 = m) := by unfold Hid; omega
    by_cases hxy : l.getD k noS = l.getD m noS
    ·have HS : Hid (compTo l (k + 1) = l.take k) := by
      unfold Hid; rw [compTo_same (by omega) (by rw [HM.out]; exact hxy), compTo_all (by rw [HL.out]; omega) HN.out]
     rw [hxy] at a1
     obtain ⟨y, hy⟩ : ∃ y, y = l.getD m noS := ⟨_, rfl⟩
     rw [← hy] at a0 a1
     have hkc : ¬ c = k := by omega
     have hkcz : (k : Int) ≤ c := by omega
     have hknz : (k : Int) ≤ n := by omega
     have HR2 : Hid (∀ wq, SRow wq g n 0 0 [] l → SRow wq g n k k (compTo l (k + 1)) l) := by
      intro wq hrow
      obtain ⟨R, h1, h2, _, h4⟩ := hrow
      have e : R = l := by simpa using h4
      subst e
      exact ⟨R, h1, h2, HS.out.symm, rfl⟩
     have HSL : Hid ((compTo l (k + 1)).length = k) := by unfold Hid; rw [HS.out, List.length_take, HL.out]; omega
     clear hxy hy HALL
     go_wp2_with fail
     go_quiet (fail)
     generalize hwq : World.drewN _ _ = wq
     have HRQ : Hid (SRow wq g n 0 0 [] l) := by rw [← hwq]; exact HR.out
     have HFQ : Hid (∀ o, wq.frozen? ⟨g, o, none⟩ = false) := by rw [← hwq]; exact HF.out
     have HBQ : Hid (Below W0.heap.size W0 wq) := by rw [← hwq]; exact bel_drew HB.out _
     clear hwq a0 a1 HR HF HB
     go_wp2_with fail
     generalize hN2 : n - k = N2
     generalize hC2 : c - k = c2
     have HN2 : Hid (k + N2 = n) := by unfold Hid; omega
     have hN2s : N2 ≤ 1000 := by omega
     have hN21 : 1 ≤ N2 := by omega
     clear hN2 hC2
     go_loopw [3, 5] (fun vk vj wr => ∃ i j : Nat, 1 ≤ j ∧ j ≤ N2 ∧ i + 1 ≤ k + j ∧ vk = .int .i64 i ∧ vj = .int .i64 j ∧ Hid ((compTo l (k + j)).length = i ∧ SRow wr g n i (k + j - 1) (compTo l (k + j)) l) ∧ Hid (∀ o, wr.frozen? ⟨g, o, none⟩ = false) ∧ Hid (Below W0.heap.size W0 wr)) (fun _ vj _ => N2 - (intOf vj).toNat)
     case atStart => exact ⟨k, 1, by omega, by omega, by omega, rfl, rfl, ⟨HSL.out, by rw [Nat.add_sub_cancel]; exact HR2.out _ HRQ.out⟩, HFQ, HBQ⟩
     case round =>
      clear HRQ HFQ HBQ HR2 HSL HS
      obtain ⟨i, j, hj1, hjN, hij, rfl, rfl, HRR, HF, HB⟩ := hrel
      have HNN := HN2.out
      by_cases hjlt : j < N2
      ·have hjz : (j : Int) < N2 := by omega
       obtain ⟨m2, hm2⟩ : ∃ m2, m2 + 1 = j := ⟨j - 1, by omega⟩
       have hjm : IntKind.i64.wrap ((j : Int) - 1) = (m2 : Int) := by rw [show (j : Int) - 1 = (m2 : Int) by omega]; exact wrap_in (by omega) (by omega)
       have hm2z : (m2 : Int) < N2 := by omega
       have a1 := HRR.out.2.at (x := k + j) (by omega) (by omega)
       have a0 := HRR.out.2.at (x := k + m2) (by omega) (by omega)
       have HKJ : Hid (k + j - 1 = k + m2 ∧ k + j - 1 + 1 = k + j ∧ k + (j + 1) - 1 = k + j) := ⟨by omega, by omega, by omega⟩
       by_cases hxy : l.getD (k + j) noS = l.getD (k + m2) noS
       ·have HS : Hid (compTo l (k + (j + 1)) = compTo l (k + j)) := by
         unfold Hid; exact compTo_same (k := k + j) (by omega) (by rw [HKJ.out.1]; exact hxy)
        have HR2 : Hid (∀ wq, SRow wq g n i (k + j - 1) (compTo l (k + j)) l → (compTo l (k + (j + 1))).length = i ∧ SRow wq g n i (k + (j + 1) - 1) (compTo l (k + (j + 1))) l) := by
         intro wq hrow
         rw [HS.out, HKJ.out.2.2]
         refine ⟨HRR.out.1, ?_⟩
         have h9 := hrow.skip
         rw [HKJ.out.2.1] at h9; exact h9
        rw [hxy] at a1
        obtain ⟨y, hy⟩ : ∃ y, y = l.getD (k + m2) noS := ⟨_, rfl⟩
        rw [← hy] at a0 a1
        clear hxy hy HNN
        go_wp2_with fail
        go_quiet (fail)
        generalize hwq : World.drewN _ _ = wq
        have HRQ : Hid (SRow wq g n i (k + j - 1) (compTo l (k + j)) l) := by rw [← hwq]; exact HRR.out.2
        have HFQ : Hid (∀ o, wq.frozen? ⟨g, o, none⟩ = false) := by rw [← hwq]; exact HF.out
        have HBQ : Hid (Below W0.heap.size W0 wq) := by rw [← hwq]; exact bel_drew HB.out _
        clear hwq a0 a1 HF HB HRR
        go_wp2_with fail
        go_roundw
        case rel => exact ⟨i, j + 1, by omega, by omega, by omega, rfl, by go_num, HR2.out _ HRQ.out, HFQ, HBQ⟩
        case measure => simp [intOf]; omega
       ·have HS : Hid (compTo l (k + (j + 1)) = compTo l (k + j) ++ [l.getD (k + j) noS]) := by
         unfold Hid; exact compTo_next (k := k + j) (by rw [HKJ.out.1]; exact hxy)
        have hin : i < n := by omega
        have hinz : (i : Int) < n := by omega
        obtain ⟨x, hx⟩ : ∃ x, x = l.getD (k + j) noS := ⟨_, rfl⟩
        obtain ⟨y, hy⟩ : ∃ y, y = l.getD (k + m2) noS := ⟨_, rfl⟩
        rw [← hx] at a1 hxy HS
        rw [← hy] at a0 hxy
        have HR2 : Hid (∀ wq, SRow wq g n i (k + j - 1) (compTo l (k + j)) l → (compTo l (k + (j + 1))).length = i + 1 ∧ SRow (wq.setCell ⟨g, i, none⟩ (.string x)) g n (i + 1) (k + (j + 1) - 1) (compTo l (k + (j + 1))) l) := by
         intro wq hrow
         rw [HS.out, HKJ.out.2.2]
         refine ⟨by rw [List.length_append, HRR.out.1]; rfl, ?_⟩
         have h9 := hrow.put (x := x) (by omega) hin
         rw [HKJ.out.2.1] at h9; exact h9
        have hne : ¬ x.toList = y.toList := fun e => hxy (Bm.bytes_inj e)
        have hnb : (x.toList == y.toList) = false := by simpa using hne
        clear hxy hy hx HNN hne
        go_wp2_with fail
        go_quiet (fail)
        generalize hwq : World.drewN _ _ = wq
        have HRQ : Hid (SRow wq g n i (k + j - 1) (compTo l (k + j)) l) := by rw [← hwq]; exact HRR.out.2
        have HFQ : Hid (∀ o, wq.frozen? ⟨g, o, none⟩ = false) := by rw [← hwq]; exact HF.out
        have HBQ : Hid (Below W0.heap.size W0 wq) := by rw [← hwq]; exact bel_drew HB.out _
        have a2 : wq.cell? ⟨g, k + j, none⟩ = some (.string x) := by rw [← hwq]; exact a1
        obtain ⟨z, hz⟩ := HRQ.out.any hin
        have hfz := HFQ.out i
        have HB3 : Hid (Below W0.heap.size W0 (wq.setCell ⟨g, i, none⟩ (.string x))) := HBQ.out.setCell (p := ⟨g, i, none⟩) HGL.out _
        clear hwq a0 a1 HF HB HRR
        go_wp2_with fail
        go_roundw
        case rel => exact ⟨i + 1, j + 1, by omega, by omega, by omega, by go_num, by go_num, HR2.out _ HRQ.out, fun o => by rw [World.frozen?_setCell]; exact HFQ.out o, HB3⟩
        case measure => simp [intOf]; omega
      ·obtain rfl : j = N2 := by omega
       have hin : i < n := by omega
       have hiz : (i : Int) ≤ n := by omega
       have hicz : (i : Int) ≤ c := by omega
       have hci : ¬ c = i := by omega
       have hcl := fun ty => clear_texts wr g i n c ty hin (fun x hx => by obtain ⟨y, hy⟩ := HRR.out.2.any hx; rw [hy]; rfl) HF.out
       obtain ⟨Z, hZ⟩ : ∃ Z, Z = (Builtin.zeroCells (Value.string ⟨#[]⟩).cells (n - i)).toList := ⟨_, rfl⟩
       rw [← hZ] at hcl
       have HB3 : Hid (Below W0.heap.size W0 (wr.setCells g i Z)) := below_setCells HGL.out _ _ _ HB.out
       have HM3 : Hid (StsAt (wr.setCells g i Z) (.slice (some ⟨g, 0, none⟩) i c) (compTo l n)) := by
        obtain ⟨e1, R, h1, h2, h3, _⟩ := HRR.out
        rw [HNN] at e1 h3
        refine ⟨some ⟨g, 0, none⟩, c, by rw [e1], Or.inr ⟨g, 0, rfl, fun x hx => ?_⟩⟩
        rw [e1] at hx
        have e2 : (compTo l n).getD x noS = R.getD x noS := by
         rw [← h3, List.getD_eq_getElem?_getD, List.getElem?_take_of_lt hx, ← List.getD_eq_getElem?_getD]
        rw [e2, Nat.zero_add, World.cell?_setCells_out _ _ _ _ _ (fun _ _ => Or.inl (by simp only []; omega))]
        exact h2 x (by omega)
       clear hZ HRR HNN
       go_wp2_with fail
       go_ret
       exact ⟨_, rfl, HM3.out, HB3.out⟩
    ·obtain ⟨x, hx⟩ : ∃ x, x = l.getD k noS := ⟨_, rfl⟩
     obtain ⟨y, hy⟩ : ∃ y, y = l.getD m noS := ⟨_, rfl⟩
     have HN3 : Hid (∀ j, 1 ≤ j → j < k + 1 → l.getD j noS ≠ l.getD (j - 1) noS) := by
      intro j h1 h2
      rcases Nat.lt_succ_iff_lt_or_eq.1 h2 with h | rfl
      ·exact HN.out j h1 h
      ·rw [HM.out]; exact hxy
     rw [← hx] at a1 hxy
     rw [← hy] at a0 hxy
     have hne : ¬ x.toList = y.toList := fun e => hxy (Bm.bytes_inj e)
     have hnb : (x.toList == y.toList) = false := by simpa using hne
     clear hxy hy hx hne HN
     go_wp2_with fail
     go_quiet (fail)
     generalize hwq : World.drewN _ _ = wq
     have HRQ : Hid (SRow wq g n 0 0 [] l) := by rw [← hwq]; exact HR.out
     have HFQ : Hid (∀ o, wq.frozen? ⟨g, o, none⟩ = false) := by rw [← hwq]; exact HF.out
     have HBQ : Hid (Below W0.heap.size W0 wq) := by rw [← hwq]; exact bel_drew HB.out _
     clear hwq a0 a1 HR HF HB
     go_wp2_with fail
     go_roundw
     case rel => exact ⟨k + 1, by omega, by omega, by go_num, HN3, HRQ, HFQ, HBQ⟩
     case measure => simp [intOf]; omega
   ·obtain rfl : k = n := by omega
    have HA := z9 (HALL.out wr HR.out HN.out)
    go_wp2_with fail
    go_ret
    exact ⟨_, rfl, HA.out, HB.out⟩
end Nr
namespace Ns
open Go.ChangeShapes Go.WideShapes Go.ChangeAt Go.RowKit Cm Ka Kb Na Nb Nc Nd Nse Nl Nr
open La (bel bel_drew errV_zero errV_ne own_ge own_grow own_below)
def Fill (w:World) (g n:Nat) (F:Nat→Value) (k:Nat) (wr:World):Prop:=
 (∀j,j<k→wr.cell? ⟨g,j,none⟩=some (F j))∧(∀j,j<n→∃v,wr.cell? ⟨g,j,none⟩=some v)∧(∀j,wr.frozen? ⟨g,j,none⟩=false)∧Below w.heap.size w wr∧w.heap.size≤g
theorem Fill.start {w w1:World} {t:TypeId} {F:Nat→Value} {n cap:Nat} {g:Nat} {xs:List Value} (hg:w.heap.size≤g) (h:w1.ownsRow g t 1 (.slice (some ⟨g,0,none⟩) n cap) n xs) (hb:Below w.heap.size w w1):Fill w g n F 0 w1:=by
 refine⟨fun j hj=>absurd hj (by omega), ?_, ?_,hb,hg⟩
 ·intro j hj
  rcases h.2 with⟨e,_⟩ | ⟨g',cap',cur,e,_,h2,h3,h4,h5,h6⟩
  ·cases e
  ·injection e with e1
   injection e1 with e1
   injection e1 with e1
   subst e1
   refine⟨cur[j]'(by omega), ?_⟩
   simp only[World.cell?,h2]
   simp[show j<cur.size by omega]
 ·intro j
  rcases h.2 with⟨e,_⟩ | ⟨g',cap',cur,e,_,h2,h3,h4,h5,h6⟩
  ·cases e
  ·injection e with e1
   injection e1 with e1
   injection e1 with e1
   subst e1
   simp[World.frozen?,h2]
theorem Fill.step {w wr:World} {g n k:Nat} {F:Nat→Value} (h:Fill w g n F k wr) (hk:k<n) (v:Value) (hv:v=F k):Fill w g n F (k+1) (wr.setCell ⟨g,k,none⟩ v):=by
 obtain⟨h1,h2,h3,h4,h5⟩:=h
 refine⟨fun j hj=> ?_,fun j hj=> ?_,fun j=> ?_,h4.setCell (p:=⟨g,k,none⟩) h5 _,h5⟩
 ·by_cases e:j=k
  ·subst e
   obtain⟨u,hu⟩:=h2 j hk
   rw[World.cell?_setCell_same _ _ _ hu,hv]
  ·rw[World.cell?_setCell_other _ _ _ _ (by intro e2;injection e2;omega)]
   exact h1 j (by omega)
 ·obtain⟨u,hu⟩:=h2 j hj
  exact cell?_setCell_some hu
 ·rw[World.frozen?_setCell];exact h3 j
theorem Fill.below {w wr w2:World} {g n k:Nat} {F:Nat→Value} (h:Fill w g n F k wr) (hg:g<wr.heap.size) (hb:Below wr.heap.size wr w2):Fill w g n F k w2:=by
 obtain⟨h1,h2,h3,h4,h5⟩:=h
 refine⟨fun j hj=> ?_,fun j hj=> ?_,fun j=> ?_,bel h4 hb,h5⟩
 ·rw[hb.cell (p:=⟨g,j,none⟩) hg];exact h1 j hj
 ·rw[hb.cell (p:=⟨g,j,none⟩) hg];exact h2 j hj
 ·rw[hb.frozen (p:=⟨g,j,none⟩) hg];exact h3 j
theorem made_lt {w2:World} {g n:Nat} {t:TypeId} {xs:List Value} (h:w2.ownsRow g t 1 (.slice (some ⟨g,0,none⟩) n n) n xs):g<w2.heap.size:=by
 rcases h.2 with⟨e,_⟩ | ⟨g',cap',cur,e,_,h2,_⟩
 ·cases e
 ·injection e with e1
  injection e1 with e1
  injection e1 with e1
  subst e1
  rcases Nat.lt_or_ge g w2.heap.size with e | e
  ·exact e
  ·rw[Array.getElem?_eq_none e] at h2;cases h2
theorem infoStr:(Tryz.prog.info? 9).map (fun i=>(i.zero,i.size,i.bytes))=some (some (.string ⟨#[]⟩),1,16):=by kernel_rfl
def names (l:List Mk):List ByteArray:=l.map (·.1)
theorem names_get {l:List Mk} {j:Nat} (hj:j<l.length):(names l).getD j noS=(l.getD j none1).1:=by
 unfold names
 rw[List.getD_eq_getElem?_getD,List.getElem?_map,List.getD_eq_getElem?_getD,List.getElem?_eq_getElem hj];rfl
def placesOf (l:List Mk):List ByteArray:=if marksE l=0 then compTo (names l) l.length else[]
theorem places_ok (q : Option Addr) (n c : Nat) (l : List Mk) (w : World) (hA : MksAt w (.slice q n c) l) (hs : ∀ x ∈ l, x.1.size ≤ maxLen) (h0 : marksE l = 0) :
  Calls Tryz.prog 153 #[.slice q n c] w fun e w' => ∃ v', e = .returned (.tuple #[v', .nilIface]) ∧ StsAt w' v' (compTo (names l) l.length) ∧ Below w.heap.size w w' := by
 have C := checkM_any _ l w hA hs
 rw [h0, errV_zero] at C
 obtain ⟨hl40, _, _⟩ := marksE_zero.1 h0
 obtain ⟨q', c', hv, hlf, hcc, hcm, _⟩ := hA
 injection hv with hv1 hv2 hv3
 subst hv1 hv3
 have hn40 : n ≤ 40 := by omega
 have HL : Hid (l.length = n) := hv2.symm
 have HI : Hid (MarksIn w q l) := hlf
 obtain ⟨i0, hi, hz0, hz1, hz2⟩ := info_parts infoStr
 have hby : i0.bytes * n ≤ 281474976710656 := by rw [hz2]; omega
 have hml : n ≤ maxLen := by unfold maxLen; omega
 clear hs h0 hl40 hlf hcc hcm hv2
 go_enter Tryz.func153, Tryz.ntmps153
 go_wp2_with fail
 refine C.mono ?_
 rintro e w1 ⟨rfl, hb1⟩
 have HB1 : Hid (Below w.heap.size w w1) := hb1
 clear hb1 C
 go_wp2_with (at_make; refine wpList_make_full _ rfl (.tmp 14) (.tmp 14) 23 rfl w1.heap.size 9 i0 (.string ⟨#[]⟩) 1 Tryz.underlying23 hi hz0 hz1 .i64 .i64 (n : Int) (n : Int) n rfl rfl rfl rfl hby hml (Nat.le_refl _) ?_; intro w2 hown hgrow; have HF : Hid (Fill w w1.heap.size n (fun j => .string (l.getD j none1).1) 0 w2) := Fill.start HB1.out.size hown (HB1.out.grown hgrow HB1.out.size (fun k hk => by cases hk)); have HGL : Hid (w1.heap.size < w2.heap.size) := made_lt hown; clear hown hgrow)
 obtain ⟨g, hgg⟩ : ∃ g, g = w1.heap.size := ⟨_, rfl⟩
 rw [← hgg] at HF HGL
 rw [← hgg]
 clear hgg
 go_loopw [18] (fun vi wr => ∃ k : Nat, k ≤ n ∧ vi = .int .i64 k ∧ Hid (Fill w g n (fun j => .string (l.getD j none1).1) k wr) ∧ Hid (g < wr.heap.size)) (fun vi _ => n - (intOf vi).toNat)
 case atStart => exact ⟨0, by omega, rfl, HF, HGL⟩
 case round =>
  clear HF HGL
  obtain ⟨k, hk, rfl, HF, HGL⟩ := hrel
  by_cases hlt : k < n
  ·have hltz : (k : Int) < n := by omega
   obtain ⟨b, o, rfl, hc⟩ := HI.out.some (by intro e; have := HL.out; rw [e] at this; simp at this; omega)
   have hkl : k < l.length := by rw [HL.out]; exact hlt
   have ha := (hc k hkl).below HF.out.2.2.2.1 (hc k hkl).lt
   obtain ⟨x, hx⟩ : ∃ x, x = l.getD k none1 := ⟨_, rfl⟩
   rw [← hx] at ha
   have HX : Hid (x = l.getD k none1) := hx
   obtain ⟨sx, x1, x2⟩ := x
   obtain ⟨a1, a2, a3⟩ := ha
   simp only at a1 a2 a3
   have HF1 : Hid (Fill w g n (fun j => .string (l.getD j none1).1) k (wr.alloc (.cells #[.string sx, .int .i64 x1, .int .i64 x2] 97))) := HF.out.below HGL.out ((Below.refl _ wr).alloc (Nat.le_refl _) _)
   obtain ⟨u, hu⟩ := HF1.out.2.1 k hlt
   have hf := HF1.out.2.2.1 k
   have HF2 : Hid (Fill w g n (fun j => .string (l.getD j none1).1) (k + 1) ((wr.alloc (.cells #[.string sx, .int .i64 x1, .int .i64 x2] 97)).setCell ⟨g, k, none⟩ (.string sx))) := HF1.out.step hlt _ (by rw [← HX.out])
   have HGL2 : Hid (g < ((wr.alloc (.cells #[.string sx, .int .i64 x1, .int .i64 x2] 97)).setCell ⟨g, k, none⟩ (.string sx)).heap.size) := by have := HGL.out; unfold Hid; simp; omega
   clear hc hx HF HF1
   go_wp2_with fail
   go_roundw
   case rel => exact ⟨k + 1, by omega, by go_num, HF2, HGL2⟩
   case measure => simp [intOf]; omega
  ·obtain rfl : k = n := by omega
   have C2 := compact_any w wr g k k (names l) (by unfold names; rw [List.length_map]; exact HL.out) (fun j hj => by
     unfold names at hj; rw [List.length_map, HL.out] at hj
     rw [HF.out.1 j hj, names_get (by rw [HL.out]; exact hj)]) HF.out.2.2.1 HF.out.2.2.2.2 HF.out.2.2.2.1 (by omega) (Nat.le_refl _) (by omega)
   go_wp2_with fail
   refine C2.mono ?_
   rintro e w3 ⟨v3, rfl, hk3, hb3⟩
   have HB3 : Hid (Below w.heap.size w w3) := hb3
   have HK3 : Hid (StsAt w3 v3 (compTo (names l) l.length)) := by unfold Hid; rw [HL.out]; exact hk3
   clear C2 hk3 hb3
   go_wp2_with fail
   go_ret2
   exact ⟨_, rfl, HK3.out, HB3.out⟩
theorem places_any (v:Value) (l:List Mk) (w:World) (h:MksAt w v l) (hs:∀x ∈ l,x.1.size≤maxLen):
  Calls Tryz.prog 153 #[v] w fun e w'=>∃v',e=.returned (.tuple #[v',errV (marksE l)])∧StsAt w' v' (placesOf l)∧Below w.heap.size w w':=by
 by_cases h0:marksE l=0
 ·have e:placesOf l=compTo (names l) l.length:=by unfold placesOf;rw[if_pos h0]
  rw[h0,e,errV_zero]
  have h2:=h
  obtain⟨q,c,rfl,_⟩:=h2
  exact places_ok q _ c l w h hs h0
 ·have e:placesOf l=[]:=by unfold placesOf;rw[if_neg h0]
  have C:=checkM_any v l w h hs
  rw[e]
  obtain⟨z,hz⟩:∃z,z=marksE l:=⟨_,rfl⟩
  rw[errV_ne h0,←hz] at C ⊢
  clear h hs h0 e hz
  go_enter Tryz.func153,Tryz.ntmps153
  go_wp2_with fail
  refine C.mono ?_
  rintro e w1 ⟨rfl,hb1⟩
  have HB1:=z9 hb1
  clear hb1 C
  go_wp2_with fail
  go_ret2
  exact⟨_,rfl,StsAt.nil _,HB1.out⟩
end Ns
namespace Sm
open Op (bytesLess)
open Bm (Leaf text ahd none0 isS letter nth cut_at ahead_le less_trans less_irrefl less_asymm less_total text_append text_cons)
open Cm (Mk mlt placesL marksE marksE_zero markE)
def cutF (l:List Leaf) (p:ByteArray):Nat:=(text (l.take (ahd l p.toList))).length
theorem take_len_mono (l:List Leaf) {i j:Nat} (h:i≤j):(text (l.take i)).length≤(text (l.take j)).length:=by
 have e:l.take j=l.take i++(l.take j).drop i:=by
  conv=>lhs;rw[←List.take_append_drop i (l.take j)]
  rw[List.take_take,Nat.min_eq_left h]
 rw[e,text_append,List.length_append];omega
theorem take_len_le (l:List Leaf) (i:Nat):(text (l.take i)).length≤(text l).length:=by
 have e:text l=text (l.take i)++text (l.drop i):=by rw[←text_append,List.take_append_drop]
 rw[e,List.length_append];omega
theorem ahd_mono {l:List Leaf} (hr:Bm.Rise l) {p q:List UInt8} (h:bytesLess p q=true):ahd l p≤ahd l q:=by
 obtain⟨a1,a2,a3⟩:=cut_at p hr
 obtain⟨b1,b2,b3⟩:=cut_at q hr
 rcases Nat.lt_or_ge (ahd l q) (ahd l p) with h9 | h9
 ·have h1:=a1 _ h9
  have h2:=b2 _ (Nat.le_refl _) (by omega)
  rw[less_trans h1 h] at h2;cases h2
 ·exact h9
theorem cutF_mono {l:List Leaf} (hr:Bm.Rise l) {p q:ByteArray} (h:bytesLess p.toList q.toList=true):cutF l p≤cutF l q:=take_len_mono l (ahd_mono hr h)
theorem cutF_le (l:List Leaf) (p:ByteArray):cutF l p≤(text l).length:=take_len_le l _
theorem less_nil (a:List UInt8):bytesLess a []=false:=by cases a<;>rfl
theorem empty_list:(ByteArray.empty).toList=[]:=ByteArray.toList_mk []
theorem ahd_nil (l:List Leaf):ahd l []=0:=by
 cases l with
 | nil=>rfl
 | cons x l=>simp[ahd,less_nil]
theorem cutF_nil (l:List Leaf):cutF l ByteArray.empty=0:=by
 unfold cutF;rw[empty_list,ahd_nil];rfl
def heads (m:List Mk):List ByteArray:=ByteArray.empty::placesL m
theorem mem_places:∀{l:List Mk} {p:ByteArray},p ∈ placesL l→∃x ∈ l,x.1=p
 | [],p,h=>by cases h
 | [m],p,h=>by simp[placesL] at h;exact⟨m,by simp,h.symm⟩
 | m::x::l,p,h=>by
  rw[placesL] at h
  split at h
  ·obtain⟨y,hy,e⟩:=mem_places h
   exact⟨y,List.mem_cons_of_mem _ hy,e⟩
  ·rcases List.mem_cons.1 h with rfl | h
   ·exact⟨m,by simp,rfl⟩
   ·obtain⟨y,hy,e⟩:=mem_places h
    exact⟨y,List.mem_cons_of_mem _ hy,e⟩
theorem places_rise:∀{l:List Mk},Cm.Rise mlt l→(placesL l).Pairwise fun a b=>bytesLess a.toList b.toList=true
 | [],h=>List.Pairwise.nil
 | [m],h=>by simp[placesL]
 | m::x::l,h=>by
  have hc:=List.pairwise_cons.1 h
  rw[placesL]
  split
  ·exact places_rise hc.2
  ·next hne=>
   refine List.pairwise_cons.2 ⟨fun p hp=> ?_,places_rise hc.2⟩
   have hmx:bytesLess m.1.toList x.1.toList=true:=by
    have h9:=hc.1 x (by simp)
    unfold mlt at h9
    rw[Bool.or_eq_true] at h9
    rcases h9 with h9 | h9
    ·exact h9
    ·rw[Bool.and_eq_true,decide_eq_true_eq] at h9
     exact absurd (congrArg ByteArray.toList h9.1) hne
   obtain⟨y,hy,rfl⟩:=mem_places hp
   rcases List.mem_cons.1 hy with rfl | hy
   ·exact hmx
   ·have h9:=(List.pairwise_cons.1 hc.2).1 y hy
    unfold mlt at h9
    rw[Bool.or_eq_true] at h9
    rcases h9 with h9 | h9
    ·exact less_trans hmx h9
    ·rw[Bool.and_eq_true,decide_eq_true_eq] at h9
     rw[←h9.1];exact hmx
theorem heads_rise {m:List Mk} (h:marksE m=0):(heads m).Pairwise fun a b=>bytesLess a.toList b.toList=true:=by
 obtain⟨_,h2,h3⟩:=marksE_zero.1 h
 refine List.pairwise_cons.2 ⟨fun p hp=> ?_,places_rise h3⟩
 obtain⟨x,hx,rfl⟩:=mem_places hp
 have h9:=h2 x hx
 have hc:Pm.chk x.1.toList=0:=by
  unfold markE at h9
  split at h9
  ·next h1=>exact absurd h9 h1
  ·next h1=>simpa using h1
 have:=(Bm.chk_pos hc).1
 rw[empty_list]
 cases e:x.1.toList with
 | nil=>rw[e] at this;simp at this
 | cons _ _=>rfl
theorem heads_pos (m:List Mk):0<(heads m).length:=by simp[heads]
theorem heads_lt {m:List Mk} (h:marksE m=0) {i j:Nat} (hij:i<j) (hj:j<(heads m).length):bytesLess ((heads m).getD i ByteArray.empty).toList ((heads m).getD j ByteArray.empty).toList=true:=by
 rw[List.getD_eq_getElem?_getD,List.getElem?_eq_getElem (by omega),List.getD_eq_getElem?_getD,List.getElem?_eq_getElem hj]
 exact List.pairwise_iff_getElem.1 (heads_rise h) i j (by omega) hj hij
def beg (l:List Leaf) (H:List ByteArray) (k:Nat):Nat:=if k<H.length then cutF l (H.getD k ByteArray.empty) else(text l).length
theorem beg_end (l:List Leaf) (H:List ByteArray) {k:Nat} (h:H.length≤k):beg l H k=(text l).length:=by unfold beg;rw[if_neg (by omega)]
theorem beg_le (l:List Leaf) (H:List ByteArray) (k:Nat):beg l H k≤(text l).length:=by
 unfold beg;split
 ·exact cutF_le l _
 ·exact Nat.le_refl _
theorem beg_mono {l:List Leaf} {m:List Mk} (hr:Bm.Rise l) (hm:marksE m=0) {i j:Nat} (hij:i≤j):beg l (heads m) i≤beg l (heads m) j:=by
 by_cases hj:j<(heads m).length
 ·unfold beg
  rw[if_pos hj,if_pos (by omega)]
  rcases Nat.lt_or_eq_of_le hij with h | rfl
  ·exact cutF_mono hr (heads_lt hm h hj)
  ·exact Nat.le_refl _
 ·rw[beg_end l (heads m) (show(heads m).length≤j by omega)];exact beg_le l _ i
abbrev St:=ByteArray × Int × Int
def stOf (l:List Leaf) (H:List ByteArray) (k:Nat):St:=(H.getD k ByteArray.empty,(beg l H k:Int),(beg l H (k+1):Int)-beg l H k)
def stretches (l:List Leaf) (m:List Mk):List St:=(List.range (heads m).length).map (stOf l (heads m))
theorem stretches_len (l:List Leaf) (m:List Mk):(stretches l m).length=(heads m).length:=by simp[stretches]
theorem stretches_at {l:List Leaf} {m:List Mk} {k:Nat} (hk:k<(heads m).length):(stretches l m)[k]? =some (stOf l (heads m) k):=by
 simp[stretches,hk]
def sliceB (l:List Leaf) (H:List ByteArray) (k:Nat):List UInt8:=((text l).drop (beg l H k)).take (beg l H (k+1)-beg l H k)
theorem places_snoc:∀(l:List Mk) (x y:Mk),placesL (l++[x]++[y])=if x.1.toList=y.1.toList then placesL (l++[x]) else placesL (l++[x])++[y.1]
 | [],x,y=>by
  show placesL [x,y]=if x.1.toList=y.1.toList then placesL [x] else placesL [x]++[y.1]
  rw[placesL,placesL,placesL]
  by_cases h:x.1.toList=y.1.toList
  ·rw[if_pos h,if_pos h,Bm.bytes_inj h]
  ·rw[if_neg h,if_neg h];rfl
 | a::l,x,y=>by
  have ih:=places_snoc l x y
  obtain⟨c,r,hcr⟩:∃c r,l++[x]=c::r:=by cases l<;>simp
  show placesL (a::(l++[x]++[y]))=if x.1.toList=y.1.toList then placesL (a::(l++[x])) else placesL (a::(l++[x]))++[y.1]
  rw[hcr] at ih ⊢
  simp only[List.cons_append] at ih ⊢
  rw[placesL,placesL,ih]
  by_cases h1:a.1.toList=c.1.toList
  ·rw[if_pos h1,if_pos h1]
  ·rw[if_neg h1,if_neg h1]
   by_cases h2:x.1.toList=y.1.toList
   ·rw[if_pos h2,if_pos h2]
   ·rw[if_neg h2,if_neg h2];rfl
end Sm
namespace Sb
open Go.ChangeShapes Go.WideShapes Go.ChangeAt Go.RowKit Cm Ka Kb Na Sm
open La (bel bel_drew errV_zero errV_ne own_ge own_grow own_below LeafsIn)
open Bm (Leaf ahd bookE text)
def bare (l:List Leaf) (H:List ByteArray):List Mk:=H.map fun p=>(p,((cutF l p:Int),(0:Int)))
theorem infoSt:(Tryz.prog.info? 72).map (fun i=>(i.zero,i.size,i.bytes))=some (some (.agg #[.string ⟨#[]⟩,.int .i64 0,.int .i64 0]),3,32):=by kernel_rfl
theorem cell_of {w:World} {D:Nat} {cs:Array Value} {t:TypeId} (h:w.heap[D]? =some (.cells cs t)) {i:Nat} {u:Value} (hu:cs[i]? =some u):w.cell? ⟨D,i,none⟩=some u:=by
 simp only[World.cell?,h];simpa using hu
end Sb
namespace Sd
open Op (bytesLess)
open Bm (Leaf text ahd none0 isS bookE)
open Cm (Mk mlt placesL marksE marksE_zero markE)
open Na Nr Ns Sm Sb
theorem names_at {m:List Mk} {k:Nat} {x:Mk} (h:m[k]? =some x):(names m).getD k noS=x.1:=by
 unfold names
 rw[List.getD_eq_getElem?_getD,List.getElem?_map,h];rfl
theorem comp_places (m:List Mk):∀k,k≤m.length→compTo (names m) k=placesL (m.take k)
 | 0,_=>by rw[List.take_zero];rfl
 | 1,h=>by
  have e:m[0]? =some (m[0]'(by omega)):=List.getElem?_eq_getElem _
  have e1:m.take 1=[m[0]'(by omega)]:=by rw[List.take_add_one,e];rfl
  rw[compTo,if_pos (Or.inl rfl),names_at e,e1];rfl
 | k+2,h=>by
  have ih:=comp_places m (k+1) (by omega)
  obtain⟨x,hx⟩:∃x,m[k]? =some x:=⟨_,List.getElem?_eq_getElem (by omega)⟩
  obtain⟨y,hy⟩:∃y,m[k+1]? =some y:=⟨_,List.getElem?_eq_getElem (by omega)⟩
  have e1:m.take (k+1)=m.take k++[x]:=by rw[List.take_add_one,hx];rfl
  have e2:m.take (k+1+1)=m.take k++[x]++[y]:=by rw[List.take_add_one,hy,e1];rfl
  rw[show k+2=k+1+1 from rfl,compTo,ih,e2,places_snoc,←e1,names_at hy,Nat.add_sub_cancel,names_at hx]
  by_cases h9:x.1.toList=y.1.toList
  ·rw[if_pos h9,if_neg]
   rintro(h8 | h8)
   ·omega
   ·exact h8 (Bm.bytes_inj h9.symm)
  ·rw[if_neg h9,if_pos (Or.inr fun h8=>h9 (by rw[h8]))]
theorem placesOf_eq {m:List Mk} (h:marksE m=0):placesOf m=placesL m:=by
 unfold placesOf
 rw[if_pos h,comp_places m m.length (Nat.le_refl _),List.take_length]
theorem places_len:∀(l:List Mk),(placesL l).length≤l.length
 | []=>by simp[placesL]
 | [a]=>by simp[placesL]
 | a::b::l=>by
  have ih:=places_len (b::l)
  rw[placesL];split<;>simp at ih ⊢ <;>omega
theorem heads_len {m:List Mk} (h:marksE m=0):(heads m).length≤41:=by
 have h1:=places_len m
 have h2:=(marksE_zero.1 h).1
 simp[heads];omega
theorem places_chk {m:List Mk} (h:marksE m=0) {p:ByteArray} (hp:p ∈ placesL m):Pm.chk p.toList=0:=by
 obtain⟨_,h2,_⟩:=marksE_zero.1 h
 obtain⟨x,hx,rfl⟩:=mem_places hp
 have h9:=h2 x hx
 unfold markE at h9
 split at h9
 ·next h1=>exact absurd h9 h1
 ·next h1=>simpa using h1
def dirE (l:List Leaf) (m:List Mk):Int:=if bookE l≠0 then bookE l else marksE m
theorem dirE_zero {l:List Leaf} {m:List Mk}:dirE l m=0↔bookE l=0∧marksE m=0:=by
 unfold dirE
 by_cases h:bookE l=0
 ·simp[h]
 ·simp[h]
def textD (l:List Leaf) (m:List Mk):ByteArray:=if dirE l m=0 then⟨(text l).toArray⟩ else⟨#[]⟩
def stD (l:List Leaf) (m:List Mk):List Mk:=if dirE l m=0 then stretches l m else[]
end Sd
end Go.Proofs.YtiamefgoeibhhaaGreatDoor
