import Derived.Test.YtlmdchpbpgcfmaaGreatDoorJ7
import Derived.Deep.RegionHeld3
import Derived.Deep.QuietTactic
import Derived.BigQuiet
set_option linter.unusedVariables false
set_option maxRecDepth 100000
set_option maxHeartbeats 8000000
/- What the packages below op answer to it: dot.Check, book.IsLetter, marks.CheckSeen. -/
namespace Go.Proofs.YtlmdchpbpgcfmaaGreatDoor
namespace Va
open Go.ChangeShapes Go.WideShapes Go.ChangeAt Go.RowKit Cm Ka Kb Na Om Oa Oz Oc Og Oi
open La (bel bel_drew errV_zero errV_ne own_ge own_grow own_below)
/- below: -1; the same: 0; above: 1 -/
def icmp (a b:Int):Int:=if a<b then -1 else if b<a then 1 else 0
def or2 (a b:Int):Int:=if a=0 then b else a
theorem icmp_lt {a b:Int}:icmp a b<0↔a<b:=by
 unfold icmp
 split
 ·constructor<;>intro h<;>omega
 ·split
  ·constructor<;>intro h<;>omega
  ·constructor<;>intro h<;>omega
theorem icmp_eq {a b:Int}:icmp a b=0↔a=b:=by
 unfold icmp
 split
 ·constructor<;>intro h<;>omega
 ·split
  ·constructor<;>intro h<;>omega
  ·constructor<;>intro h<;>omega
theorem or2_lt {a b:Int}:or2 a b<0↔a<0∨(a=0∧b<0):=by
 unfold or2
 split<;>omega
def dcmp (a b:Dt):Int:=or2 (icmp a.1 b.1) (icmp a.2 b.2)
theorem dcmp_lt {a b:Dt}:dcmp a b<0↔dlt a b=true:=by
 unfold dcmp dlt
 rw[or2_lt,icmp_lt,icmp_eq,icmp_lt]
 simp
theorem isNaN_any (a:Int) (w:World):
  Calls Tryz.prog 220 #[.int .i64 a] w fun e w'=>e=.returned (.bool false)∧w'=w:=by
 go_enter Tryz.func220,Tryz.ntmps220
 go_wp2
 go_ret
 exact⟨by first | rfl | simp,rfl⟩
theorem icompare_any (a b:Int) (w:World):
  Calls Tryz.prog 213 #[.int .i64 a,.int .i64 b] w fun e w'=>e=.returned (.int .i64 (icmp a b))∧w'=w:=by
 have H:Hid (icmp a b=if a<b then -1 else if b<a then 1 else 0):=rfl
 go_enter Tryz.func213,Tryz.ntmps213
 go_wp2_with (go_at_call 220;refine(isNaN_any _ _).mono ?_;rintro e w' ⟨rfl,hw⟩;have hw2:=hw.symm;subst hw2;clear hw)
 all_goals
  go_ret
  refine⟨?_,rfl⟩
  rw[H.out]
  first
   | (rw[if_pos (by omega)];rfl)
   | (rw[if_neg (by omega),if_pos (by omega)];rfl)
   | (rw[if_neg (by omega),if_neg (by omega)];rfl)
theorem or_any (g:Nat) (a b:Int) (w:World) (h0:w.cell? ⟨g,0,none⟩=some (.int .i64 a)) (h1:w.cell? ⟨g,1,none⟩=some (.int .i64 b)):
  Calls Tryz.prog 212 #[.slice (some ⟨g,0,none⟩) 2 2] w fun e w'=>e=.returned (.int .i64 (or2 a b))∧w'=w:=by
 have H:Hid (or2 a b=if a=0 then b else a):=rfl
 go_enter Tryz.func212,Tryz.ntmps212
 go_wp2
 go_loop [5,8] (fun _ i=>∃(k:Nat),k≤2∧i=.int .i64 k∧Hid ((1≤k→a=0)∧(2≤k→b=0))) (fun _ i=>2-(intOf i).toNat)
 case atStart=>exact⟨0,by omega,rfl,⟨fun h=>by omega,fun h=>by omega⟩⟩
 case round=>
  obtain⟨k,hk,rfl,HK⟩:=hrel
  have hk3:k=0∨k=1∨k=2:=by omega
  rcases hk3 with rfl | rfl | rfl
  ·by_cases ha:a=0
   ·subst ha
    go_wp2_with fail
    go_round
    case rel=>exact⟨1,by omega,by go_num,⟨fun _=>by first | rfl | trivial,fun h=>by omega⟩⟩
    case measure=>simp[intOf]
   ·have hab:(a !=0)=true:=by simpa using ha
    have HR:Hid (or2 a b=a):=by unfold Hid;rw[H.out,if_neg ha]
    clear ha
    go_wp2_with fail
    go_ret
    exact⟨by rw[HR.out];rfl,rfl⟩
  ·obtain rfl:=HK.out.1 (by omega)
   by_cases hb:b=0
   ·subst hb
    go_wp2_with fail
    go_round
    case rel=>exact⟨2,by omega,by go_num,⟨fun _=>by first | rfl | trivial,fun _=>by first | rfl | trivial⟩⟩
    case measure=>simp[intOf]
   ·have hbb:(b !=0)=true:=by simpa using hb
    have HR:Hid (or2 0 b=b):=by unfold Hid;rw[H.out,if_pos rfl]
    clear hb
    go_wp2_with fail
    go_ret
    exact⟨by rw[HR.out];rfl,rfl⟩
  ·obtain rfl:=HK.out.1 (by omega)
   obtain rfl:=HK.out.2 (by omega)
   go_wp2_with fail
   go_ret
   exact⟨by rw[H.out];rfl,rfl⟩
/- what a list of two ints holds that has just been laid -/
theorem or_laid (a b:Int) (W:World) (n:Nat) (t:TypeId) (hn:n=W.heap.size):
  Calls Tryz.prog 212 #[.slice (some ⟨n,0,none⟩) 2 2] (W.alloc (.cells #[.int .i64 a,.int .i64 b] t)).drew fun e w'=>e=.returned (.int .i64 (or2 a b))∧w'=(W.alloc (.cells #[.int .i64 a,.int .i64 b] t)).drew:=by
 subst hn
 have hg:(W.alloc (.cells #[.int .i64 a,.int .i64 b] t)).drew.heap[W.heap.size]? =some (.cells #[.int .i64 a,.int .i64 b] t):=heap_alloc_new W (.cells #[.int .i64 a,.int .i64 b] t)
 exact or_any W.heap.size a b _ (by simp only[World.cell?,hg];rfl) (by simp only[World.cell?,hg];rfl)
theorem compareDots_any (a1 a2 b1 b2:Int) (w:World):
  Calls Tryz.prog 196 #[.agg #[.int .i64 a1,.int .i64 a2],.agg #[.int .i64 b1,.int .i64 b2]] w fun e w'=>e=.returned (.int .i64 (dcmp (a1,a2) (b1,b2)))∧Below w.heap.size w w':=by
 have HD:Hid (dcmp (a1,a2) (b1,b2)=or2 (icmp a1 b1) (icmp a2 b2)):=rfl
 have HB:Hid (∀O1 O2 O3,Below w.heap.size w (((w.alloc O1).alloc O2).alloc O3).drew):=fun O1 O2 O3=>((((Below.refl _ w).alloc (Nat.le_refl _) O1).alloc (by simp) O2).alloc (by simp;omega) O3).drew
 rw[HD.out]
 clear HD
 go_enter Tryz.func196,Tryz.ntmps196
 go_wp2_with fail
 go_region_held3 (fun W=>W.cell? ⟨w.heap.size,0,none⟩=some (.int .i64 a1)∧W.cell? ⟨w.heap.size,1,none⟩=some (.int .i64 a2)∧W.cell? ⟨w.heap.size+1,0,none⟩=some (.int .i64 b1)∧W.cell? ⟨w.heap.size+1,1,none⟩=some (.int .i64 b2)) (go_keep) (first
  | (go_at_call 213;refine(icompare_any _ _ _).mono ?_;rintro e w7 ⟨rfl,hw⟩;have hw2:=hw.symm;subst hw2;clear hw)
  | (go_at_call 212;refine(or_laid (icmp a1 b1) (icmp a2 b2) _ _ _ ?_).mono ?_;(simp);rintro e w7 ⟨rfl,hw⟩;have hw2:=hw.symm;subst hw2;clear hw))
 all_goals
  go_wp2_with fail
  go_ret
  exact⟨rfl,HB.out _ _ _⟩
theorem dotCheck_any (who m:Int) (w:World):
  Calls Tryz.prog 146 #[.agg #[.int .i64 who,.int .i64 m]] w fun e w'=>e=.returned (errV (dotE who m))∧Below w.heap.size w w':=by
 go_enter Tryz.func146,Tryz.ntmps146
 go_wp2
 all_goals
  go_ret
  refine⟨?_,(Below.refl _ w).alloc (Nat.le_refl _) _⟩
  unfold dotE
  first
   | (rw[if_pos (by omega)];rfl)
   | (rw[if_neg (by omega)];rfl)
/- what is asked of the dots that a join saw -/
def sawE (l:List Dt):Int:=if 40<l.length then 4 else dotsE l
theorem checkSeen_any (v : Value) (l : List Dt) (w : World) (hA : DtsAt w v l) :
  Calls Tryz.prog 177 #[v] w fun e w' => e = .returned (errV (sawE l)) ∧ Below w.heap.size w w' := by
 obtain ⟨p, c, rfl, h, hc0, hcm, _⟩ := hA
 obtain ⟨n, hl⟩ : ∃ n, l.length = n := ⟨_, rfl⟩
 rw [hl] at hc0
 rw [hl]
 by_cases h40 : 40 < n
 ·have HE : Hid (sawE l = 4) := by unfold Hid sawE; rw [hl, if_pos h40]
  have hz : (40 : Int) < n := by omega
  clear hl h hc0 hcm
  go_enter Tryz.func177, Tryz.ntmps177
  go_wp2
  go_ret
  exact ⟨by rw [HE.out]; rfl, Below.refl _ _⟩
 have HE : Hid (sawE l = dotsE l) := by unfold Hid sawE; rw [hl, if_neg h40]
 have hz : ¬ (40 : Int) < n := by omega
 clear hc0 hcm
 have HL := z9 hl
 have HI := z9 h
 clear hl h
 go_enter Tryz.func177, Tryz.ntmps177
 go_wp2
 go_loopw [13] (fun i wr => ∃ (k : Nat), k ≤ n ∧ i = .int .i64 k ∧ Hid (∀ j, j < k → dotE (l.getD j noneD).1 (l.getD j noneD).2 = 0) ∧ Hid (Below w.heap.size w wr)) (fun i _ => n - (intOf i).toNat)
 case atStart => exact ⟨0, by omega, rfl, fun j hj => absurd hj (by omega), Below.refl _ _⟩
 case round =>
  obtain ⟨k, hk, rfl, HG, HB⟩ := hrel
  by_cases hlt : k < n
  ·have hltz : (k : Int) < n := by omega
   obtain ⟨b, o, rfl, hc⟩ := HI.out.some (by intro e; have := HL.out; rw [e] at this; simp at this; omega)
   have hkl : k < l.length := by rw [HL.out]; exact hlt
   have ha := (hc k hkl).below HB.out (hc k hkl).lt
   obtain ⟨x, hx⟩ : ∃ x, x = l.getD k noneD := ⟨_, rfl⟩
   rw [← hx] at ha
   have HX := z9 hx
   obtain ⟨x1, x2⟩ := x
   obtain ⟨a1, a2⟩ := ha
   simp only at a1 a2
   clear hc hx
   have C := dotCheck_any x1 x2 (wr.alloc (.cells #[.int .i64 x1, .int .i64 x2] 72))
   by_cases h0 : dotE x1 x2 = 0
   ·rw [h0, errV_zero] at C
    have HG2 : Hid (∀ j, j < k + 1 → dotE (l.getD j noneD).1 (l.getD j noneD).2 = 0) := by
     intro j hj
     rcases Nat.lt_succ_iff_lt_or_eq.1 hj with h | rfl
     ·exact HG.out j h
     ·rw [← HX.out]; exact h0
    clear h0
    go_wp2_with fail
    refine C.mono ?_
    rintro e w2 ⟨rfl, hb2⟩
    have HB2 := z9 (bel_new HB.out hb2)
    clear hb2 C a1 a2
    go_wp2_with fail
    go_roundw
    case rel => exact ⟨k + 1, by omega, by go_num, HG2, HB2⟩
    case measure => simp [intOf]; omega
   ·obtain ⟨q, hq⟩ : ∃ q, q = dotE x1 x2 := ⟨_, rfl⟩
    have HQ : Hid (errV (sawE l) = .iface 84 (.int .i64 q)) := by
     unfold Hid; rw [HE.out, dotsE_fault hkl HG.out (by rw [← HX.out]; exact h0), ← HX.out, hq, errV_ne h0]
    rw [errV_ne h0, ← hq] at C
    clear h0 hq
    go_wp2_with fail
    refine C.mono ?_
    rintro e w2 ⟨rfl, hb2⟩
    have HB2 := z9 (bel_new HB.out hb2)
    clear hb2 C
    go_wp2_with fail
    go_ret
    exact ⟨by rw [HQ.out]; rfl, HB2.out⟩
  ·obtain rfl : k = n := by omega
   have HZ := z9 (all_zero (fun j hj => HG.out j (by rw [← HL.out]; exact hj)))
   clear HG hlt
   go_wp2_with fail
   go_loopw [6] (fun i wr2 => ∃ (m : Nat), (m = 0 ∨ m + 1 ≤ k) ∧ i = .int .i64 ((m + 1 : Nat) : Int) ∧ Hid (∀ j, j < m → dlt (l.getD j noneD) (l.getD (j + 1) noneD) = true) ∧ Hid (Below w.heap.size w wr2)) (fun i _ => k + 1 - (intOf i).toNat)
   case atStart => exact ⟨0, Or.inl rfl, rfl, fun j hj => absurd hj (by omega), HB⟩
   case round =>
    clear HB
    obtain ⟨m, hm, rfl, HG, HB⟩ := hrel
    by_cases hlt : m + 1 < k
    ·obtain ⟨j, hj⟩ : ∃ j : Nat, j = m + 1 := ⟨_, rfl⟩
     have hltz : (j : Int) < k := by omega
     obtain ⟨b, o, rfl, hc⟩ := HI.out.some (by intro e; have := HL.out; rw [e] at this; simp at this; omega)
     have hkl : m + 1 < l.length := by rw [HL.out]; exact hlt
     have ha := (hc (m + 1) hkl).below HB.out (hc (m + 1) hkl).lt
     have hb := (hc m (by omega)).below HB.out (hc m (by omega)).lt
     obtain ⟨x, hx⟩ : ∃ x, x = l.getD (m + 1) noneD := ⟨_, rfl⟩
     obtain ⟨y, hy⟩ : ∃ y, y = l.getD m noneD := ⟨_, rfl⟩
     rw [← hx, ← hj] at ha
     rw [← hy] at hb
     have HX := z9 hx
     have HY := z9 hy
     obtain ⟨x1, x2⟩ := x
     obtain ⟨y1, y2⟩ := y
     obtain ⟨a1, a2⟩ := ha
     obtain ⟨c1, c2⟩ := hb
     simp only at a1 a2 c1 c2
     have HQL : Hid (dcmp (y1, y2) (x1, x2) < 0 ↔ dlt (y1, y2) (x1, x2) = true) := dcmp_lt
     obtain ⟨q, hq⟩ : ∃ q, q = dcmp (y1, y2) (x1, x2) := ⟨_, rfl⟩
     have C2 := fun W => compareDots_any y1 y2 x1 x2 W
     rw [← hq] at C2 HQL
     have hjm : IntKind.i64.wrap ((j : Int) - 1) = (m : Int) := by rw [show (j : Int) - 1 = (m : Int) by omega]; exact wrap_in (by omega) (by omega)
     have hmz : (m : Int) < k := by omega
     have HJ := z9 hj
     rw [← hj]
     clear hc hx hy hq
     by_cases hq0 : 0 ≤ q
     ·have HQ : Hid (errV (sawE l) = .iface 84 (.int .i64 7)) := by
       have h9 : dlt (y1, y2) (x1, x2) = false := by
        cases h8 : dlt (y1, y2) (x1, x2)
        ·rfl
        ·exact absurd (HQL.out.2 h8) (by omega)
       unfold Hid; rw [HE.out, dotsE_seven HZ.out hkl (by rw [← HX.out, ← HY.out]; exact h9)]; rfl
      clear hj HQL
      go_wp2_with fail
      go_region_held3 (fun W => W.cell? ⟨b, o + m * 2, none⟩ = some (.int .i64 y1) ∧ W.cell? ⟨b, o + m * 2 + 1, none⟩ = some (.int .i64 y2) ∧ W.cell? ⟨b, o + j * 2, none⟩ = some (.int .i64 x1) ∧ W.cell? ⟨b, o + j * 2 + 1, none⟩ = some (.int .i64 x2)) (first | (go_keep; done) | (refine ⟨keep_cell hb7 ?_, keep_cell hb7 ?_, keep_cell hb7 ?_, keep_cell hb7 ?_⟩ <;> (go_split_ands; assumption))) (first
       | (go_at_call 196; refine (C2 _).mono ?_; rintro e w7 ⟨rfl, hb7⟩; have HB7 := z9 (bel HB.out.drew hb7)))
      all_goals
       go_wp2_with fail
       go_ret
       exact ⟨by rw [HQ.out]; rfl, HB7.out⟩
     ·have h9 : dlt (y1, y2) (x1, x2) = true := HQL.out.1 (by omega)
      have HG2 : Hid (∀ i, i < m + 1 → dlt (l.getD i noneD) (l.getD (i + 1) noneD) = true) := by
       intro i hi
       rcases Nat.lt_succ_iff_lt_or_eq.1 hi with h | rfl
       ·exact HG.out i h
       ·rw [← HX.out, ← HY.out]; exact h9
      clear h9 hj HQL
      go_wp2_with fail
      go_region_held3 (fun W => W.cell? ⟨b, o + m * 2, none⟩ = some (.int .i64 y1) ∧ W.cell? ⟨b, o + m * 2 + 1, none⟩ = some (.int .i64 y2) ∧ W.cell? ⟨b, o + j * 2, none⟩ = some (.int .i64 x1) ∧ W.cell? ⟨b, o + j * 2 + 1, none⟩ = some (.int .i64 x2)) (first | (go_keep; done) | (refine ⟨keep_cell hb7 ?_, keep_cell hb7 ?_, keep_cell hb7 ?_, keep_cell hb7 ?_⟩ <;> (go_split_ands; assumption))) (first
       | (go_at_call 196; refine (C2 _).mono ?_; rintro e w7 ⟨rfl, hb7⟩; have HB7 := z9 (bel HB.out.drew hb7)))
      all_goals
       go_wp2_with fail
       go_roundw
       case rel => exact ⟨m + 1, Or.inr (by omega), by rw [HJ.out]; go_num, HG2, HB7⟩
       case measure => have := HJ.out; simp [intOf]; omega
    ·have HQ : Hid (errV (sawE l) = .nilIface) := by
      unfold Hid; rw [HE.out, dotsE_ok HZ.out (fun i hi => HG.out i (by rw [HL.out] at hi; omega))]; exact errV_zero
     obtain ⟨j, hj⟩ : ∃ j : Nat, j = m + 1 := ⟨_, rfl⟩
     have hltz : ¬ (j : Int) < k := by omega
     rw [← hj]
     clear hj hm
     go_wp2_with fail
     go_ret
     exact ⟨by rw [HQ.out]; rfl, HB.out⟩
theorem isLetter_any (n:Int) (w:World):
  Calls Tryz.prog 122 #[.int .i64 n] w fun e w'=>e=.returned (.bool (isLetter n))∧w'=w:=by
 go_enter Tryz.func122,Tryz.ntmps122
 go_wp2
 all_goals
  go_ret
  exact⟨ret_bool (by first | (simp[isLetter, *];done) | (simp only[isLetter];rw[decide_eq_false (by omega)];rfl)),rfl⟩
end Va
end Go.Proofs.YtlmdchpbpgcfmaaGreatDoor
/- What op.Check answers. -/
namespace Go.Proofs.YtlmdchpbpgcfmaaGreatDoor
namespace Vb
open Go.ChangeShapes Go.WideShapes Go.ChangeAt Go.RowKit Cm Ka Kb Na Om Oa Oz Oc Og Oi Ov Va
open La (bel bel_drew errV_zero errV_ne own_ge own_grow own_below)
def letE (t c:Int):Int:=if t=1 then(if isLetter c=true then 0 else 1) else if c=0 then 0 else 3
def seenE (t:Int) (s:List Dt):Int:=if t=4 then sawE s else if s=[] then 0 else 3
theorem lawOf_eq (a b t:Int) (p:ByteArray) (c:Int) (s:List Dt):lawOf ((a,b),t,p,c,s)=if letE t c≠0 then letE t c else seenE t s:=by
 unfold lawOf letE seenE sawE
 simp only
 by_cases h1:t=1
 ·subst h1
  cases hl:isLetter c
  ·simp
  ·by_cases hs:s=[]
   ·subst hs;simp[show dotsE []=0 from rfl]
   ·simp[hs]
 ·by_cases hc:c=0
  ·subst hc
   by_cases h4:t=4
   ·subst h4;simp
   ·by_cases hs:s=[]
    ·subst hs;simp[h1,h4,show dotsE []=0 from rfl]
    ·simp[h1,h4,hs]
  ·simp[h1,hc]
theorem checkLetter_any (a b t:Int) (p:ByteArray) (c:Int) (v:Value) (w:World):
  Calls Tryz.prog 147 #[.agg #[.int .i64 a,.int .i64 b,.int .i64 t,.string p,.int .i64 c,v]] w fun e w'=>e=.returned (errV (letE t c))∧Below w.heap.size w w':=by
 have HB:Hid (∀O,Below w.heap.size w (w.alloc O)):=fun O=>(Below.refl _ w).alloc (Nat.le_refl _) O
 by_cases h1:t=1
 ·subst h1
  have HI:=fun W=>isLetter_any c W
  cases hl:isLetter c
  ·have HE:Hid (letE 1 c=1):=by unfold Hid letE;rw[if_pos rfl,if_neg (by rw[hl];decide)]
   rw[hl] at HI
   rw[HE.out]
   clear hl
   go_enter Tryz.func147,Tryz.ntmps147
   go_wp2_with fail
   refine(HI _).mono ?_
   rintro e w2 ⟨rfl,hw⟩
   have hw2:=hw.symm;subst hw2;clear hw
   go_wp2_with fail
   go_ret
   exact⟨rfl,HB.out _⟩
  ·have HE:Hid (letE 1 c=0):=by unfold Hid letE;rw[if_pos rfl,if_pos hl]
   rw[hl] at HI
   rw[HE.out]
   clear hl
   go_enter Tryz.func147,Tryz.ntmps147
   go_wp2_with fail
   refine(HI _).mono ?_
   rintro e w2 ⟨rfl,hw⟩
   have hw2:=hw.symm;subst hw2;clear hw
   go_wp2_with fail
   go_ret
   exact⟨rfl,HB.out _⟩
 ·have h1b:(t==1)=false:=by simpa using h1
  by_cases hc:c=0
  ·subst hc
   have HE:Hid (letE t 0=0):=by unfold Hid letE;rw[if_neg h1,if_pos rfl]
   rw[HE.out]
   clear h1
   go_enter Tryz.func147,Tryz.ntmps147
   go_wp2_with fail
   go_ret
   exact⟨rfl,HB.out _⟩
  ·have HE:Hid (letE t c=3):=by unfold Hid letE;rw[if_neg h1,if_neg hc]
   have hcb:(c !=0)=true:=by simpa using hc
   rw[HE.out]
   clear h1 hc
   go_enter Tryz.func147,Tryz.ntmps147
   go_wp2_with fail
   go_ret
   exact⟨rfl,HB.out _⟩
theorem checkSeen_op (a b t:Int) (p:ByteArray) (c:Int) (v:Value) (s:List Dt) (w:World) (hd:DtsAt w v s):
  Calls Tryz.prog 148 #[.agg #[.int .i64 a,.int .i64 b,.int .i64 t,.string p,.int .i64 c,v]] w fun e w'=>e=.returned (errV (seenE t s))∧Below w.heap.size w w':=by
 have HB:Hid (∀O,Below w.heap.size w (w.alloc O)):=fun O=>(Below.refl _ w).alloc (Nat.le_refl _) O
 by_cases h4:t=4
 ·subst h4
  have HE:Hid (seenE 4 s=sawE s):=by unfold Hid seenE;rw[if_pos rfl]
  obtain⟨z,hz⟩:∃z,z=errV (sawE s):=⟨_,rfl⟩
  have HI:Hid (∀W,DtsAt W v s→Calls Tryz.prog 177 #[v] W fun e w'=>e=.returned z∧Below W.heap.size W w'):=by
   rw[hz];exact fun W h=>checkSeen_any v s W h
  rw[HE.out,←hz]
  have HD:=z9 hd
  obtain⟨ps,cs,hv,_⟩:=hd
  obtain⟨n,hn⟩:∃n,n=s.length:=⟨_,rfl⟩
  rw[←hn] at hv
  subst hv
  clear hz HE hn
  go_enter Tryz.func148,Tryz.ntmps148
  go_wp2_with fail
  refine(HI.out _ (HD.out.below (HB.out _))).mono ?_
  rintro e w2 ⟨rfl,hb2⟩
  have HB2:Hid (Below w.heap.size w w2):=bel (HB.out _) hb2
  clear hb2
  go_wp2_with fail
  go_ret
  exact⟨rfl,HB2.out⟩
 ·have h4b:(t==4)=false:=by simpa using h4
  obtain⟨ps,cs,hv,_⟩:=hd
  by_cases hs:s=[]
  ·have HE:Hid (seenE t s=0):=by unfold Hid seenE;rw[if_neg h4,if_pos hs]
   rw[HE.out]
   rw[hs] at hv
   subst hv
   clear h4 hs
   simp only[List.length_nil]
   go_enter Tryz.func148,Tryz.ntmps148
   go_wp2_with fail
   go_ret
   exact⟨rfl,HB.out _⟩
  ·have HE:Hid (seenE t s=3):=by unfold Hid seenE;rw[if_neg h4,if_neg hs]
   rw[HE.out]
   obtain⟨n,hn⟩:∃n,n=s.length:=⟨_,rfl⟩
   have hn0:(0:Int)<n:=by
    rcases Nat.eq_zero_or_pos n with h | h
    ·exact absurd (List.eq_nil_of_length_eq_zero (hn.symm.trans h)) hs
    ·omega
   rw[←hn] at hv
   subst hv
   clear h4 hs hn
   go_enter Tryz.func148,Tryz.ntmps148
   go_wp2_with fail
   go_ret
   exact⟨rfl,HB.out _⟩
end Vb
end Go.Proofs.YtlmdchpbpgcfmaaGreatDoor
/- What op.Check answers. -/
namespace Go.Proofs.YtlmdchpbpgcfmaaGreatDoor
namespace Vc
open Go.ChangeShapes Go.WideShapes Go.ChangeAt Go.RowKit Cm Ka Kb Na Om Oa Oz Oc Og Oi Ov Va Vb
open La (bel bel_drew errV_zero errV_ne own_ge own_grow own_below)
theorem six_in {w w2:World} {a b t:Int} {p:ByteArray} {c:Int} {v:Value} {T:TypeId} (hb:Below (w.alloc (.cells #[.int .i64 a,.int .i64 b,.int .i64 t,.string p,.int .i64 c,v] T)).heap.size (w.alloc (.cells #[.int .i64 a,.int .i64 b,.int .i64 t,.string p,.int .i64 c,v] T)) w2):
  Six w2 w.heap.size a b t p c v∧Below w.heap.size w w2:=⟨(six_new w a b t p c v T).below hb,bel ((Below.refl _ w).alloc (Nat.le_refl _) _) hb⟩
theorem check_says:CheckSays:=by
 intro a b t p c v s w hd hp
 obtain⟨ps,cs,hv,_⟩:=id hd
 obtain⟨n,hn⟩:∃n,n=s.length:=⟨_,rfl⟩
 rw[←hn] at hv
 subst hv
 have HD:=z9 hd
 clear hd hn
 have HOE:Hid (opE ((a,b),t,p,c,s)=if dotE a b≠0 then dotE a b else if t<1∨4<t then 1 else if Pm.chk p.toList≠0 then Pm.chk p.toList else if letE t c≠0 then letE t c else seenE t s):=by
  unfold Hid;rw[←lawOf_eq a b t p c s];rfl
 have C1:=fun W=>dotCheck_any a b W
 by_cases h1:dotE a b=0
 case neg=>
  obtain⟨k,hk⟩:∃k,k=dotE a b:=⟨_,rfl⟩
  have HE:Hid (errV (opE ((a,b),t,p,c,s))=.iface 84 (.int .i64 k)):=by unfold Hid;rw[HOE.out,if_pos h1,hk];exact errV_ne h1
  rw[errV_ne h1,←hk] at C1
  rw[HE.out]
  clear h1 hk HOE
  go_enter Tryz.func110,Tryz.ntmps110
  go_wp2_with fail
  refine(C1 _).mono ?_
  rintro e w2 ⟨rfl,hb2⟩
  have HB2:Hid (Below w.heap.size w w2):=(six_in hb2).2
  clear hb2
  go_wp2_with fail
  go_ret
  exact⟨rfl,HB2.out⟩
 rw[h1,errV_zero] at C1
 by_cases h2:t<1∨4<t
 case pos=>
  have HE:Hid (errV (opE ((a,b),t,p,c,s))=.iface 84 (.int .i64 1)):=by unfold Hid;rw[HOE.out,if_neg (by simpa using h1),if_pos h2];rfl
  rw[HE.out]
  clear h1 HOE
  go_enter Tryz.func110,Tryz.ntmps110
  go_wp2_with fail
  refine(C1 _).mono ?_
  rintro e w2 ⟨rfl,hb2⟩
  obtain⟨⟨o0,o1,o2,o3,o4,o5⟩,hbw⟩:=six_in hb2
  have HB2:=z9 hbw
  clear hb2 hbw
  rcases h2 with h2 | h2
  ·go_wp2_with fail
   go_ret
   exact⟨rfl,HB2.out⟩
  ·have h2b:¬t<1:=by omega
   go_wp2_with fail
   go_ret
   exact⟨rfl,HB2.out⟩
 have h2a:¬t<1:=fun h=>h2 (Or.inl h)
 have h2b:¬4<t:=fun h=>h2 (Or.inr h)
 have C2:=fun W=>check_any p W hp
 by_cases h3:Pm.chk p.toList=0
 case neg=>
  obtain⟨k,hk⟩:∃k,k=Pm.chk p.toList:=⟨_,rfl⟩
  have HE:Hid (errV (opE ((a,b),t,p,c,s))=.iface 84 (.int .i64 k)):=by unfold Hid;rw[HOE.out,if_neg (by simpa using h1),if_neg h2,if_pos h3,hk];exact errV_ne h3
  rw[errV_ne h3,←hk] at C2
  rw[HE.out]
  clear h1 h2 h3 hk HOE
  go_enter Tryz.func110,Tryz.ntmps110
  go_wp2_with fail
  refine(C1 _).mono ?_
  rintro e w2 ⟨rfl,hb2⟩
  obtain⟨⟨o0,o1,o2,o3,o4,o5⟩,hbw⟩:=six_in hb2
  have HB2:=z9 hbw
  clear hb2 hbw
  go_wp2_with fail
  refine(C2 _).mono ?_
  rintro e w3 ⟨rfl,hw⟩
  have hw2:=hw.symm;subst hw2;clear hw
  go_wp2_with fail
  go_ret
  exact⟨rfl,HB2.out⟩
 rw[h3,errV_zero] at C2
 have C3:=fun W=>checkLetter_any a b t p c (.slice ps n cs) W
 by_cases h4:letE t c=0
 case neg=>
  obtain⟨k,hk⟩:∃k,k=letE t c:=⟨_,rfl⟩
  have HE:Hid (errV (opE ((a,b),t,p,c,s))=.iface 84 (.int .i64 k)):=by unfold Hid;rw[HOE.out,if_neg (by simpa using h1),if_neg h2,if_neg (by simpa using h3),if_pos h4,hk];exact errV_ne h4
  rw[errV_ne h4,←hk] at C3
  rw[HE.out]
  clear h1 h2 h3 h4 hk HOE
  go_enter Tryz.func110,Tryz.ntmps110
  go_wp2_with fail
  refine(C1 _).mono ?_
  rintro e w2 ⟨rfl,hb2⟩
  obtain⟨⟨o0,o1,o2,o3,o4,o5⟩,hbw⟩:=six_in hb2
  have HB2:=z9 hbw
  clear hb2 hbw
  go_wp2_with fail
  refine(C2 _).mono ?_
  rintro e w3 ⟨rfl,hw⟩
  have hw2:=hw.symm;subst hw2;clear hw
  go_wp2_with fail
  refine(C3 _).mono ?_
  rintro e w4 ⟨rfl,hb4⟩
  have HB4:=z9 (bel HB2.out hb4)
  clear hb4
  go_wp2_with fail
  go_ret
  exact⟨rfl,HB4.out⟩
 rw[h4,errV_zero] at C3
 obtain⟨z,hz⟩:∃z,z=errV (seenE t s):=⟨_,rfl⟩
 have HE:Hid (errV (opE ((a,b),t,p,c,s))=z):=by unfold Hid;rw[HOE.out,if_neg (by simpa using h1),if_neg h2,if_neg (by simpa using h3),if_neg (by simpa using h4),hz]
 have C4:Hid (∀W,DtsAt W (.slice ps n cs) s→Calls Tryz.prog 148 #[.agg #[.int .i64 a,.int .i64 b,.int .i64 t,.string p,.int .i64 c,.slice ps n cs]] W fun e w'=>e=.returned z∧Below W.heap.size W w'):=by
  rw[hz];exact fun W h=>checkSeen_op a b t p c _ s W h
 rw[HE.out]
 clear h1 h2 h3 h4 hz HOE HE
 go_enter Tryz.func110,Tryz.ntmps110
 go_wp2_with fail
 refine(C1 _).mono ?_
 rintro e w2 ⟨rfl,hb2⟩
 obtain⟨⟨o0,o1,o2,o3,o4,o5⟩,hbw⟩:=six_in hb2
 have HB2:=z9 hbw
 clear hb2 hbw
 go_wp2_with fail
 refine(C2 _).mono ?_
 rintro e w3 ⟨rfl,hw⟩
 have hw2:=hw.symm;subst hw2;clear hw
 go_wp2_with fail
 refine(C3 _).mono ?_
 rintro e w4 ⟨rfl,hb4⟩
 have HB4:=z9 (bel HB2.out hb4)
 obtain⟨q0,q1,q2,q3,q4,q5⟩:=(show Six w2 w.heap.size a b t p c (.slice ps n cs) from⟨o0,o1,o2,o3,o4,o5⟩).below hb4
 clear hb4 o0 o1 o2 o3 o4 o5
 go_wp2_with fail
 refine(C4.out _ (HD.out.below HB4.out)).mono ?_
 rintro e w5 ⟨rfl,hb5⟩
 have HB5:=z9 (bel HB4.out hb5)
 clear hb5
 go_wp2_with fail
 go_ret
 exact⟨rfl,HB5.out⟩
end Vc
end Go.Proofs.YtlmdchpbpgcfmaaGreatDoor
