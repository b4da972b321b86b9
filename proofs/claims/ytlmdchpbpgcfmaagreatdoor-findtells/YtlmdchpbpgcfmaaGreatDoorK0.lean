/- What the reference says of a place, of a letter, of a leaf that is seen. -/
import Derived.Test.YtlmdchpbpgcfmaaGreatDoorJ2
set_option linter.unusedVariables false
set_option maxRecDepth 100000
set_option maxHeartbeats 8000000
namespace Go.Proofs.YtlmdchpbpgcfmaaGreatDoor
namespace Lp
open Go.RowKit Ka Kb La Bm
/- behind the letters: what is left of the test -/
theorem letter_ref (n:Int) (w:World):
  Calls Tryz.prog 104 #[.int .i64 n] w fun e w'=>e=.returned (.bool (isL n))∧w'=w:=by
 go_enter Tryz.func104,Tryz.ntmps104
 go_wp2
 all_goals
  go_ret
  exact⟨ret_bool (by first | (simp[isL, *];done) | (simp only[isL];rw[decide_eq_false (by omega)];rfl)),rfl⟩
theorem seen_ref (s:ByteArray) (n:Int) (b:Bool) (w:World):
  Calls Tryz.prog 20 #[.agg #[.string s,.int .i64 n,.bool b]] w fun e w'=>e=.returned (.bool (isS (s,n,b)))∧Below w.heap.size w w':=by
 have H1:Hid (n=0→isS (s,n,b)=false):=by intro h;unfold isS;rw[h];rfl
 have H2:Hid (isS (s,n,b)=(n !=0 && !b)):=rfl
 go_enter Tryz.func20,Tryz.ntmps20
 go_wp2
 all_goals
  go_ret
  refine⟨ret_bool ?_,(Below.refl _ w).alloc (Nat.le_refl _) _⟩
  first
   | (rw[H1.out (by assumption)];done)
   | (rw[H2.out];done)
end Lp
end Go.Proofs.YtlmdchpbpgcfmaaGreatDoor
