import Derived.Test.YtiamefgoeibhhaaGreatDoorZ1
import Derived.Test.YtiamefgoeibhhaaGreatDoorJ2
import Derived.Maps.AppendAt
set_option linter.unusedVariables false
set_option maxRecDepth 100000
set_option maxHeartbeats 8000000
namespace Go.Proofs.YtiamefgoeibhhaaGreatDoor
namespace Rw0
open Go.ChangeShapes Go.WideShapes Go.ChangeAt Go.RowKit Ka Kb Rz1
structure RunSays (Q:World→Prop):Prop where
 keep:∀{w w':World},Q w→Below w.heap.size w w'→Q w'
 run:∀(t:ByteArray) (w:World),Q w→t.size≤maxLen→Calls Tryz.prog 6 #[.string t] w fun e w'=>e=.returned (.string ⟨(sesT t.toList).toArray⟩)∧Below w.heap.size w w'
theorem RunSays.run' {Q:World→Prop} (U:RunSays Q) {t:ByteArray} {w:World} (h:Q w) (ht:t.size≤maxLen) {r:ByteArray} (hr:sesT t.toList=r.toList):Calls Tryz.prog 6 #[.string t] w fun e w'=>e=.returned (.string r)∧Below w.heap.size w w':=by
 have:=U.run t w h ht
 rw[hr,Om.mk_toList] at this;exact this
def ten:ByteArray:=⟨#[48,49,50,51,52,53,54,55,56,57]⟩
theorem ten_piece (i:Nat) (h:i<10):ten.extract i (i+1)=⟨#[UInt8.ofNat (48+i)]⟩:=by
 match i,h with
 | 0,_ | 1,_ | 2,_ | 3,_ | 4,_ | 5,_ | 6,_ | 7,_ | 8,_ | 9,_=>rfl
theorem dec_len (u:Nat):(Lib.decDigits u).length≤u+1:=by
 induction u using Nat.strongRecOn with
 | _ u ih=>
  by_cases h:u<10
  ·rw[Lib.decDigits,dif_pos h];simp
  ·rw[Lib.decDigits,dif_neg h]
   have:=ih (u/10) (by omega)
   simp;omega
theorem digits_any:∀(u:Nat),u≤1000000→∀(n:Int) (w:World),n=u→
  Calls Tryz.prog 10 #[.int .i64 n] w fun e w'=>e=.returned (.string ⟨(Lib.decDigits u).toArray⟩)∧w'=w:=by
 intro u
 induction u using Nat.strongRecOn with
 | _ u ih=>
  intro hu n w hn
  have h0:0≤n:=by omega
  have h6:n≤1000000:=by omega
  by_cases h10:u<10
  ·have hn10:n<10:=by omega
   have HE:Hid ((⟨(Lib.decDigits u).toArray⟩:ByteArray)=ten.extract n.toNat (n+1).toNat):=by
    unfold Hid;rw[show n.toNat=u by omega,show(n+1).toNat=u+1 by omega,ten_piece u h10,Lib.decDigits_one h10]
   clear ih hn
   go_enter Tryz.func10,Tryz.ntmps10
   go_wp2
   go_ret
   refine⟨?_,rfl⟩
   rw[HE.out];rfl
  ·have C:=ih (u/10) (by omega) (by omega) (n/10) w (by omega)
   have HE:Hid ((⟨(Lib.decDigits u).toArray⟩:ByteArray)=(⟨(Lib.decDigits (u/10)).toArray⟩:ByteArray)++ten.extract (n%10).toNat (n%10+1).toNat):=by
    unfold Hid
    rw[show(n%10).toNat=u%10 by omega,show(n%10+1).toNat=u%10+1 by omega,ten_piece _ (by omega),Lib.decDigits,dif_neg h10]
    apply ByteArray.ext
    rw[ByteArray.data_append]
    simp
   have hn10:¬n<10:=by omega
   have hr0:0≤n%10:=by omega
   have hr9:n%10<10:=by omega
   obtain⟨X,hX⟩:∃X:ByteArray,X=⟨(Lib.decDigits (u/10)).toArray⟩:=⟨_,rfl⟩
   have hXs:X.size≤100001:=by
    have h1:=dec_len (u/10)
    have h2:X.size=(Lib.decDigits (u/10)).length:=by rw[hX];rfl
    omega
   rw[←hX] at C HE
   clear ih hn hX
   go_enter Tryz.func10,Tryz.ntmps10
   go_wp2_with (go_at_call 10;refine C.mono ?_;rintro e w' ⟨rfl,hw⟩;have hw2:=hw.symm;subst hw2;clear hw)
   go_ret
   refine⟨?_,rfl⟩
   rw[HE.out];rfl
end Rw0
end Go.Proofs.YtiamefgoeibhhaaGreatDoor
