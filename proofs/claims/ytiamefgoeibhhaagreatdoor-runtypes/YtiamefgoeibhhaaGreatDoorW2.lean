import Derived.Test.YtiamefgoeibhhaaGreatDoorW0
import Derived.Test.YtiamefgoeibhhaaGreatDoorZ2
import Derived.Deep.QuietTactic
import Derived.BigQuiet
set_option linter.unusedVariables false
set_option maxRecDepth 100000
set_option maxHeartbeats 8000000
namespace Go.Proofs.YtiamefgoeibhhaaGreatDoor
namespace Rw2
open Go.ChangeShapes Go.WideShapes Go.ChangeAt Go.RowKit Ka Kb Rz1 Rw0
open La (bel bel_drew)
theorem str_add {x y:ByteArray} (h:x.size+y.size≤1000):Op.stringOp .add x y=(pure (.string (x++y)):Sem Value):=by
 unfold Op.stringOp
 have h2:¬(((x.size+y.size:Nat):Int)>IntKind.i64.max):=by
  have:IntKind.i64.max=9223372036854775807:=by decide
  rw[this];omega
 simp only[if_neg h2]
def c1:ByteArray:=⟨#[116,121,112,101,32,48,32,48,32]⟩
def c2:ByteArray:=⟨#[10,115,101,110,100,32,48,32,49,10,116,121,112,101,32,49,32]⟩
def c3:ByteArray:=⟨#[32,60,62,10,115,101,110,100,32,49,32,50,10,115,101,110,100,32,50,32,48,10,115,104,111,119,32,48,10,115,97,109,101,10]⟩
def d1:ByteArray:=⟨#[111,107,10,111,107,10,111,107,10,111,107,10,111,107,10,39]⟩
def d2:ByteArray:=⟨#[60,62]⟩
def d3:ByteArray:=⟨#[39,10,121,101,115,10]⟩
theorem app_list (x y:ByteArray):(x++y).toList=x.toList++y.toList:=by
 rw[ByteArray.toList_eq,ByteArray.toList_eq,ByteArray.toList_eq,ByteArray.data_append];simp
theorem ext_list (s:ByteArray) (i j:Nat):(s.extract i j).toList=(s.toList.take j).drop i:=by
 rw[ByteArray.toList_eq,ByteArray.toList_eq];simp[ByteArray.data_extract,List.drop_take]
theorem sess_list (t:ByteArray) (a:Nat) (d:ByteArray) (hd:d.toList=Lib.decDigits a):(c1++t++c2++d++c3).toList=Rz3.glue (Rz3.sess t a):=by
 simp only[app_list,hd]
 have e1:c1.toList=[116,121,112,101,32,48,32,48,32]:=by kernel_rfl
 have e2:c2.toList=[10,115,101,110,100,32,48,32,49,10,116,121,112,101,32,49,32]:=by kernel_rfl
 have e3:c3.toList=[32,60,62,10,115,101,110,100,32,49,32,50,10,115,101,110,100,32,50,32,48,10,115,104,111,119,32,48,10,115,97,109,101,10]:=by kernel_rfl
 rw[e1,e2,e3]
 simp[Rz3.glue,Rz3.sess]
theorem ans_list (t:ByteArray) (a:Nat) (ha:a≤t.size):(d1++t.extract 0 a++d2++t.extract a t.size++d3).toList=Rz3.glue [tOk,tOk,tOk,tOk,tOk,39::(t.toList.take a++([60,62]++t.toList.drop a)++[39]),tYes]:=by
 simp only[app_list,ext_list]
 have e1:d1.toList=[111,107,10,111,107,10,111,107,10,111,107,10,111,107,10,39]:=by kernel_rfl
 have e2:d2.toList=[60,62]:=by kernel_rfl
 have e3:d3.toList=[39,10,121,101,115,10]:=by kernel_rfl
 rw[e1,e2,e3,List.take_of_length_le (l:=t.toList) (i:=t.size) (by rw[Kb.len_eq];exact Nat.le_refl _)]
 simp[Rz3.glue,tOk,tYes]
theorem walk {Q:World→Prop} (U:RunSays Q) (t:ByteArray) (m:Int) (w:World) (ht:t.size≤maxLen) (hq:Q w):
  Calls Tryz.prog 5 #[.string t,.int .i64 m] w fun e w'=>e=.returned (.bool true)∧Below w.heap.size w w':=by
 have HU:=z9 U
 have HQ:=z9 hq
 have htz:(t.size:Int)≤9223372036854775807:=by unfold maxLen at ht;omega
 clear ht hq U
 go_enter Tryz.func5,Tryz.ntmps5
 go_wp2
 go_loop [5] (fun i=>∃k:Nat,k≤t.size∧i=.int .i64 k∧Hid ((t.toList.take k).all (fun c=>Bm.isL (c.toNat:Int))=true)) (fun i=>t.size-(intOf i).toNat)
 case atStart=>exact⟨0,by omega,rfl,rfl⟩
 case round=>
  obtain⟨k,hk,rfl,HA⟩:=hrel
  by_cases hlt:k<t.size
  ·have hltz:(k:Int)<t.size:=by omega
   have hb:t[k].toNat<256:=UInt8.toNat_lt _
   by_cases h1:(t[k].toNat:Int)<32
   ·go_wp2
    go_ret
    exact⟨rfl,Below.refl _ _⟩
   ·by_cases h2:126<(t[k].toNat:Int)
    ·go_wp2
     go_ret
     exact⟨rfl,Below.refl _ _⟩
    ·have HA2:Hid ((t.toList.take (k+1)).all (fun c=>Bm.isL (c.toNat:Int))=true):=by
      unfold Hid
      rw[Ka.take_snoc t k hlt,List.all_append,HA.out]
      simp only[List.all_cons,List.all_nil,Bool.and_true,Bool.true_and]
      unfold Bm.isL;simp;omega
     go_wp2
     go_round
     case rel=>exact⟨k+1,by omega,by go_num,HA2⟩
     case measure=>simp[intOf];omega
  ·obtain rfl:t.size=k:=by omega
   have HOK:Hid (Um.okText t=true):=by
    have:=HA.out
    rw[List.take_of_length_le (by rw[Kb.len_eq];exact Nat.le_refl _)] at this
    exact this
   clear HA
   by_cases g1:(60:Int)<t.size
   ·go_wp2
    go_ret
    exact⟨rfl,Below.refl _ _⟩
   by_cases g2:m<0
   ·go_wp2
    go_ret
    exact⟨rfl,Below.refl _ _⟩
   by_cases g3:(t.size:Int)<m
   ·go_wp2
    go_ret
    exact⟨rfl,Below.refl _ _⟩
   obtain⟨a,rfl⟩:∃a:Nat,m=(a:Int):=⟨m.toNat,by omega⟩
   have h60:t.size≤60:=by omega
   have ha:a≤t.size:=by omega
   have haz:(a:Int)≤t.size:=by omega
   obtain⟨d,hd⟩:∃d:ByteArray,d=⟨(Lib.decDigits a).toArray⟩:=⟨_,rfl⟩
   have hdl:d.toList=Lib.decDigits a:=by rw[hd];exact Om.toList_mk _
   have hds:d.size≤2:=by rw[←Kb.len_eq,hdl];exact(Rz3.num_dec a (by omega)).2.2.2
   have CD:=digits_any a (by omega) (a:Int) w rfl
   rw[←hd] at CD
   have e1:c1.size=9:=rfl
   have e2:c2.size=17:=rfl
   have e3:c3.size=34:=rfl
   have f1:d1.size=16:=rfl
   have f2:d2.size=2:=rfl
   have f3:d3.size=6:=rfl
   have x1:(t.extract 0 a).size=a:=by rw[ByteArray.size_extract];omega
   have x2:(t.extract a t.size).size=t.size-a:=by rw[ByteArray.size_extract];omega
   have HS:Hid (sesT (c1++t++c2++d++c3).toList=(d1++t.extract 0 a++d2++t.extract a t.size++d3).toList):=by
    unfold Hid;rw[sess_list t a d hdl,ans_list t a ha];exact Rz3.types HOK.out h60 ha
   have p1:Op.stringOp .add c1 t=(pure (.string (c1++t)):Sem Value):=str_add (by omega)
   have p2:Op.stringOp .add (c1++t) c2=(pure (.string (c1++t++c2)):Sem Value):=str_add (by simp only[ByteArray.size_append];omega)
   have p3:Op.stringOp .add (c1++t++c2) d=(pure (.string (c1++t++c2++d)):Sem Value):=str_add (by simp only[ByteArray.size_append];omega)
   have p4:Op.stringOp .add (c1++t++c2++d) c3=(pure (.string (c1++t++c2++d++c3)):Sem Value):=str_add (by simp only[ByteArray.size_append];omega)
   have q1:Op.stringOp .add d1 (t.extract 0 a)=(pure (.string (d1++t.extract 0 a)):Sem Value):=str_add (by omega)
   have q2:Op.stringOp .add (d1++t.extract 0 a) d2=(pure (.string (d1++t.extract 0 a++d2)):Sem Value):=str_add (by simp only[ByteArray.size_append];omega)
   have q3:Op.stringOp .add (d1++t.extract 0 a++d2) (t.extract a t.size)=(pure (.string (d1++t.extract 0 a++d2++t.extract a t.size)):Sem Value):=str_add (by simp only[ByteArray.size_append];omega)
   have q4:Op.stringOp .add (d1++t.extract 0 a++d2++t.extract a t.size) d3=(pure (.string (d1++t.extract 0 a++d2++t.extract a t.size++d3)):Sem Value):=str_add (by simp only[ByteArray.size_append];omega)
   obtain⟨X,hX⟩:∃X,X=c1++t++c2++d++c3:=⟨_,rfl⟩
   obtain⟨Y,hY⟩:∃Y,Y=d1++t.extract 0 a++d2++t.extract a t.size++d3:=⟨_,rfl⟩
   rw[←hX] at p4 HS
   rw[←hY] at q4 HS
   have hXm:X.size≤maxLen:=by rw[hX];simp only[ByteArray.size_append];unfold maxLen;omega
   have CR:=fun w h=>HU.out.run' (t:=X) (w:=w) h hXm HS.out
   unfold c1 at p1 p2 p3 p4
   unfold c2 at p2 p3 p4
   unfold c3 at p4
   unfold d1 at q1 q2 q3 q4
   unfold d2 at q2 q3 q4
   unfold d3 at q4
   have hyy:(Y.toList==Y.toList)=true:=by simp
   clear hX hY hd hdl hds e1 e2 e3 f1 f2 f3 x1 x2 HOK
   go_wp2_with fail
   refine CD.mono ?_
   rintro e w1 ⟨rfl,hw⟩
   have hw2:=hw.symm;subst hw2;clear hw CD
   go_wp2_with fail
   refine(CR w HQ.out).mono ?_
   rintro e w2 ⟨rfl,hb2⟩
   have K2:=z9 hb2
   clear hb2 CR p1 p2 p3 p4
   go_wp2_with fail
   go_quiet (fail)
   generalize hwq:World.drewN _ _=wq
   have HBQ:Hid (Below w.heap.size w wq):=by unfold Hid;rw[←hwq];exact bel_drew K2.out _
   clear hwq
   go_wp2_with fail
   go_ret
   exact⟨by first | rfl | (refine ret_bool ?_;simp),HBQ.out⟩
end Rw2
end Go.Proofs.YtiamefgoeibhhaaGreatDoor
