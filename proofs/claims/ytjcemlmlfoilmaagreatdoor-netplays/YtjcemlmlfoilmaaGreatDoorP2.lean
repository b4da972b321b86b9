import Derived.Test.YtjcemlmlfoilmaaGreatDoorP1
import Derived.Test.YtjcemlmlfoilmaaGreatDoorRows
import Derived.WalkKit
import Derived.WalkLawsBesides
import Derived.WalkSpells
import Derived.ProofKit
import Derived.OpenShut
import Derived.Maps.AppendAt
set_option linter.unusedVariables false
set_option maxRecDepth 100000
set_option maxHeartbeats 8000000
namespace Go.Proofs.YtjcemlmlfoilmaaGreatDoor
open Go.RowKit Go.WideShapes
open Go.Proofs.Tryz (prog)
namespace Pa
theorem aW{a b:Bool}(h:a=b):Ending.returned (.bool a)=.returned (.bool b):=by rw[h]
theorem aV{k:IntKind}{a b:Int}(h:a=b):Ending.returned (.int k a)=.returned (.int k b):=by rw[h]
def errV (n:Int):Value:=if n=0 then .nilIface else .iface 59 (.int .i64 n)
theorem bW(n:Int)(w:World):
  Calls prog 129 #[.int .i64 n] w fun e w'=>e=.returned (.bool (Pm.isWho n))/\w'=w:=by
 go_in;go_wp2
 all_goals
  go_ret;exact⟨aW (by first | (simp[Pm.isWho, *];done) | (simp only[Pm.isWho];rw[decide_eq_false (by omega)];rfl)),rfl⟩
variable {b:List UInt8}(s t a:ByteArray)(w:World)
theorem iG(h:0<s.size):s.toList.getLast?.getD 0=s[s.size-1]'(by omega):=by
 rw[ByteArray.toList_eq,yS];have:s.data.toList.length=s.size:=rfl;rw[this,qB (by rw[this];omega)];rfl
theorem eI(h:0<s.size)(hs:s.size<=maxLen):
  Calls prog 165 #[.string s] w fun e w'=>e=.returned (.int .i64 (Pm.whoOf s.toList))/\w'=w:=by
 have a:=iG s h;have b:(s[s.size-1]'(by omega)).toNat<256:=jX _
 have H:Hid (Pm.whoOf s.toList=((s[s.size-1]'(by omega)).toNat:Int)-97):=by
  unfold Pm.whoOf Hid;rw[a]
 clear a;unfold maxLen at hs;go_in;go_wp2;go_ret;refine⟨aV ?_,rfl⟩;rw[H.out]
theorem aFc{t a:List UInt8}(h:¬(Op.bytesLess t a=false/\¬t=a)):false=Pm.inside t a b:=by
 unfold Pm.inside;by_cases c:Op.bytesLess t a=false
 ·have e:t=a:=by
   by_cases d:t=a
   ·exact d
   ·exact absurd ⟨c,d⟩ h
  subst e;simp
 ·simp at c;simp[c]
theorem aCe{t a:List UInt8}(h:Op.bytesLess t a=false/\¬t=a):(!t==a&&(b.isEmpty||Op.bytesLess t b))=Pm.inside t a b:=by
 unfold Pm.inside;rw[h.1];simp
theorem aCU{t a:List UInt8}(h:Op.bytesLess t a=false/\¬t=a)(hb:b=[]):(!t==a)=Pm.inside t a b:=by
 unfold Pm.inside;rw[h.1,hb];simp
theorem iI(b:ByteArray)(w:World):
  Calls prog 188 #[.string t,.string a,.string b] w fun e w'=>e=.returned (.bool (Pm.inside t.toList a.toList b.toList))/\w'=w:=by
 go_in;go_wp2
 case _=>
  go_ret;exact⟨aW (aCU (by assumption) (by assumption)),rfl⟩
 case _=>
  go_ret;exact⟨aW (aCe (by assumption)),rfl⟩
 case _=>
  go_ret;exact⟨aW (aFc (by assumption)),rfl⟩
theorem aFs(h:a.size<=t.size):((t.extract 0 a.size).toList==a.toList)=a.toList.isPrefixOf t.toList:=by
 have b:(t.extract 0 a.size).toList=t.toList.take a.toList.length:=by
  rw[ByteArray.toList_eq,ByteArray.toList_eq,ByteArray.toList_eq,yD,Array.toList_extract,List.extract_eq_take_drop];show((t.data.toList.drop 0).take (a.size-0))=t.data.toList.take a.data.toList.length
  rw[Nat.sub_zero,yQ];rfl
 rw[b,xP,beq_iff_eq,List.isPrefixOf_iff_prefix];constructor
 ·intro h2;rw[<-h2];exact List.take_prefix _ _
 ·intro h2;exact(List.prefix_iff_eq_take.1 h2).symm
theorem aF8(h:¬a.size<=t.size):false=a.toList.isPrefixOf t.toList:=by
 symm;rw[Bool.eq_false_iff];intro h1;have b:=(List.isPrefixOf_iff_prefix.1 h1).length_le;rw[ByteArray.toList_eq,ByteArray.toList_eq] at b;exact h b
theorem sP(ht:t.size<=maxLen)(ha:a.size<=maxLen):
  Calls prog 197 #[.string t,.string a] w fun e w'=>e=.returned (.bool (a.toList.isPrefixOf t.toList))/\w'=w:=by
 unfold maxLen at ht ha;go_in;go_wp2
 all_goals
  go_ret;refine⟨aW ?_,rfl⟩;first | exact aFs t a (by assumption) | exact aF8 t a (by assumption)
theorem gV(ht:t.size<=maxLen)(ha:a.size<=maxLen):
  Calls prog 189 #[.string t,.string a] w fun e w'=>e=.returned (.bool (a.toList.isPrefixOf t.toList))/\w'=w:=by
 go_in;go_wp2_with (go_at_call 197;refine(sP _ _ _ ht ha).mono ?_;rintro e w' ⟨rfl,rfl⟩);go_ret;exact⟨rfl,rfl⟩
theorem jA(b:ByteArray)(w:World)(ht:t.size≤maxLen)(ha:a.size≤maxLen):
  Calls prog 175 #[.string t,.string a,.string b] w fun e w'=>e=.returned (.bool (Pm.may t.toList a.toList b.toList))∧w'=w:=by
 cases hin:Pm.inside t.toList a.toList b.toList
 all_goals
  go_in
  go_wp2_with (first | (go_at_call 188;refine(iI _ _ _ _).mono ?_;rintro e w' ⟨rfl,rfl⟩) | (go_at_call 189;refine(gV _ _ _ ha ht).mono ?_;rintro e w' ⟨rfl,rfl⟩))
  go_ret
  exact⟨aW (by simp[Pm.may,hin]),rfl⟩
theorem aDK(h:0<s.size):(s.toList.getLast? !=some 97)=(((s[s.size-1]'(by omega)).toNat:Int) !=97):=by
 have a:s.toList.getLast? =some (s.toList.getLast?.getD 0):=by
  cases h3:s.toList.getLast? with
  | none=>
   rw[List.getLast?_eq_none_iff,ByteArray.toList_eq] at h3
   have:s.data.toList.length=s.size:=rfl
   rw[h3] at this;simp at this;omega
  | some x=>rfl
 rw[a,(iG s h)]
 generalize s[s.size-1]'(by omega)=c
 rw[xP]
 simp only[bne_iff_ne,ne_eq,Option.some.injEq,<-yU]
 constructor
 ·intro h5 h6;apply h5;show c.toNat=97;omega
 ·intro h5 h6;apply h5;have:c.toNat=97:=h6;omega
theorem mW(b:ByteArray)(w:World)(h0:0<t.size)(ht:t.size≤maxLen)(hb:b.size≤maxLen):
  Calls prog 174 #[.string t,.string a,.string b] w fun e w'=>e=.returned (.bool (Pm.stem t.toList a.toList b.toList))∧w'=w:=by
 have hl:=aDK t h0
 have hm:=ht
 unfold maxLen at hm
 cases hin:Pm.inside t.toList a.toList b.toList
 case false=>
  clear hl
  go_in
  go_wp2_with (first | (go_at_call 188;refine(iI _ _ _ _).mono ?_;rintro e w' ⟨rfl,rfl⟩) | (go_at_call 189;refine(gV _ _ _ hb ht).mono ?_;rintro e w' ⟨rfl,rfl⟩))
  go_ret
  exact⟨aW (by simp[Pm.stem,hin]),rfl⟩
 case true=>
  cases hq:(((t[t.size-1]'(by omega)).toNat:Int) !=97)
  all_goals
   have H:Hid (Pm.stem t.toList a.toList b.toList=(((t[t.size-1]'(by omega)).toNat:Int) !=97 && !(t.toList.isPrefixOf b.toList))):=by
    unfold Pm.stem Hid;rw[hin,hl];rfl
   clear hl
   go_in
   go_wp2_with (first | (go_at_call 188;refine(iI _ _ _ _).mono ?_;rintro e w' ⟨rfl,rfl⟩) | (go_at_call 189;refine(gV _ _ _ hb ht).mono ?_;rintro e w' ⟨rfl,rfl⟩))
   go_ret
   exact⟨aW (by rw[H.out,(z9 hq).out];rfl),rfl⟩
theorem fP(k:Nat)(h:k<s.size):s.toList.take (k+1)=s.toList.take k++[s[k]]:=by
 rw[ByteArray.toList_eq,yB (by simpa using h)];rfl
theorem fM(c:UInt8):Pm.isLet c=(!(decide ((c.toNat:Int)<97)||decide (122<(c.toNat:Int)))):=by
 rw[xP];simp[Pm.isLet];omega
theorem bP(hs:s.size<=maxLen):
  Calls prog 164 #[.string s] w fun e w'=>e=.returned (.bool (s.toList.all Pm.isLet))/\w'=w:=by
 unfold maxLen at hs;go_in;go_wp2;go_loop [6] (fun i=>∃k:Nat,k<=s.size/\i=zI k/\(s.toList.take k).all Pm.isLet=true) (fun i=>s.size-(intOf i).toNat)
 case atStart=>exact⟨0,jW _,rfl,by simp⟩
 case round=>
  obtain⟨k,n,rfl,a⟩:=hrel;by_cases g:k<s.size
  ·have h:=fP s k g;have o:s[k].toNat<256:=jX _
   have j:Hid (∀c,s.toList.all c=((s.toList.take (k+1)).all c&&(s.toList.drop (k+1)).all c)):=by
    intro c;rw[<-yM,xD]
   have d:Hid ((s.toList.take (k+1)).all Pm.isLet=Pm.isLet s[k]):=by
    unfold Hid;rw[h,yM,a];simp
   have f:Hid (Pm.isLet s[k]=(!(decide ((s[k].toNat:Int)<97)||decide (122<(s[k].toNat:Int))))):=fM _;clear h a;by_cases l:(s[k].toNat:Int)<97
   ·go_wp2;go_ret;exact⟨aW (by rw[j.out,d.out,f.out,decide_eq_true l];rfl),rfl⟩
   ·by_cases m:122<(s[k].toNat:Int)
    ·go_wp2;go_ret;exact⟨aW (by rw[j.out,d.out,f.out,decide_eq_true m,Bool.or_true];rfl),rfl⟩
    ·go_wp2;go_round
     case rel=>exact⟨k+1,by omega,by go_num,by rw[d.out,f.out,decide_eq_false l,decide_eq_false m];rfl⟩
     case measure=>simp[intOf];omega
  ·have d:Hid (s.toList.all Pm.isLet=true):=by
    unfold Hid;rw[qW (by rw[ByteArray.toList_eq];show s.size<=k;omega)] at a;exact a
   clear a;go_wp2;go_ret;exact⟨aW d.out.symm,rfl⟩
end Pa
namespace Pb
open Pa
variable {b:Int}(s:ByteArray)(w:World)
theorem aJ:s.toList.length=s.size:=by rw[ByteArray.toList_eq];rfl
theorem cJ{a:Int}(h:a=b)(hb:b≠0):Ending.returned (.iface 59 (.int .i64 a))=.returned (errV b):=by
 rw[errV,if_neg hb,h]
theorem iU(hb:b=0):Ending.returned .nilIface=.returned (errV b):=by
 rw[errV,if_pos hb]
theorem hU(h:2<=s.size):(s.toList.dropLast.getLast? ==some 97)=(((s[s.size-2]'(by omega)).toNat:Int)==97):=by
 have b:s.toList.dropLast.getLast? =some (s[s.size-2]'(by omega)):=by
  rw[ByteArray.toList_eq,yS,List.length_dropLast];have a:s.data.toList.length=s.size:=rfl;rw[List.getElem?_dropLast,if_pos (by rw[a];omega),qB (by rw[a];omega)];have:s.data.toList.length-1-1=s.size-2:=by rw[a];omega
  simp only[this];rfl
 rw[b];generalize s[s.size-2]'(by omega)=c;rw[xP];simp only[beq_iff_eq,Option.some.injEq,<-yU];constructor
 ·intro h6;have:c.toNat=97:=h6;omega
 ·intro h6;show c.toNat=97;omega
theorem cQ(hs:s.size≤maxLen):
  Calls prog 139 #[.string s] w fun e w'=>e=.returned (errV (Pm.chk s.toList))∧w'=w:=by
 have hm:=hs
 unfold maxLen at hm
 have hl:=aJ s
 by_cases h1:12<s.size
 ·have H:Hid (Pm.chk s.toList=4):=by unfold Hid Pm.chk;rw[hl,if_pos h1]
  clear hl
  go_in
  go_wp2
  go_ret
  exact⟨cJ H.out.symm (by rw[H.out];decide),rfl⟩
 by_cases h2:s.size<2
 ·have H:Hid (Pm.chk s.toList=2):=by unfold Hid Pm.chk;rw[hl,if_neg h1,if_pos h2]
  clear hl
  go_in
  go_wp2
  go_ret
  exact⟨cJ H.out.symm (by rw[H.out];decide),rfl⟩
 cases h3:s.toList.all Pm.isLet
 ·have H:Hid (Pm.chk s.toList=2):=by unfold Hid Pm.chk;rw[hl,if_neg h1,if_neg h2,h3];rfl
  have H3:=z9 h3
  clear hl
  go_in
  go_wp2_with (go_at_call 164;refine(bP _ _ hs).mono ?_;rintro e w' ⟨rfl,rfl⟩;rw[H3.out])
  go_ret
  exact⟨cJ H.out.symm (by rw[H.out];decide),rfl⟩
 have H3:=z9 h3
 have hc:=hU s (by omega)
 have hq:s.size-2<s.size:=by clear hl hc;omega
 cases h4:(((s[s.size-2]'hq).toNat:Int)==97)
 ·rw[h4] at hc
  cases h5:Pm.isWho (Pm.whoOf s.toList)
  ·have H:Hid (Pm.chk s.toList=2):=by unfold Hid Pm.chk;rw[hl,if_neg h1,if_neg h2,h3,hc,h5];rfl
   have H5:=z9 h5
   clear hl hc h3 h5
   go_in
   go_wp2_with (first | (go_at_call 164;refine(bP _ _ hs).mono ?_;rintro e w' ⟨rfl,rfl⟩;rw[H3.out]) | (go_at_call 165;refine(eI _ _ (by omega) hs).mono ?_;rintro e w' ⟨rfl,rfl⟩) | (go_at_call 129;refine(bW _ _).mono ?_;rintro e w' ⟨rfl,rfl⟩;rw[H5.out]))
   go_ret
   exact⟨cJ H.out.symm (by rw[H.out];decide),rfl⟩
  ·have H:Hid (Pm.chk s.toList=0):=by unfold Hid Pm.chk;rw[hl,if_neg h1,if_neg h2,h3,hc,h5];rfl
   have H5:=z9 h5
   clear hl hc h3 h5
   go_in
   go_wp2_with (first | (go_at_call 164;refine(bP _ _ hs).mono ?_;rintro e w' ⟨rfl,rfl⟩;rw[H3.out]) | (go_at_call 165;refine(eI _ _ (by omega) hs).mono ?_;rintro e w' ⟨rfl,rfl⟩) | (go_at_call 129;refine(bW _ _).mono ?_;rintro e w' ⟨rfl,rfl⟩;rw[H5.out]))
   go_ret
   exact⟨iU H.out,rfl⟩
 ·rw[h4] at hc
  have H:Hid (Pm.chk s.toList=2):=by unfold Hid Pm.chk;rw[hl,if_neg h1,if_neg h2,h3,hc];rfl
  clear hl hc h3
  go_in
  go_wp2_with (first | (go_at_call 164;refine(bP _ _ hs).mono ?_;rintro e w' ⟨rfl,rfl⟩;rw[H3.out]))
  go_ret
  exact⟨cJ H.out.symm (by rw[H.out];decide),rfl⟩
theorem gF(hs:s.size<=maxLen)(h:Pm.chk s.toList=0):
  Calls prog 139 #[.string s] w fun e w'=>e=.returned .nilIface/\w'=w:=by
 refine(cQ s w hs).mono ?_;rintro e w' ⟨rfl,rfl⟩;exact⟨by rw[errV,if_pos h],rfl⟩
theorem lL(hs:s.size<=maxLen)(h:Pm.chk s.toList≠0):
  Calls prog 139 #[.string s] w fun e w'=>e=.returned (.iface 59 (.int .i64 (Pm.chk s.toList)))/\w'=w:=by
 refine(cQ s w hs).mono ?_;rintro e w' ⟨rfl,rfl⟩;exact⟨by rw[errV,if_neg h],rfl⟩
theorem lE(a b:ByteArray)(w:World)(ha:a.size<=maxLen)(hb:b.size<=maxLen):
  Calls prog 155 #[.string a,.string b] w fun e w'=>e=.returned (errV (Pm.sides a.toList b.toList))/\w'=w:=by
 cases ea:a.toList.isEmpty<;>cases eb:b.toList.isEmpty
 all_goals
  have c:=ea;have f:=eb;simp only[List.isEmpty_iff,List.isEmpty_eq_false_iff] at c f
 ·by_cases d:Pm.chk a.toList=0
  ·by_cases g:Pm.chk b.toList=0
   ·cases h3:Op.bytesLess a.toList b.toList
    ·have H:Hid (Pm.sides a.toList b.toList=3):=by unfold Hid Pm.sides;simp[c,f,d,g,h3]
     have h:=z9 d;have i:=z9 g;clear d g c f;go_in;go_wp2_with fail;refine(gF a _ ha h.out).mono ?_;rintro e w' ⟨rfl,rfl⟩;go_wp2_with fail;refine(gF b _ hb i.out).mono ?_;rintro e w' ⟨rfl,rfl⟩;go_wp2_with fail;go_ret;exact⟨cJ H.out.symm (by rw[H.out];decide),rfl⟩
    ·have H:Hid (Pm.sides a.toList b.toList=0):=by unfold Hid Pm.sides;simp[c,f,d,g,h3]
     have h:=z9 d;have i:=z9 g;clear d g c f;go_in;go_wp2_with fail;refine(gF a _ ha h.out).mono ?_;rintro e w' ⟨rfl,rfl⟩;go_wp2_with fail;refine(gF b _ hb i.out).mono ?_;rintro e w' ⟨rfl,rfl⟩;go_wp2_with fail;go_ret;exact⟨iU H.out,rfl⟩
   ·have H:Hid (Pm.sides a.toList b.toList=Pm.chk b.toList):=by unfold Hid Pm.sides;simp[c,f,d,g]
    have h:=z9 d;have i:=z9 g;clear d g c f;go_in;go_wp2_with fail;refine(gF a _ ha h.out).mono ?_;rintro e w' ⟨rfl,rfl⟩;go_wp2_with fail;refine(lL b _ hb i.out).mono ?_;rintro e w' ⟨rfl,rfl⟩;go_wp2_with fail;go_ret;exact⟨cJ H.out.symm (by rw[H.out];exact i.out),rfl⟩
  ·have H:Hid (Pm.sides a.toList b.toList=Pm.chk a.toList):=by unfold Hid Pm.sides;simp[c,d]
   have h:=z9 d;clear d c f;go_in;go_wp2_with fail;refine(lL a _ ha h.out).mono ?_;rintro e w' ⟨rfl,rfl⟩;go_wp2_with fail;go_ret;exact⟨cJ H.out.symm (by rw[H.out];exact h.out),rfl⟩
 ·by_cases d:Pm.chk a.toList=0
  ·have H:Hid (Pm.sides a.toList b.toList=0):=by unfold Hid Pm.sides;simp[c,f,d]
   have h:=z9 d;clear d c f;go_in;go_wp2_with fail;refine(gF a _ ha h.out).mono ?_;rintro e w' ⟨rfl,rfl⟩;go_wp2_with fail;go_ret;exact⟨iU H.out,rfl⟩
  ·have H:Hid (Pm.sides a.toList b.toList=Pm.chk a.toList):=by unfold Hid Pm.sides;simp[c,d]
   have h:=z9 d;clear d c f;go_in;go_wp2_with fail;refine(lL a _ ha h.out).mono ?_;rintro e w' ⟨rfl,rfl⟩;go_wp2_with fail;go_ret;exact⟨cJ H.out.symm (by rw[H.out];exact h.out),rfl⟩
 ·by_cases g:Pm.chk b.toList=0
  ·have H:Hid (Pm.sides a.toList b.toList=0):=by unfold Hid Pm.sides;simp[c,f,g]
   have i:=z9 g;clear g c f;go_in;go_wp2_with fail;refine(gF b _ hb i.out).mono ?_;rintro e w' ⟨rfl,rfl⟩;go_wp2_with fail;go_ret;exact⟨iU H.out,rfl⟩
  ·have H:Hid (Pm.sides a.toList b.toList=Pm.chk b.toList):=by unfold Hid Pm.sides;simp[c,f,g]
   have i:=z9 g;clear g c f;go_in;go_wp2_with fail;refine(lL b _ hb i.out).mono ?_;rintro e w' ⟨rfl,rfl⟩;go_wp2_with fail;go_ret;exact⟨cJ H.out.symm (by rw[H.out];exact i.out),rfl⟩
 ·have H:Hid (Pm.sides a.toList b.toList=0):=by unfold Hid Pm.sides;simp[c,f]
  clear c f;go_in;go_wp2_with fail;go_ret;exact⟨iU H.out,rfl⟩
end Pb
namespace Pc
open Pa
def S (l:List UInt8):Value:=.string ⟨l.toArray⟩
theorem aI4:(prog.info? 9).map (fun i=>(i.zero,i.size,i.bytes))=some (some (.string ByteArray.empty),1,16):=by kernel_rfl
def R (B:Nat) (w:World) (xs ys:List (List UInt8)) (v1 v2:Value) (wr:World):Prop:=
 wr.ownsRow B 9 1 v1 xs.length (xs.map S)∧wr.ownsRow B 9 1 v2 ys.length (ys.map S)∧(v1.ownBlock=none∨v1.ownBlock≠v2.ownBlock)∧Below B w wr∧B≤wr.heap.size
variable {v1 v2 v':Value}{B:Nat}{wr w1:World}{xs ys l:List (List UInt8)}{o:Obj}{t:List UInt8}{p:List UInt8->Bool}(w:World)
theorem R.start:R w.heap.size w [] [] (.slice none 0 0) (.slice none 0 0) w:=
 ⟨jT _ _ _ _,jT _ _ _ _,qH rfl,qD _ _,qC _⟩
theorem aCt(h:v1.ownBlock=none\/v1.ownBlock≠v2.ownBlock):v2.ownBlock=none\/v2.ownBlock≠v1.ownBlock:=by
 rcases h with h | h
 ·cases h2:v2.ownBlock with
  | none=>exact qH rfl
  | some x=>exact qF (by rw[h];simp)
 ·exact qF (Ne.symm h)
theorem R.one{w:World}(h:R B w xs ys v1 v2 wr)(hown:w1.ownsRow B 9 1 v' (xs.length+1) (xs.map S++[S t]))(hg:(wr.alloc o).grownBy w1 v1.ownBlock)(hat:v'.ownBlock=v1.ownBlock\/v'.ownBlock=some (wr.alloc o).heap.size):R B w (xs++[t]) ys v' v2 w1:=by
 obtain⟨d,a,b,f,g⟩:=h;have i:wr.heap.size+1<=w1.heap.size:=by have:=hg.size;simpa using this
 have c:(wr.alloc o).heap.size=wr.heap.size+1:=by simp
 rw[c] at hat;refine⟨by simpa using hown,(a.alloc o).kept hg (aCt b), ?_,(f.alloc g o).grown hg (by simp;omega) (fun j hj=>(d.lt j hj).1),by omega⟩;rcases hat with hat | hat
 ·rw[hat];exact b
 ·right;rw[hat];intro e;have:=(a.lt _ e.symm).2;omega
theorem R.two{w:World}(h:R B w xs ys v1 v2 wr)(hown:w1.ownsRow B 9 1 v' (ys.length+1) (ys.map S++[S t]))(hg:(wr.alloc o).grownBy w1 v2.ownBlock)(hat:v'.ownBlock=v2.ownBlock\/v'.ownBlock=some (wr.alloc o).heap.size):R B w xs (ys++[t]) v1 v' w1:=by
 obtain⟨a,d,b,f,g⟩:=h
 have i:wr.heap.size+1<=w1.heap.size:=by have:=hg.size;simpa using this
 have c:(wr.alloc o).heap.size=wr.heap.size+1:=by simp
 rw[c] at hat
 refine⟨(a.alloc o).kept hg b,by simpa using hown, ?_,(f.alloc g o).grown hg (by simp;omega) (fun j hj=>(d.lt j hj).1),by omega⟩
 rcases hat with hat | hat
 ·rw[hat];exact b
 ·cases hv:v1.ownBlock with
  | none=>exact qH rfl
  | some x=>
   right;rw[hat];intro e
   have:=(a.lt x hv).2
   simp at e;omega
theorem tF(c:Int)(j:Nat)(h:c=97+j)(hj:j<26):Utf8.encode c=⟨#[UInt8.ofNat (97+j)]⟩:=by
 subst h;have a:Utf8.valid (97+(j:Int))=true:=by unfold Utf8.valid;simp;omega
 unfold Utf8.encode;simp only[a,if_true];have:(97+(j:Int)).toNat=97+j:=by omega
 rw[this,if_pos (by omega)]
theorem sJ(h:List UInt8)(x:UInt8):(⟨h.toArray⟩:ByteArray)++⟨#[x]⟩=⟨(h++[x]).toArray⟩:=by
 have:=ByteArray.mk_append_mk h [x];simpa using this
theorem mM(h:p t=true):(l++[t]).filter p=l.filter p++[t]:=by simp[h]
theorem oN(h:p t=false):(l++[t]).filter p=l.filter p:=by simp[h]
theorem aEw(ob cap:Nat)(os:List (List UInt8))(a b:ByteArray)(w:World)(ha:a.size<=maxLen)(hb:b.size<=maxLen)(hl:os.length<=1000000)(hz:∀k,k<os.length->(os.getD k []).length<=100)(hc:∀k,k<os.length->w.cell? ⟨ob,k,none⟩=some (S (os.getD k [])))(hob:ob<w.heap.size):
  Calls prog 156 #[.slice (some ⟨ob,0,none⟩) os.length cap,.string a,.string b] w fun e w'=>
   ∃v1 v2,e=.returned (.tuple #[v1,v2])/\R w.heap.size w (Pm.stems os a.toList b.toList) (Pm.longer os a.toList b.toList) v1 v2 w':=by
 obtain⟨P,Q,y,z,A⟩:=info_parts aI4;go_in;go_wp2;go_loopw [6,7,14] (fun v1 v2 i wr=>∃k:Nat,k<=os.length/\i=zI k/\R w.heap.size w ((Pm.cand os k 0).filter fun t=>Pm.stem t a.toList b.toList) ((Pm.cand os k 0).filter fun t=>Pm.may t a.toList b.toList) v1 v2 wr) (fun _ _ i _=>os.length-(intOf i).toNat)
 case atStart=>exact⟨0,jW _,rfl,by rw[Pm.aCL];exact R.start w⟩
 case round=>
  obtain⟨k,hk,rfl,K⟩:=hrel;by_cases B:k<os.length
  ·have C:wr.cell? ⟨ob,k,none⟩=some (S (os.getD k [])):=(K.2.2.2.1.cell hob).trans (hc k B);have L:=hz k B;obtain⟨g,D⟩:=zx (os.getD k []);have Y:=z9 D;rw[<-D] at C L;clear D hc hz;unfold S at C;obtain⟨f,s⟩:∃f:ByteArray,f=⟨g.toArray⟩:=⟨_,rfl⟩;have ah:f.size<=100:=by rw[s];exact L
   rw[<-s] at C;have HH:=z9 s;clear s;go_wp2;go_loopw [6,7,10] (fun v1 v2 i ws=>∃c:Int,∃j:Nat,Hid (c=97+j)/\97<=c/\c<=123/\i=.int .i32 c/\R w.heap.size w ((Pm.cand os k j).filter fun t=>Pm.stem t a.toList b.toList) ((Pm.cand os k j).filter fun t=>Pm.may t a.toList b.toList) v1 v2 ws) (fun _ _ i _=>123-(intOf i).toNat)
   case atStart=>exact⟨97,0,rfl,by omega,by omega,rfl,K⟩
   case round=>
    obtain⟨c,j,v,ai,hj,rfl,h⟩:=hrel;by_cases aj:c<=122
    ·have n:j<26:=by have:=v.out;omega
     have Z:=z9 (tF c j v.out n);obtain⟨X,hX⟩:∃X:ByteArray,Utf8.encode c=X:=⟨_,rfl⟩;have HX:Hid (X=⟨#[UInt8.ofNat (97+j)]⟩):=by unfold Hid;rw[<-hX];exact Z.out
     have ab:X.size=1:=by rw[HX.out];rfl
     have HT:Hid (f++X=⟨(g++[UInt8.ofNat (97+j)]).toArray⟩):=by unfold Hid;rw[HX.out,HH.out,sJ]
     have M:(f++X).size=f.size+1:=by rw[xZ,ab]
     have l:Hid ((f++X).toList=g++[UInt8.ofNat (97+j)]):=by unfold Hid;rw[HT.out,ByteArray.toList_mk]
     have T:Hid (Value.string (f++X)=S (g++[UInt8.ofNat (97+j)])):=by unfold Hid S;rw[HT.out]
     have N:=Pm.aHm os k j;have ak:((Pm.cand os k j).filter fun t=>Pm.stem t a.toList b.toList).length<=26*k+j:=qO (vQ _ _) N;have al:((Pm.cand os k j).filter fun t=>Pm.may t a.toList b.toList).length<=26*k+j:=qO (vQ _ _) N;have m:(f++X).size<=maxLen:=by rw[M];unfold maxLen;omega
     have F:0<(f++X).size:=by rw[M];omega
     have G:Hid (Pm.cand os k (j+1)=Pm.cand os k j++[g++[UInt8.ofNat (97+j)]]):=by
      unfold Hid;rw[Pm.aES os k j n,Y.out]
     cases h1:Pm.stem (f++X).toList a.toList b.toList<;>cases h2:Pm.may (f++X).toList a.toList b.toList
     case false.false=>
      have H:=z9 h1;have I:=z9 h2;have o:Hid (Pm.stem (g++[UInt8.ofNat (97+j)]) a.toList b.toList=false):=by unfold Hid;rw[<-l.out];exact h1
      have q:Hid (Pm.may (g++[UInt8.ofNat (97+j)]) a.toList b.toList=false):=by unfold Hid;rw[<-l.out];exact h2
      clear h1 h2;go_wp2_with (first | (go_at_call 174;refine(mW _ _ _ _ F m hb).mono ?_;rintro e w' ⟨rfl,J⟩;subst w';rw[H.out]) | (go_at_call 175;refine(jA _ _ _ _ m ha).mono ?_;rintro e w' ⟨rfl,J⟩;subst w';rw[I.out]));go_roundw
      case rel=>exact⟨c+1,j+1,by have:=v.out;unfold Hid;omega,by omega,by omega,rfl,by rw[G.out,oN (p:=fun t=>Pm.stem t a.toList b.toList) o.out,oN (p:=fun t=>Pm.may t a.toList b.toList) q.out];exact h⟩
      case measure=>simp[intOf];omega
     case false.true=>
      have H:=z9 h1;have I:=z9 h2;have o:Hid (Pm.stem (g++[UInt8.ofNat (97+j)]) a.toList b.toList=false):=by unfold Hid;rw[<-l.out];exact h1
      have q:Hid (Pm.may (g++[UInt8.ofNat (97+j)]) a.toList b.toList=true):=by unfold Hid;rw[<-l.out];exact h2
      clear h1 h2;go_wp2_with (first | (go_at_call 174;refine(mW _ _ _ _ F m hb).mono ?_;rintro e w' ⟨rfl,J⟩;subst w';rw[H.out]) | (go_at_call 175;refine(jA _ _ _ _ m ha).mono ?_;rintro e w' ⟨rfl,J⟩;subst w';rw[I.out]) | (at_builtin;refine wpList_append_own_at _ rfl (.tmp 38) (.tmp 40) 194 rfl w.heap.size 9 P (.string ByteArray.empty) 1 16 Tryz.underlying194 Q y z A rfl (by decide) u7 _ _ rfl (h.2.1.alloc _) (zW wr) 1 1 [.string (f++X)] rfl rfl (cell_one_new _ _ _) (by intro u hu;simp at hu;subst hu;rfl) (by unfold maxLen;omega) (by omega) (by have:=h.2.2.2.2;simp;omega) ?_;intro v' w1 hown' hgrow _ hat;have U:=h.two (t:=g++[UInt8.ofNat (97+j)]) (by rw[<-T.out];exact hown') hgrow hat;clear hown' hgrow hat));go_roundw
      case rel=>exact⟨c+1,j+1,by have:=v.out;unfold Hid;omega,by omega,by omega,rfl,by rw[G.out,oN (p:=fun t=>Pm.stem t a.toList b.toList) o.out,mM (p:=fun t=>Pm.may t a.toList b.toList) q.out];exact U⟩
      case measure=>simp[intOf];omega
     case true.false=>
      exact absurd h2 (by have:=Pm.aBq h1;rw[this];decide)
     case true.true=>
      have H:=z9 h1;have I:=z9 h2;have o:Hid (Pm.stem (g++[UInt8.ofNat (97+j)]) a.toList b.toList=true):=by unfold Hid;rw[<-l.out];exact h1
      have q:Hid (Pm.may (g++[UInt8.ofNat (97+j)]) a.toList b.toList=true):=by unfold Hid;rw[<-l.out];exact h2
      clear h1 h2;go_wp2_with (first | (go_at_call 174;refine(mW _ _ _ _ F m hb).mono ?_;rintro e w' ⟨rfl,J⟩;subst w';rw[H.out]) | (go_at_call 175;refine(jA _ _ _ _ m ha).mono ?_;rintro e w' ⟨rfl,J⟩;subst w';rw[I.out]) | (at_builtin;refine wpList_append_own_at _ rfl (.tmp 30) (.tmp 32) 194 rfl w.heap.size 9 P (.string ByteArray.empty) 1 16 Tryz.underlying194 Q y z A rfl (by decide) u6 _ _ rfl (h.1.alloc _) (zW wr) 1 1 [.string (f++X)] rfl rfl (cell_one_new _ _ _) (by intro u hu;simp at hu;subst hu;rfl) (by unfold maxLen;omega) (by omega) (by have:=h.2.2.2.2;simp;omega) ?_;intro v' w1 hown' hgrow _ hat;have V:=h.one (t:=g++[UInt8.ofNat (97+j)]) (by rw[<-T.out];exact hown') hgrow hat;clear hown' hgrow hat) | (at_builtin;refine wpList_append_own_at _ rfl (.tmp 38) (.tmp 40) 194 rfl w.heap.size 9 P (.string ByteArray.empty) 1 16 Tryz.underlying194 Q y z A rfl (by decide) u7 _ _ rfl (V.2.1.alloc _) (zW w1) 1 1 [.string (f++X)] rfl rfl (cell_one_new _ _ _) (by intro u hu;simp at hu;subst hu;rfl) (by unfold maxLen;omega) (by omega) (by have:=V.2.2.2.2;simp;omega) ?_;intro v'' w2 hown' hgrow _ hat;have U:=V.two (t:=g++[UInt8.ofNat (97+j)]) (by rw[<-T.out];exact hown') hgrow hat;clear hown' hgrow hat));go_roundw
      case rel=>exact⟨c+1,j+1,by have:=v.out;unfold Hid;omega,by omega,by omega,rfl,by rw[G.out,mM (p:=fun t=>Pm.stem t a.toList b.toList) o.out,mM (p:=fun t=>Pm.may t a.toList b.toList) q.out];exact U⟩
      case measure=>simp[intOf];omega
    ·have n:j=26:=by have:=v.out;omega
     subst n;have ad:=z9 (Pm.aF0 os k B);go_wp2;go_roundw
     case rel=>exact⟨k+1,by omega,by go_num,by rw[<-ad.out];exact h⟩
     case measure=>simp[intOf];omega
  ·have O:k=os.length:=by omega
   have HE:Hid (Pm.cand os k 0=Pm.exts os):=by unfold Hid;rw[O];exact Pm.aFW os
   clear O;go_wp2;go_ret2;refine⟨_,_,rfl, ?_⟩;rw[HE.out] at K;exact K
end Pc
namespace Pd
open Pa Pb Pc
theorem aBB{w:World}{B B':Nat}{v:Value}{n:Nat}{xs:List Value}(h:w.ownsRow B 9 1 v n xs)(hB:B'<=B):w.ownsRow B' 9 1 v n xs:=by
 refine⟨h.1, ?_⟩;rcases h.2 with h2 | ⟨g,cap,cur,h2,h3,h4⟩
 ·exact .inl h2
 ·exact .inr ⟨g,cap,cur,h2,by omega,h4⟩
variable (a b:ByteArray)(w:World)
theorem aFY:
  Calls prog 156 #[.slice none 0 0,.string a,.string b] w fun e w'=>
   ∃v1 v2,e=.returned (.tuple #[v1,v2])/\R w.heap.size w [] [] v1 v2 w':=by
 go_in;go_wp2;refine wp_loop_rounds 1 ?_;rw[rounds_succ];go_wp2;go_ret2;exact⟨_,_,rfl,R.start w⟩
theorem kY(B:Nat)(v:Value)(os:List (List UInt8))(a b:ByteArray)(w:World)(ha:a.size<=maxLen)(hb:b.size<=maxLen)(hl:os.length<=1000000)(hz:∀t ∈ os,t.length<=100)(hown:w.ownsRow B 9 1 v os.length (os.map S)):
  Calls prog 156 #[v,.string a,.string b] w fun e w'=>
   ∃v1 v2,e=.returned (.tuple #[v1,v2])/\R w.heap.size w (Pm.stems os a.toList b.toList) (Pm.longer os a.toList b.toList) v1 v2 w':=by
 rcases hown.2 with⟨rfl,h0⟩ | ⟨g,cap,cur,rfl,_,hg,_⟩
 ·have:os=[]:=qK h0;subst this;exact aFY a b w
 ·refine aEw g cap os a b w ha hb hl ?_ ?_ ?_
  ·intro k hk;have e:os.getD k []=os[k]:=by rw[qA,qB hk];rfl
   rw[e];exact hz _ (jF hk)
  ·intro k hk;have e:os.getD k []=os[k]:=by rw[qA,qB hk];rfl
   rw[e];have:=hown.cells (g:=g) rfl k (S os[k]) (by rw[qT,qB hk];rfl)
   have d:((zA g):Addr).add k=⟨g,k,none⟩:=by
    unfold Addr.add;by_cases h:k=0<;>simp[h]
   rw[d] at this;exact this
  ·rcases xR g w.heap.size with h | h
   ·exact h
   ·rw[jQ h] at hg;cases hg
theorem uO(ha:a.size<=maxLen)(hb:b.size<=maxLen)(h:Pm.sides a.toList b.toList=0):
  Calls prog 155 #[.string a,.string b] w fun e w'=>e=.returned .nilIface/\w'=w:=by
 refine(lE a b w ha hb).mono ?_;rintro e w' ⟨rfl,rfl⟩;exact⟨by rw[errV,if_pos h],rfl⟩
theorem sU(ha:a.size<=maxLen)(hb:b.size<=maxLen)(h:Pm.sides a.toList b.toList≠0):
  Calls prog 155 #[.string a,.string b] w fun e w'=>e=.returned (.iface 59 (.int .i64 (Pm.sides a.toList b.toList)))/\w'=w:=by
 refine(lE a b w ha hb).mono ?_;rintro e w' ⟨rfl,rfl⟩;exact⟨by rw[errV,if_neg h],rfl⟩
theorem aEn(ha:a.size<=maxLen)(hb:b.size<=maxLen)(h:Pm.sides a.toList b.toList≠0):
  Calls prog 130 #[.string a,.string b] w fun e w'=>e=.returned (.tuple #[.slice none 0 0,.iface 59 (.int .i64 (Pm.sides a.toList b.toList))])/\w'=w:=by
 have H:=z9 h;clear h;go_in;go_wp2_with (go_at_call 155;refine(sU _ _ _ ha hb H.out).mono ?_;rintro e w' ⟨rfl,rfl⟩);go_ret2;exact⟨rfl,rfl⟩
def Found (a b:List UInt8) (w:World) (e:Ending) (w':World):Prop:=
  Below w.heap.size w w'∧
  ((∃st v,Pm.search a b 11 [[]]=some st∧e=.returned (.tuple #[v,.nilIface])∧w'.ownsRow w.heap.size 9 1 v st.length (st.map S))∨
   (Pm.search a b 11 [[]]=none∧e=.returned (.tuple #[.slice none 0 0,.iface 59 (.int .i64 8)])))
theorem aID(k:Nat)(h:k<=11):3^k<=177147:=by
 have:3^k<=3^11:=Nat.pow_le_pow_right (by omega) h;simpa using this
theorem aBH(ha:a.size<=maxLen)(hb:b.size<=maxLen)(h:Pm.sides a.toList b.toList=0):
  Calls prog 130 #[.string a,.string b] w (Found a.toList b.toList w):=by
 have H:=z9 h;clear h;go_in;go_wp2_with (go_at_call 155;refine(uO _ _ _ ha hb H.out).mono ?_;rintro e w' ⟨rfl,X⟩;subst w');go_loopw [7,8,16] (fun vo vs i wr=>∃k:Nat,∃c,k<=11/\i=zI k/\c.length<=3^k/\Pm.Flat k c/\wr.ownsRow w.heap.size 9 1 vo c.length (c.map S)/\zB w wr/\w.heap.size<=wr.heap.size/\Hid (Pm.search a.toList b.toList 11 [[]]=Pm.search a.toList b.toList (11-k) c)) (fun _ _ i _=>11-(intOf i).toNat)
 case atStart=>
  refine⟨0,[[]],by omega,rfl,by simp,Pm.Flat.start, ?_,(qD _ _).alloc (qC _) _,by simp,rfl⟩;exact⟨by simp,.inr ⟨w.heap.size,1,_,rfl,qC _,heap_alloc_new w _,qC _,by unfold maxLen;omega,rfl,rfl⟩⟩
 case round=>
  obtain⟨k,c,O,rfl,G,f,q,n,o,r⟩:=hrel;by_cases T:k<11
  ·have Y:=aID k O;have J:∀t ∈ c,t.length<=100:=fun t ht=>by have:=(f t ht).1;omega
   have I:Hid (11-k=(10-k)+1):=by unfold Hid;omega
   go_wp2_with fail;refine(kY w.heap.size _ c a b _ ha hb (by omega) J q).mono ?_;rintro e w1 ⟨Z,v2,rfl,P⟩;obtain⟨hR1,hR2,_,C,D⟩:=P;have s:zB w w1:=n.trans (C.mono o);have E:w.heap.size<=w1.heap.size:=qO o D;have hR1':=aBB hR1 o;have hR2':=aBB hR2 o
   have HM:Hid (Pm.stems c a.toList b.toList=[]->Pm.search a.toList b.toList 11 [[]]=Pm.search a.toList b.toList (11-(k+1)) (Pm.longer c a.toList b.toList)):=by
    intro h;rw[r.out,I.out,Pm.lC h,show 11-(k+1)=10-k from by omega]
   have j:Hid (Pm.stems c a.toList b.toList≠[]->Pm.search a.toList b.toList 11 [[]]=some (Pm.stems c a.toList b.toList)):=by
    intro h;rw[r.out,I.out,Pm.mS h]
   have z:Hid (Pm.stems c a.toList b.toList=[]->(Pm.longer c a.toList b.toList).length<=3^(k+1)):=by
    intro h;have:=Pm.aEa c a.toList b.toList h;rw[Nat.pow_succ];omega
   have v:Pm.Flat (k+1) (Pm.longer c a.toList b.toList):=f.longer;obtain⟨A,m⟩:=zx (Pm.stems c a.toList b.toList);obtain⟨K,p⟩:=zx (Pm.longer c a.toList b.toList);rw[<-m,<-p] at HM;rw[<-m] at j;rw[<-m,<-p] at z;rw[<-m] at hR1';rw[<-p] at hR2' v;clear hR1 hR2 m p C D q f G J n r I;rcases Nat.eq_zero_or_pos A.length with h0 | h0
   ·have B:A=[]:=qK h0;have L:=HM.out B;have HM':=z9 L;have M:=z.out B;clear HM L j z;rcases hR1'.2 with⟨rfl,_⟩ | ⟨g,cap,cur,rfl,_⟩
    ·clear hR1' h0 B;go_wp2_with fail;go_roundw
     case rel=>exact⟨k+1,K,by omega,by go_num,M,v,hR2',s,E,HM'⟩
     case measure=>simp[intOf];omega
    ·rw[h0];clear hR1' h0 B;go_wp2_with fail;go_roundw
     case rel=>exact⟨k+1,K,by omega,by go_num,M,v,hR2',s,E,HM'⟩
     case measure=>simp[intOf];omega
   ·have F:A≠[]:=by intro h;rw[h] at h0;simp at h0
    have N:=j.out F;have Q:=z9 N;clear HM N j z F;rcases hR1'.2 with⟨rfl,h1⟩ | ⟨g,cap,cur,rfl,_⟩
    ·omega
    ·go_wp2_with fail;go_ret2;exact⟨s,qH ⟨A,_,Q.out,rfl,hR1'⟩⟩
  ·have y:k=11:=by omega
   have R:Hid (Pm.search a.toList b.toList 11 [[]]=none):=by
    unfold Hid;rw[r.out,y];rfl
   clear r y;go_wp2;go_ret2;exact⟨n,qF ⟨R.out,rfl⟩⟩
end Pd
namespace Pe
open Pa Pc Pd
theorem lP{w:World}{B:Nat}{v:Value}{st:List (List UInt8)}(h:w.ownsRow B 9 1 v st.length (st.map S))(hn:0<st.length):
  ∃g cap,v=.slice (some ⟨g,0,none⟩) st.length cap/\st.length<=9223372036854775807/\∀k,k<st.length->w.cell? ⟨g,k,none⟩=some (S (st.getD k [])):=by
 rcases h.2 with⟨_,h0⟩ | ⟨g,cap,cur,hv,_,hg,h1,h2,_⟩
 ·omega
 ·refine⟨g,cap,hv,by unfold maxLen at h2;omega, ?_⟩;intro k hk;have e:st.getD k []=st[k]:=by rw[qA,qB hk];rfl
  rw[e];subst hv;have:=h.cells (g:=g) rfl k (S st[k]) (by rw[qT,qB hk];rfl)
  have a:((zA g):Addr).add k=⟨g,k,none⟩:=by
   unfold Addr.add;by_cases h:k=0<;>simp[h]
  rw[a] at this;exact this
theorem aAG(a b:ByteArray)(n:Int)(w:World)(ha:a.size<=maxLen)(hb:b.size<=maxLen):
  Calls prog 100 #[.string a,.string b,.int .i64 n] w fun e w'=>e=.returned (.tuple #[S (Pm.betText a.toList b.toList n),errV (Pm.betErr a.toList b.toList n)])/\zB w w':=by
 cases c:Pm.isWho n with
 | false=>
  have i:Hid (Pm.betText a.toList b.toList n=[]):=by unfold Hid Pm.betText;simp[c]
  have j:Hid (Pm.betErr a.toList b.toList n=1):=by unfold Hid Pm.betErr;simp[c]
  have p:=z9 c
  clear c
  go_in
  go_wp2_with (go_at_call 129;refine(bW _ _).mono ?_;rintro e w' ⟨rfl,c⟩;subst w';rw[p.out])
  go_ret2
  exact⟨by rw[i.out,j.out];rfl,qD _ _⟩
 | true=>
  have z:1<=n/\n<=8:=by simpa[Pm.isWho] using c
  obtain⟨N,O⟩:=z
  have p:=z9 c
  by_cases h:Pm.sides a.toList b.toList=0
  ·cases hs:Pm.search a.toList b.toList 11 [[]] with
   | none=>
    have i:Hid (Pm.betText a.toList b.toList n=[]):=by unfold Hid Pm.betText;simp[c,h,hs]
    have j:Hid (Pm.betErr a.toList b.toList n=8):=by unfold Hid Pm.betErr Pm.roomErr;simp[c,h,hs]
    have s:=z9 hs
    have H:=z9 h
    clear h hs c
    go_in
    go_wp2_with (go_at_call 129;refine(bW _ _).mono ?_;rintro e w' ⟨rfl,c⟩;subst w';rw[p.out])
    refine(aBH _ _ _ ha hb H.out).mono ?_
    rintro e w1 ⟨k,⟨st,v,f,_⟩ | ⟨_,rfl⟩⟩
    ·rw[s.out] at f;cases f
    ·go_wp2_with fail
     go_ret2
     exact⟨by rw[i.out,j.out];rfl,k⟩
   | some st=>
    obtain⟨D,m,P,Q,t,_⟩:=Pm.eG 11 0 [[]] st Pm.Flat.start hs
    have K:0<st.length:=by cases st with
     | nil=>exact absurd rfl D
     | cons _ _=>simp
    have A:(st.length-1)/4<st.length:=by omega
    have E:(Pm.pick st).length<=11:=by
     have e:Pm.pick st=st[(st.length-1)/4]:=by unfold Pm.pick;rw[qA,qB A];rfl
     rw[e]
     have:=(t _ (jF A)).1
     omega
    have i:Hid (Pm.betText a.toList b.toList n=Pm.pick st++[UInt8.ofNat (97+n.toNat)]):=by unfold Hid Pm.betText;simp[c,h,hs]
    have j:Hid (Pm.betErr a.toList b.toList n=0):=by unfold Hid Pm.betErr Pm.roomErr;simp[c,h,hs]
    have s:=z9 hs
    have H:=z9 h
    clear h hs t c
    go_in
    go_wp2_with (go_at_call 129;refine(bW _ _).mono ?_;rintro e w' ⟨rfl,c⟩;subst w';rw[p.out])
    refine(aBH _ _ _ ha hb H.out).mono ?_
    rintro e w1 ⟨k,⟨st',v,f,rfl,q⟩ | ⟨f,_⟩⟩
    ·rw[s.out] at f
     simp only[Option.some.injEq] at f
     subst f
     obtain⟨g,R,rfl,T,F⟩:=lP q K
     have r:=F _ A
     unfold S at r
     have y:w1.cell? ⟨g,(st.length-1)/4,none⟩=some (.string ⟨(Pm.pick st).toArray⟩):=r
     generalize L:Pm.pick st=x at y E i
     obtain⟨B,l⟩:∃B:ByteArray,B=⟨x.toArray⟩:=⟨_,rfl⟩
     have U:B.size<=11:=by rw[l];exact E
     rw[<-l] at y
     have G:=z9 l
     obtain⟨X,M⟩:∃X:ByteArray,Utf8.encode (97+n)=X:=⟨_,rfl⟩
     have I:Hid (X=⟨#[UInt8.ofNat (97+n.toNat)]⟩):=by
      unfold Hid;rw[<-M];exact tF (97+n) n.toNat (by omega) (by omega)
     have V:X.size=1:=by rw[I.out];rfl
     clear F r L l q
     go_wp2_with fail
     go_ret2
     refine⟨?_,k⟩
     rw[i.out,j.out,S,<-sJ,<-G.out,<-I.out]
     rfl
    ·rw[s.out] at f;cases f
  ·have i:Hid (Pm.betText a.toList b.toList n=[]):=by unfold Hid Pm.betText;simp[h]
   have j:Hid (Pm.betErr a.toList b.toList n=Pm.sides a.toList b.toList):=by unfold Hid Pm.betErr Pm.roomErr;simp[h,c]
   have H:=z9 h
   clear h c
   go_in
   go_wp2_with (first | (go_at_call 129;refine(bW _ _).mono ?_;rintro e w' ⟨rfl,c⟩;subst w';rw[p.out]) | (go_at_call 130;refine(aEn _ _ _ ha hb H.out).mono ?_;rintro e w' ⟨rfl,c⟩;subst w'))
   go_ret2
   exact⟨by rw[i.out,j.out,errV,if_neg H.out];rfl,qD _ _⟩
end Pe
end Go.Proofs.YtjcemlmlfoilmaaGreatDoor
