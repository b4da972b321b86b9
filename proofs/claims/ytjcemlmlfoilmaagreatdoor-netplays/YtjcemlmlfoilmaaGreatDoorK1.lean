import Derived.Test.YtjcemlmlfoilmaaGreatDoorJ3
set_option linter.unusedVariables false
set_option maxRecDepth 100000
set_option maxHeartbeats 8000000
namespace Go.Proofs.YtjcemlmlfoilmaaGreatDoor
open Go.RowKit Bm La Lf Lc Lh Lj
open Go.Proofs.Tryz (prog)
namespace Lp
open Ka Kb
theorem nO{s:ByteArray}(h12:¬12<s.size)(hall:s.toList.all Pm.isLet=true)(h2:2<=s.size):
  Pm.chk s.toList=if((s[s.size-1]'(by omega)).toNat:Int)<98 then 2 else if 105<((s[s.size-1]'(by omega)).toNat:Int) then 2 else if(((s[s.size-2]'(by omega)).toNat:Int)==97)=true then 2 else 0:=by
 have c:=iG s (by omega);unfold Pm.chk;rw[(aJ s),if_neg h12,if_neg (by omega),hall,(hU s h2)]
 have d:Pm.isWho (Pm.whoOf s.toList)=(decide (98<=((s[s.size-1]'(by omega)).toNat:Int))&&decide (((s[s.size-1]'(by omega)).toNat:Int)<=105)):=by
  unfold Pm.isWho Pm.whoOf;rw[c];rw[xP];simp;omega
 rw[d];generalize ((s[s.size-1]'(by omega)).toNat:Int)=x;generalize (((s[s.size-2]'(by omega)).toNat:Int)==97)=y;by_cases a:x<98
 ·rw[if_pos a,decide_eq_false (by omega)];cases y<;>simp
 ·rw[if_neg a,decide_eq_true (by omega)];by_cases b:105<x
  ·rw[if_pos b,decide_eq_false (by omega)];cases y<;>simp
  ·rw[if_neg b,decide_eq_true (by omega)];cases y<;>simp
theorem bM(s:ByteArray)(w:World)(hs:s.size≤maxLen):
  Calls prog 120 #[.string s] w fun e w'=>e=.returned (.int .i64 (Pm.chk s.toList))∧w'=w:=by
 have hl:=aJ s
 have hm:=hs
 unfold maxLen at hm
 by_cases h12:12<s.size
 ·have H:Hid (Pm.chk s.toList=4):=by unfold Hid Pm.chk;rw[hl,if_pos h12]
  clear hl
  go_in
  go_wp2
  go_ret
  exact⟨aV H.out.symm,rfl⟩
 ·have HB:Hid (s.toList.all Pm.isLet=false→Pm.chk s.toList=2):=by
   intro h3;unfold Pm.chk;rw[hl,if_neg h12,h3];simp
  have HL:Hid (s.size<2→Pm.chk s.toList=2):=by
   intro h3;unfold Pm.chk;rw[hl,if_neg h12,if_pos h3]
  clear hl
  go_in
  go_wp2
  go_loop [4] (fun i=>∃k:Nat,k≤s.size∧i=zI k∧Hid ((s.toList.take k).all Pm.isLet=true)) (fun i=>s.size-(intOf i).toNat)
  case atStart=>exact⟨0,jW _,rfl,by unfold Hid;simp⟩
  case round=>
   obtain⟨k,hk,rfl,HA⟩:=hrel
   by_cases hlt:k<s.size
   ·have hb:s[k].toNat<256:=jX _
    have HA1:Hid ((s.toList.take (k+1)).all Pm.isLet=Pm.isLet s[k]):=by
     unfold Hid;rw[fP s k hlt,yM,HA.out];simp
    have HA2:Hid (∀c,s.toList.all c=((s.toList.take (k+1)).all c&&(s.toList.drop (k+1)).all c)):=by
     intro c;rw[←yM,xD]
    have HLt:Hid (Pm.isLet s[k]=(!(decide ((s[k].toNat:Int)<97)||decide (122<(s[k].toNat:Int))))):=fM _
    by_cases h1:(s[k].toNat:Int)<97
    ·have H:=z9 (HB.out (by rw[HA2.out,HA1.out,HLt.out,decide_eq_true h1];rfl))
     go_wp2
     go_ret
     exact⟨aV H.out.symm,rfl⟩
    ·by_cases h2:122<(s[k].toNat:Int)
     ·have H:=z9 (HB.out (by rw[HA2.out,HA1.out,HLt.out,decide_eq_true h2,Bool.or_true];rfl))
      go_wp2
      go_ret
      exact⟨aV H.out.symm,rfl⟩
     ·go_wp2
      go_round
      case rel=>exact⟨k+1,by omega,by go_num,by unfold Hid;rw[HA1.out,HLt.out,decide_eq_false h1,decide_eq_false h2];rfl⟩
      case measure=>simp[intOf];omega
   ·have HAll:Hid (s.toList.all Pm.isLet=true):=by
     have:=HA.out
     unfold Hid;rwa [qW (by rw[aJ];omega)] at this
    by_cases h2:s.size<2
    ·have H:=z9 (HL.out h2)
     go_wp2
     go_ret
     exact⟨aV H.out.symm,rfl⟩
    ·have hq1:s.size-1<s.size:=by omega
     have hq2:s.size-2<s.size:=by omega
     have HC:=nO h12 HAll.out (by omega:2≤s.size)
     have HC':=z9 HC
     clear HC
     by_cases h3:((s[s.size-1]'hq1).toNat:Int)<98
     ·have H:Hid (Pm.chk s.toList=2):=by unfold Hid;rw[HC'.out,if_pos h3]
      go_wp2
      go_ret
      exact⟨aV H.out.symm,rfl⟩
     ·by_cases h4:105<((s[s.size-1]'hq1).toNat:Int)
      ·have H:Hid (Pm.chk s.toList=2):=by unfold Hid;rw[HC'.out,if_neg h3,if_pos h4]
       go_wp2
       go_ret
       exact⟨aV H.out.symm,rfl⟩
      ·cases h5:(((s[s.size-2]'hq2).toNat:Int)==97)
       ·have H:Hid (Pm.chk s.toList=0):=by unfold Hid;rw[HC'.out,if_neg h3,if_neg h4,h5];rfl
        go_wp2
        go_ret
        exact⟨aV H.out.symm,rfl⟩
       ·have H:Hid (Pm.chk s.toList=2):=by unfold Hid;rw[HC'.out,if_neg h3,if_neg h4,h5];rfl
        go_wp2
        go_ret
        exact⟨aV H.out.symm,rfl⟩
theorem dG(n:Int)(w:World):
  Calls prog 41 #[.int .i64 n] w fun e w'=>e=.returned (.bool (isL n))/\w'=w:=by
 go_in;go_wp2
 all_goals
  go_ret;exact⟨aW (by first | (simp[isL, *];done) | (simp only[isL];rw[decide_eq_false (by omega)];rfl)),rfl⟩
theorem gZ(s:ByteArray)(n:Int)(b:Bool)(w:World):
  Calls prog 36 #[.agg #[.string s,.int .i64 n,.bool b]] w fun e w'=>e=.returned (.bool (isS (s,n,b)))/\zB w w':=by
 have a:Hid (n=0->isS (s,n,b)=false):=by intro h;unfold isS;rw[h];rfl
 have c:Hid (isS (s,n,b)=(n !=0 && !b)):=rfl
 go_in
 go_wp2
 all_goals
  go_ret
  refine⟨aW ?_,zb w _⟩
  first
   | (rw[a.out (by assumption)];done)
   | (rw[c.out];done)
end Lp
namespace Mb
open Le Lp
variable (q:Option Addr)(n c:Nat)(l:List Leaf)(w:World)
theorem gA(hl:l.length=n)(h:LeafsIn w q l)(ho:∀x ∈ l,x.2.1=0\/isL x.2.1=true)(hn:n<=1048576):
  Calls prog 14 #[.slice q n c] w fun e w'=>e=.returned (.string ⟨(text l).toArray⟩)/\zB w w':=by
 have B:=z9 hl;have X:=z9 h;have Y:=z9 ho;obtain⟨Z,hi,K,L,M⟩:=info_parts aA3;clear hl h ho;go_in;go_wp2;go_loopw [3,4,5] (fun v i _ wr=>∃(k:Nat),k<=n/\i=zI k/\Hid (wr.ownsRow w.heap.size 5 1 v (text (l.take k)).length (bc (text (l.take k))))/\Hid (zB w wr)) (fun _ i _ _=>n-(intOf i).toNat)
 case atStart=>exact⟨0,by omega,rfl,jT _ _ _ _,qD _ _⟩
 case round=>
  obtain⟨k,hk,rfl,y,z⟩:=hrel;by_cases N:k<n
  ·have ab:(k:Int)<n:=by omega
   obtain⟨b,o,rfl,A⟩:=X.out.some (by intro e;have:=B.out;rw[e] at this;simp at this;omega);have g:k<l.length:=by rw[B.out];exact N
   have D:=z9 (A k g);have O:=(A k g).below z.out (A k g).lt;have j:=Y.out _ (cC g);have p:=z9 (uT g)
   have P:(text (l.take k)).length<=1048576:=by
    have h1:=iX (l.take k);rw[qQ] at h1;omega
   obtain⟨x,Q⟩:=zx (l.getD k none0);rw[<-Q] at O j p D;obtain⟨E,r,F⟩:=x;obtain⟨G,H,I⟩:=O;clear A Q;simp only at G H I j;have C:=gZ E r F wr;obtain⟨tx,s⟩:=zx (text (l.take k));rw[<-s] at y p P;cases hse:isS (E,r,F)
   ·rw[hse] at C p
    have R:Hid (wr.ownsRow w.heap.size 5 1 u3 (text (l.take (k+1))).length (bc (text (l.take (k+1))))):=by
     unfold Hid;rw[p.out];exact y.out
    clear hse s j;go_wp2_with fail;refine C.mono ?_;rintro e w2 ⟨rfl,a⟩;have d:=z9 (bel z.out a);have m:=z9 (own_below R.out a);clear a C G H I;go_wp2_with fail;go_roundw
    case rel=>exact⟨k+1,by omega,by go_num,m,d⟩
    case measure=>simp[intOf];omega
   ·rw[hse] at C p
    have t:isL r=true:=by
     rcases j with e | e
     ·unfold isS at hse;rw[e] at hse;simp at hse
     ·exact e
    have S:=sB t;have T:=z9 (rZ (x:=(E,r,F)) t);clear hse s j t;obtain⟨ad,ae,af⟩:=S;go_wp2_with fail;refine C.mono ?_;rintro e w2 ⟨rfl,a⟩;have d:=z9 (bel z.out a);have d2:=(D.out.below d.out D.out.lt).2.1;simp only at d2;have m:=z9 (own_below y.out a);clear a C G H I;go_wp2_with (at_builtin;refine wpList_append_own_at _ rfl (.tmp 18) (.tmp 25) 86 rfl w.heap.size 5 Z (.int .u8 0) 1 1 Tryz.underlying86 hi K L M rfl (by decide) u3 _ _ rfl (m.out.alloc _) (zW w2) 1 1 [.int .u8 r] rfl rfl (cell_one_new _ _ _) (by intro u hu;simp at hu;subst hu;rfl) (by unfold maxLen;omega) (by omega) (by have:=d.out.size;simp;omega) ?_;intro v' w3 hown' hgrow _ hat;have U:Hid (zB w w3):=(aS m.out (d.out.alloc d.out.size _) hgrow (by have:=d.out.size;simp;omega));have V:Hid (w3.ownsRow w.heap.size 5 1 v' (text (l.take (k+1))).length (bc (text (l.take (k+1))))):=(by unfold Hid;rw[p.out];exact aDA T.out hown');clear hown' hgrow hat);go_roundw
    case rel=>exact⟨k+1,by omega,by go_num,V,U⟩
    case measure=>simp[intOf];omega
  ·obtain rfl:k=n:=by omega
   have ah:(convert 86 9 u3).run prog wr=.ok (.string ⟨(text l).toArray⟩) wr:=by
    have:=aAF y.out;rwa [qW (by rw[B.out];exact qC _)] at this
   go_wp2_with fail;go_ret;exact⟨rfl,z.out⟩
theorem lV(f:Int)(w:World)(hl:l.length=n)(h:LeafsIn w q l)(hn:n<=1048576)(hf:0<=f):
  Calls prog 69 #[.slice q n c,.int .i64 f] w fun e w'=>e=.returned (.int .i64 (nth l 0 f))/\zB w w':=by
 have B:=z9 hl;have P:=z9 h;clear hl h;go_in;go_wp2;go_loopw [5,6,7] (fun m i _ wr=>∃(k:Nat) (a:Int),k<=n/\i=zI k/\m=zI a/\Hid (0<=a/\a<=k/\a<=f/\nth (l.drop k) k (f-a)=nth l 0 f)/\Hid (zB w wr)) (fun _ i _ _=>n-(intOf i).toNat)
 case atStart=>exact⟨0,0,by omega,rfl,rfl,⟨by omega,by omega,hf,by rw[yQ,Int.sub_zero]⟩,qD _ _⟩
 case round=>
  obtain⟨k,a,V,rfl,rfl,F,t⟩:=hrel;by_cases G:k<n
  ·have Q:(k:Int)<n:=by omega
   obtain⟨b,o,rfl,D⟩:=P.out.some (by intro e;have:=B.out;rw[e] at this;simp at this;omega);have v:k<l.length:=by rw[B.out];exact G
   have H:=(D k v).below t.out (D k v).lt;have r:Hid (nth (l.drop k) k (f-a)=if isS (l.getD k none0) then(if f-a=0 then(k:Int) else nth (l.drop (k+1)) (k+1) (f-a-1)) else nth (l.drop (k+1)) (k+1) (f-a)):=aGB v _;obtain⟨x,I⟩:=zx (l.getD k none0);rw[<-I] at H r;obtain⟨J,K,L⟩:=x;obtain⟨R,S,T⟩:=H;clear D I;simp only at R S T;obtain⟨M,U,N,p⟩:=F.out;have C:=gZ J K L wr;cases hse:isS (J,K,L)
   ·rw[hse] at C r;have y:Hid (0<=a/\a<=((k+1:Nat):Int)/\a<=f/\nth (l.drop (k+1)) (k+1) (f-a)=nth l 0 f):=⟨M,by omega,N,by rw[<-p,r.out];rfl⟩;clear r hse p;go_wp2_with fail;refine C.mono ?_;rintro e w2 ⟨rfl,g⟩;have s:=z9 (bel t.out g);clear g C;go_wp2_with fail;go_roundw
    case rel=>exact⟨k+1,a,by omega,by go_num,rfl,y,s⟩
    case measure=>simp[intOf];omega
   ·rw[hse] at C r;by_cases z:a=f
    ·have E:Hid (nth l 0 f=(k:Int)):=by unfold Hid;rw[<-p,r.out,if_pos rfl,if_pos (by omega)]
     have O:(a==f)=true:=by simpa using z
     clear r hse p z;go_wp2_with fail;refine C.mono ?_;rintro e w2 ⟨rfl,g⟩;have s:=z9 (bel t.out g);clear g C;go_wp2_with fail;go_ret;exact⟨by rw[E.out];rfl,s.out⟩
    ·have y:Hid (0<=a+1/\a+1<=((k+1:Nat):Int)/\a+1<=f/\nth (l.drop (k+1)) (k+1) (f-(a+1))=nth l 0 f):=⟨by omega,by omega,by omega,by rw[<-p,r.out,if_pos rfl,if_neg (by omega),show f-(a+1)=f-a-1 by omega]⟩;have O:(a==f)=false:=by simpa using z
     clear r hse p;go_wp2_with fail;refine C.mono ?_;rintro e w2 ⟨rfl,g⟩;have s:=z9 (bel t.out g);clear g C;go_wp2_with fail;go_roundw
     case rel=>exact⟨k+1,a+1,by omega,by go_num,by go_num,y,s⟩
     case measure=>simp[intOf];omega
  ·obtain rfl:k=n:=by omega
   have E:Hid (nth l 0 f= -1):=by
    unfold Hid;rw[<-F.out.2.2.2,xM (by rw[B.out];exact qC _)];rfl
   go_wp2_with fail;go_ret;exact⟨by rw[E.out];rfl,t.out⟩
theorem aBZ:∀{l:List Leaf} {p:List UInt8} {k:Nat},k<=l.length->(∀j,j<k->Op.bytesLess (l.getD j none0).1.toList p=true)->(k<l.length->Op.bytesLess (l.getD k none0).1.toList p=false)->ahd l p=k
 | [],p,k,hk,_,_=>by simp at hk;subst hk;rfl
 | x::l,p,0,_,_,h=>by
  have:=h (by simp)
  have e:Op.bytesLess x.1.toList p=false:=this
  simp[ahd,e]
 | x::l,p,k+1,hk,h1,h2=>by
  have e:Op.bytesLess x.1.toList p=true:=h1 0 (by omega)
  have ih:=aBZ (l:=l) (p:=p) (k:=k) (by simpa using hk) (fun j hj=>h1 (j+1) (by omega)) (fun hj=>h2 (by simpa using hj))
  have e2:ahd (x::l) p=ahd l p+1:=by simp[ahd,e]
  rw[e2,ih]
theorem wS(p:ByteArray)(w:World)(hl:l.length=n)(h:LeafsIn w q l)(hn:n<=1048576):
  Calls prog 122 #[.slice q n c,.string p] w fun e w'=>e=.returned (.int .i64 (ahd l p.toList))/\w'=w:=by
 have d:=z9 hl;have z:=z9 h;clear hl h;go_in;go_wp2;go_loop [5] (fun i=>∃(k:Nat),k<=n/\i=zI k/\Hid (∀j,j<k->Op.bytesLess (l.getD j none0).1.toList p.toList=true)) (fun i=>n-(intOf i).toNat)
 case atStart=>exact⟨0,by omega,rfl,fun j hj=>absurd hj (by omega)⟩
 case round=>
  obtain⟨k,C,rfl,f⟩:=hrel;by_cases r:k<n
  ·have A:(k:Int)<n:=by omega
   obtain⟨b,o,rfl,s⟩:=z.out.some (by intro e;have:=d.out;rw[e] at this;simp at this;omega);have t:k<l.length:=by rw[d.out];exact r
   have B:=(s k t).1;obtain⟨x,g⟩:=zx ((l.getD k none0).1);rw[<-g] at B;have v:=z9 g;clear s g;cases hr:Op.bytesLess x.toList p.toList
   ·have m:Hid (ahd l p.toList=k):=aBZ (by omega) f.out (fun _=>by rw[<-v.out];exact hr);go_wp2_with fail;go_ret;exact⟨by rw[m.out];rfl,rfl⟩
   ·have y:Hid (∀j,j<k+1->Op.bytesLess (l.getD j none0).1.toList p.toList=true):=by
     intro j hj;rcases jS.1 hj with h | rfl
     ·exact f.out j h
     ·rw[<-v.out];exact hr
    go_wp2_with fail;go_round
    case rel=>exact⟨k+1,by omega,by go_num,y⟩
    case measure=>simp[intOf];omega
  ·obtain rfl:k=n:=by omega
   have m:Hid (ahd l p.toList=k):=aBZ (by rw[d.out];exact qC _) f.out (fun h=>by rw[d.out] at h;omega);go_wp2_with fail;go_ret;exact⟨by rw[m.out];rfl,rfl⟩
end Mb
namespace Mc
variable (b o n c i:Nat)(l:List Leaf)(sx:ByteArray)(w:World)(nx:Int)(bx:Bool)
theorem nJ(x:Leaf)(t:TypeId):∀j u,(flat [x])[j]? =some u->(w.alloc (.cells #[.string x.1,.int .i64 x.2.1,.bool x.2.2] t)).cell? ((⟨w.heap.size,0,none⟩:Addr).add j)=some u:=by
 intro j u hu;have a:(w.alloc (.cells #[.string x.1,zI x.2.1,.bool x.2.2] t)).heap[w.heap.size]? =some (.cells #[.string x.1,zI x.2.1,.bool x.2.2] t):=heap_alloc_new w _;have e:flat [x]=[.string x.1,zI x.2.1,.bool x.2.2]:=rfl;rw[e] at hu;rw[jU,qY];simp only[World.cell?,a];simpa using hu
theorem cT{w:World}{base:Nat}{t:TypeId}{v:Value}{n m:Nat}{a b:List Leaf}(hn:a.length=n)(hm:b.length=m)(h:w.ownsRow base t 3 v (n+m) (flat a++flat b)):w.ownsRow base t 3 v (a++b).length (flat (a++b)):=by
 rw[qE,fE,hn,hm];exact h
theorem aGX(q:Option Addr)(n c:Nat)(i:Int)(sx:ByteArray)(nx:Int)(bx:Bool)(w:World)(h300:300<=n)(hn:n<=1048576):
  Calls prog 123 #[.slice q n c,.int .i64 i,.bool false,.agg #[.string sx,.int .i64 nx,.bool bx]] w fun e w'=>e=.returned (.tuple #[.slice none 0 0,.int .i64 4])/\zB w w':=by
 have a:(300:Int)<=n:=by omega
 go_in;go_wp2_with fail;go_ret2;exact⟨rfl,zb w _⟩
theorem aHg(w:World)(hl:l.length=n)(h:∀j,j<l.length->At w b o j (l.getD j none0))(hi:i<=n)(hn:n<300)(hc:n<=c)(hcm:c<=maxLen):
  Calls prog 123 #[.slice (some ⟨b,o,none⟩) n c,.int .i64 i,.bool false,.agg #[.string sx,.int .i64 nx,.bool bx]] w fun e w'=>∃v,e=.returned (.tuple #[v,.int .i64 0])/\BookNew w.heap.size w' v (l.take i++(sx,nx,bx)::l.drop i)/\zB w w':=by
 obtain⟨C,p,q,r,s⟩:=info_parts fH
 have Q:¬(300:Int)<=n:=by omega
 have O:(i:Int)<=n:=by omega
 have I:(i:Int)<=c:=by omega
 have D:=hcm
 unfold maxLen at D
 obtain⟨t,F⟩:∃t,(if c=i then some (⟨b,o,none⟩:Addr) else some ⟨b,o+i*3,none⟩)=some t:=by
  by_cases e:c=i
  ·exact⟨⟨b,o,none⟩,by rw[if_pos e]⟩
  ·exact⟨⟨b,o+i*3,none⟩,by rw[if_neg e]⟩
 have g:Hid (zB w (w.alloc (.cells #[.string sx,zI nx,.bool bx] 77))):=(qD _ w).alloc (qC _) _
 have J:Hid (∀W,zB w W->∀j u,(flat (l.take i))[j]? =some u->W.cell? ((⟨b,o,none⟩:Addr).add j)=some u):=by
  intro W hb j u hu
  have E:∀j,j<l.length->At W b o j (l.getD j none0):=fun j hj=>(h j hj).below hb (h j hj).lt
  rcases take_part (i:=i) (c:=c) (by omega) E with⟨e,_⟩ | ⟨ad2,c2,e,hc2⟩
  ·cases e
  ·injection e with e1 e2 e3
   injection e1 with e1
   rw[e1];exact hc2 j u hu
 have K:Hid (∀W,zB w W->∀j u,(flat (l.drop i))[j]? =some u->W.cell? (t.add j)=some u):=by
  intro W hb j u hu
  have E:∀j,j<l.length->At W b o j (l.getD j none0):=fun j hj=>(h j hj).below hb (h j hj).lt
  rcases drop_part hl (by omega) hc F E with⟨e,_⟩ | ⟨ad2,c2,e,hc2⟩
  ·cases e
  ·injection e with e1 e2 e3
   injection e1 with e1
   rw[e1];exact hc2 j u hu
 have a:Hid ((l.take i).length=i):=by unfold Hid;rw[qQ];omega
 have y:Hid ((l.drop i).length=n-i):=by unfold Hid;rw[xH,hl]
 clear hl h
 go_in
 go_wp2_with (first
  | (at_builtin;refine wpList_append_own_at _ rfl (.tmp 18) (.tmp 21) 47 rfl (w.alloc (.cells #[.string sx,zI nx,.bool bx] 77)).heap.size 77 C (.agg #[.string ⟨#[]⟩,zI 0,.bool false]) 3 32 Tryz.underlying47 p q r s rfl (by decide) (zS) 0 [] rfl (jT _ _ _ _) ⟨b,o,none⟩ i c (flat (l.take i)) rfl (by rw[aX,a.out]) (J.out _ g.out) (bF _) (by unfold maxLen;omega) (by omega) (qC _) ?_;intro v1 w1 hown1 hgrow1 _ hat1;have z:Hid (w1.ownsRow (w.alloc (.cells #[.string sx,zI nx,.bool bx] 77)).heap.size 77 3 v1 (l.take i).length (flat (l.take i))):=(by have G:=hown1;rw[qY,vC] at G;rw[a.out];exact G);have f:Hid (Below (w.alloc (.cells #[.string sx,zI nx,.bool bx] 77)).heap.size (w.alloc (.cells #[.string sx,zI nx,.bool bx] 77)) w1):=(qD _ _).grown hgrow1 (qC _) (fun k hk=>by cases hk);have d:=bC (x:=(sx,nx,bx)) f.out;simp only at d;obtain⟨L,M,N⟩:=d;clear hown1 hgrow1 hat1)
  | (at_builtin;refine wpList_append_own_at _ rfl (.tmp 23) (.tmp 25) 47 rfl (w.alloc (.cells #[.string sx,zI nx,.bool bx] 77)).heap.size 77 C (.agg #[.string ⟨#[]⟩,zI 0,.bool false]) 3 32 Tryz.underlying47 p q r s rfl (by decide) v1 _ _ rfl (z.out.alloc _) (zW w1) 1 1 (flat [(sx,nx,bx)]) rfl rfl (nJ w1 (sx,nx,bx) _) (bF _) (by have:=a.out;unfold maxLen;omega) (by have:=a.out;omega) (by have:=f.out.size;simp at this |-;omega) ?_;intro v2 w2 hown2 hgrow2 _ hat2;have A:=z9 (cT rfl rfl hown2);have m:Hid (Below (w.alloc (.cells #[.string sx,zI nx,.bool bx] 77)).heap.size (w.alloc (.cells #[.string sx,zI nx,.bool bx] 77)) w2):=aS z.out (f.out.alloc f.out.size _) hgrow2 (by have:=f.out.size;simp at this |-;omega);clear hown2 hgrow2 hat2 L M N)
  | (at_builtin;refine wpList_append_own_at _ rfl (.tmp 30) (.tmp 33) 47 rfl (w.alloc (.cells #[.string sx,zI nx,.bool bx] 77)).heap.size 77 C (.agg #[.string ⟨#[]⟩,zI 0,.bool false]) 3 32 Tryz.underlying47 p q r s rfl (by decide) v2 _ _ rfl A.out t (n-i) (c-i) (flat (l.drop i)) rfl (by rw[aX,y.out]) (K.out _ (bel g.out m.out)) (bF _) (by have:=a.out;unfold maxLen;simp;omega) (by have:=a.out;simp;omega) m.out.size ?_;intro v3 w3 hown3 hgrow3 _ hat3;have B:=z9 (cT rfl y.out hown3);have H:=z9 (bel g.out (aS A.out m.out hgrow3 m.out.size));clear hown3 hgrow3 hat3))
 go_ret2
 refine⟨_,rfl,⟨?_,(Lies.own B.out).mono g.out.size⟩,H.out⟩
 have:=own_at B.out
 rw[vJ] at this
 exact this
theorem aHt(w:World)(hl:l.length=n)(h:∀j,j<l.length->At w b o j (l.getD j none0))(hi:i<n)(hn:n<=300)(hc:n<=c)(hcm:c<=maxLen):
  Calls prog 123 #[.slice (some ⟨b,o,none⟩) n c,.int .i64 i,.bool true,.agg #[.string sx,.int .i64 nx,.bool bx]] w fun e w'=>∃v,e=.returned (.tuple #[v,.int .i64 0])/\BookNew w.heap.size w' v (l.take i++(sx,nx,bx)::l.drop (i+1))/\zB w w':=by
 obtain⟨C,p,q,r,s⟩:=info_parts fH
 have I:(i:Int)+1<=n:=by omega
 have Q:(i:Int)<=n:=by omega
 have J:(i:Int)<=c:=by omega
 have K:(i:Int)+1<=c:=by omega
 have D:=hcm
 unfold maxLen at D
 obtain⟨t,F⟩:∃t,(if c=(i+1) then some (⟨b,o,none⟩:Addr) else some ⟨b,o+(i+1)*3,none⟩)=some t:=by
  by_cases e:c=(i+1)
  ·exact⟨⟨b,o,none⟩,by rw[if_pos e]⟩
  ·exact⟨⟨b,o+(i+1)*3,none⟩,by rw[if_neg e]⟩
 have g:Hid (zB w (w.alloc (.cells #[.string sx,zI nx,.bool bx] 77))):=(qD _ w).alloc (qC _) _
 have L:Hid (∀W,zB w W->∀j u,(flat (l.take i))[j]? =some u->W.cell? ((⟨b,o,none⟩:Addr).add j)=some u):=by
  intro W hb j u hu
  have E:∀j,j<l.length->At W b o j (l.getD j none0):=fun j hj=>(h j hj).below hb (h j hj).lt
  rcases take_part (i:=i) (c:=c) (by omega) E with⟨e,_⟩ | ⟨ad2,c2,e,hc2⟩
  ·cases e
  ·injection e with e1 e2 e3
   injection e1 with e1
   rw[e1];exact hc2 j u hu
 have M:Hid (∀W,zB w W->∀j u,(flat (l.drop (i+1)))[j]? =some u->W.cell? (t.add j)=some u):=by
  intro W hb j u hu
  have E:∀j,j<l.length->At W b o j (l.getD j none0):=fun j hj=>(h j hj).below hb (h j hj).lt
  rcases drop_part hl (by omega) hc F E with⟨e,_⟩ | ⟨ad2,c2,e,hc2⟩
  ·cases e
  ·injection e with e1 e2 e3
   injection e1 with e1
   rw[e1];exact hc2 j u hu
 have a:Hid ((l.take i).length=i):=by unfold Hid;rw[qQ];omega
 have y:Hid ((l.drop (i+1)).length=n-(i+1)):=by unfold Hid;rw[xH,hl]
 clear hl h
 go_in
 go_wp2_with (first
  | (at_builtin;refine wpList_append_own_at _ rfl (.tmp 18) (.tmp 21) 47 rfl (w.alloc (.cells #[.string sx,zI nx,.bool bx] 77)).heap.size 77 C (.agg #[.string ⟨#[]⟩,zI 0,.bool false]) 3 32 Tryz.underlying47 p q r s rfl (by decide) (zS) 0 [] rfl (jT _ _ _ _) ⟨b,o,none⟩ i c (flat (l.take i)) rfl (by rw[aX,a.out]) (L.out _ g.out) (bF _) (by unfold maxLen;omega) (by omega) (qC _) ?_;intro v1 w1 hown1 hgrow1 _ hat1;have z:Hid (w1.ownsRow (w.alloc (.cells #[.string sx,zI nx,.bool bx] 77)).heap.size 77 3 v1 (l.take i).length (flat (l.take i))):=(by have G:=hown1;rw[qY,vC] at G;rw[a.out];exact G);have f:Hid (Below (w.alloc (.cells #[.string sx,zI nx,.bool bx] 77)).heap.size (w.alloc (.cells #[.string sx,zI nx,.bool bx] 77)) w1):=(qD _ _).grown hgrow1 (qC _) (fun k hk=>by cases hk);have d:=bC (x:=(sx,nx,bx)) f.out;simp only at d;obtain⟨N,O,P⟩:=d;clear hown1 hgrow1 hat1)
  | (at_builtin;refine wpList_append_own_at _ rfl (.tmp 23) (.tmp 25) 47 rfl (w.alloc (.cells #[.string sx,zI nx,.bool bx] 77)).heap.size 77 C (.agg #[.string ⟨#[]⟩,zI 0,.bool false]) 3 32 Tryz.underlying47 p q r s rfl (by decide) v1 _ _ rfl (z.out.alloc _) (zW w1) 1 1 (flat [(sx,nx,bx)]) rfl rfl (nJ w1 (sx,nx,bx) _) (bF _) (by have:=a.out;unfold maxLen;omega) (by have:=a.out;omega) (by have:=f.out.size;simp at this |-;omega) ?_;intro v2 w2 hown2 hgrow2 _ hat2;have A:=z9 (cT rfl rfl hown2);have m:Hid (Below (w.alloc (.cells #[.string sx,zI nx,.bool bx] 77)).heap.size (w.alloc (.cells #[.string sx,zI nx,.bool bx] 77)) w2):=aS z.out (f.out.alloc f.out.size _) hgrow2 (by have:=f.out.size;simp at this |-;omega);clear hown2 hgrow2 hat2 N O P)
  | (at_builtin;refine wpList_append_own_at _ rfl (.tmp 30) (.tmp 33) 47 rfl (w.alloc (.cells #[.string sx,zI nx,.bool bx] 77)).heap.size 77 C (.agg #[.string ⟨#[]⟩,zI 0,.bool false]) 3 32 Tryz.underlying47 p q r s rfl (by decide) v2 _ _ rfl A.out t (n-(i+1)) (c-(i+1)) (flat (l.drop (i+1))) rfl (by rw[aX,y.out]) (M.out _ (bel g.out m.out)) (bF _) (by have:=a.out;unfold maxLen;simp;omega) (by have:=a.out;simp;omega) m.out.size ?_;intro v3 w3 hown3 hgrow3 _ hat3;have B:=z9 (cT rfl y.out hown3);have H:=z9 (bel g.out (aS A.out m.out hgrow3 m.out.size));clear hown3 hgrow3 hat3))
 go_ret2
 refine⟨_,rfl,⟨?_,(Lies.own B.out).mono g.out.size⟩,H.out⟩
 have:=own_at B.out
 rw[vJ] at this
 exact this
end Mc
namespace Md
open Mc
theorem aEW(w:World)(o:Obj)(x:Leaf)(t:TypeId):∀j u,(flat [x])[j]? =some u->((w.alloc o).alloc (.cells #[.string x.1,.int .i64 x.2.1,.bool x.2.2] t)).cell? ((⟨w.heap.size+1,0,none⟩:Addr).add j)=some u:=by
 have e:(w.alloc o).heap.size=w.heap.size+1:=by simp
 have:=nJ (w.alloc o) x t;rw[e] at this;exact this
theorem aGi(sx:ByteArray)(nx:Int)(bx:Bool)(w:World):
  Calls prog 123 #[.slice none 0 0,.int .i64 0,.bool false,.agg #[.string sx,.int .i64 nx,.bool bx]] w fun e w'=>∃v,e=.returned (.tuple #[v,.int .i64 0])/\BookNew w.heap.size w' v [(sx,nx,bx)]/\zB w w':=by
 obtain⟨d,a,g,h,i⟩:=info_parts fH
 have b:Hid (zB w (w.alloc (.cells #[.string sx,zI nx,.bool bx] 77))):=zb w _
 have j:=fun W=>run_append_owned_none (P:=prog) (w:=W) w.heap.size 47 47 77 d 3 Tryz.underlying47 a (zS) 0 [] (jT W _ _ _)
 go_in
 go_wp2_with (first
  | (at_builtin;refine Lib.wpList_append_run _ rfl (.tmp 18) (.tmp 21) _ _ rfl _ _ rfl rfl _ _ (j _) ?_)
  | (at_builtin;refine wpList_append_own_at _ rfl (.tmp 23) (.tmp 25) 47 rfl (w.alloc (.cells #[.string sx,zI nx,.bool bx] 77)).heap.size 77 d (.agg #[.string ⟨#[]⟩,zI 0,.bool false]) 3 32 Tryz.underlying47 a g h i rfl (by decide) (zS) 0 [] rfl (jT _ _ _ _) (zV w) 1 1 (flat [(sx,nx,bx)]) rfl rfl (aEW w _ (sx,nx,bx) _) (bF _) (by unfold maxLen;omega) (by omega) (by simp) ?_;intro v2 w2 hown2 hgrow2 _ hat2;have c:=z9 hown2;have l:Hid (zB w w2):=(b.out.alloc b.out.size _).grown hgrow2 (by simp;omega) (fun k hk=>by cases hk);have f:=run_append_owned_none (P:=prog) (w:=w2) (w.alloc (.cells #[.string sx,zI nx,.bool bx] 77)).heap.size 47 47 77 d 3 Tryz.underlying47 a v2 _ _ c.out;clear hown2 hgrow2 hat2)
  | (at_builtin;refine Lib.wpList_append_run _ rfl (.tmp 30) (.tmp 33) _ _ rfl _ _ rfl rfl _ _ f ?_))
 go_ret2
 exact⟨_,rfl,⟨own_at c.out,(Lies.own c.out).mono b.out.size⟩,l.out⟩
theorem aD3(a:Addr)(c:Nat)(sx:ByteArray)(nx:Int)(bx:Bool)(w:World)(hcm:c<=maxLen):
  Calls prog 123 #[.slice (some a) 0 c,.int .i64 0,.bool false,.agg #[.string sx,.int .i64 nx,.bool bx]] w fun e w'=>∃v,e=.returned (.tuple #[v,.int .i64 0])/\BookNew w.heap.size w' v [(sx,nx,bx)]/\zB w w':=by
 obtain⟨q,f,g,h,i⟩:=info_parts fH
 unfold maxLen at hcm
 have A:(0:Int)<=c:=by omega
 have m:Hid (zB w (w.alloc (.cells #[.string sx,zI nx,.bool bx] 77))):=zb w _
 go_in
 go_wp2_with (first
  | (at_builtin;refine wpList_append_own_at _ rfl (.tmp 18) (.tmp 21) 47 rfl (w.alloc (.cells #[.string sx,zI nx,.bool bx] 77)).heap.size 77 q (.agg #[.string ⟨#[]⟩,zI 0,.bool false]) 3 32 Tryz.underlying47 f g h i rfl (by decide) (zS) 0 [] rfl (jT _ _ _ _) a 0 c [] rfl rfl (fun j u hu=>by simp at hu) (fun u hu=>by simp at hu) (by unfold maxLen;omega) (by omega) (qC _) ?_;intro v1 w1 hown1 hgrow1 _ hat1;have n:=z9 hown1;have b:Hid (Below (w.alloc (.cells #[.string sx,zI nx,.bool bx] 77)).heap.size (w.alloc (.cells #[.string sx,zI nx,.bool bx] 77)) w1):=(qD _ _).grown hgrow1 (qC _) (fun k hk=>by cases hk);have d:=bC (x:=(sx,nx,bx)) b.out;simp only at d;obtain⟨t,y,z⟩:=d;clear hown1 hgrow1 hat1)
  | (at_builtin;refine wpList_append_own_at _ rfl (.tmp 23) (.tmp 25) 47 rfl (w.alloc (.cells #[.string sx,zI nx,.bool bx] 77)).heap.size 77 q (.agg #[.string ⟨#[]⟩,zI 0,.bool false]) 3 32 Tryz.underlying47 f g h i rfl (by decide) v1 _ _ rfl (n.out.alloc _) (zW w1) 1 1 (flat [(sx,nx,bx)]) rfl rfl (nJ w1 (sx,nx,bx) _) (bF _) (by unfold maxLen;omega) (by omega) (by have:=b.out.size;simp at this |-;omega) ?_;intro v2 w2 hown2 hgrow2 _ hat2;have o:=z9 hown2;have l:Hid (Below (w.alloc (.cells #[.string sx,zI nx,.bool bx] 77)).heap.size (w.alloc (.cells #[.string sx,zI nx,.bool bx] 77)) w2):=aS n.out (b.out.alloc b.out.size _) hgrow2 (by have:=b.out.size;simp at this |-;omega);clear hown2 hgrow2 hat2 t y z)
  | (at_builtin;refine wpList_append_own_at _ rfl (.tmp 30) (.tmp 33) 47 rfl (w.alloc (.cells #[.string sx,zI nx,.bool bx] 77)).heap.size 77 q (.agg #[.string ⟨#[]⟩,zI 0,.bool false]) 3 32 Tryz.underlying47 f g h i rfl (by decide) v2 _ _ rfl o.out a 0 c [] rfl rfl (fun j u hu=>by simp at hu) (fun u hu=>by simp at hu) (by unfold maxLen;omega) (by omega) l.out.size ?_;intro v3 w3 hown3 hgrow3 _ hat3;have p:=z9 ((by have r:=hown3;rw[vY,vL] at r;exact r));have s:=z9 (bel m.out (aS o.out l.out hgrow3 l.out.size));clear hown3 hgrow3 hat3))
 go_ret2
 exact⟨_,rfl,⟨own_at p.out,(Lies.own p.out).mono m.out.size⟩,s.out⟩
theorem aIo(v:Value)(l:List Leaf)(i:Nat)(sx:ByteArray)(nx:Int)(bx:Bool)(w:World)(h:BookAt w v l)(hi:i<=l.length)(hn:l.length<=300):
  Calls prog 123 #[v,.int .i64 i,.bool false,.agg #[.string sx,.int .i64 nx,.bool bx]] w fun e w'=>∃v',e=.returned (.tuple #[v',.int .i64 (if 300<=l.length then 4 else 0)])/\BookNew w.heap.size w' v' (if 300<=l.length then[] else l.take i++(sx,nx,bx)::l.drop i)/\zB w w':=by
 obtain⟨p,c,rfl,j,q,f,k⟩:=h
 by_cases d:300<=l.length
 ·rw[if_pos d,if_pos d]
  refine(aGX p _ c i sx nx bx w d (by omega)).mono ?_
  rintro e w' ⟨rfl,r⟩
  exact⟨_,rfl,BookNew.nil _ _,r⟩
 ·rw[if_neg d,if_neg d]
  by_cases g:l=[]
  ·subst g
   obtain rfl:i=0:=by simpa using hi
   cases p with
   | none=>rw[k rfl];exact aGi sx nx bx w
   | some a=>exact aD3 a c sx nx bx w f
  ·obtain⟨b,o,rfl,m⟩:=j.some g
   exact aHg b o _ c i l sx nx bx w rfl m hi (by omega) q f
theorem aIt(v:Value)(l:List Leaf)(i:Nat)(sx:ByteArray)(nx:Int)(bx:Bool)(w:World)(h:BookAt w v l)(hi:i<l.length)(hn:l.length<=300):
  Calls prog 123 #[v,.int .i64 i,.bool true,.agg #[.string sx,.int .i64 nx,.bool bx]] w fun e w'=>∃v',e=.returned (.tuple #[v',.int .i64 0])/\BookNew w.heap.size w' v' (l.take i++(sx,nx,bx)::l.drop (i+1))/\zB w w':=by
 obtain⟨p,c,rfl,a,g,d,j⟩:=h;obtain⟨b,o,rfl,f⟩:=a.some (by rintro rfl;simp at hi);exact aHt b o _ c i l sx nx bx w rfl f hi hn g d
end Md
namespace Me
open Lg Lk Lp Mb Md
def wrL (l:List Leaf) (p:ByteArray) (c:Int):List Leaf:=if wrE l p c=0 then putL l p (wrX l p c) else[]
def stL (l:List Leaf) (p:ByteArray):List Leaf:=if putE l p=0 then putL l p (stX l p) else[]
theorem yX{l:List Leaf}{p:ByteArray}(hh:has l p.toList=false)(x:Leaf):putE l p=(if 300<=l.length then 4 else 0)/\(if putE l p=0 then putL l p x else[])=(if 300<=l.length then[] else l.take (ahd l p.toList)++x::l.drop (ahd l p.toList)):=by
 by_cases h:300<=l.length
 ·have e:putE l p=4:=by unfold putE;rw[if_pos ⟨hh,h⟩]
  rw[e,if_pos h,if_pos h];exact⟨rfl,rfl⟩
 ·have e:putE l p=0:=putE_zero.2 (qF (by omega));rw[e,if_neg h,if_neg h,if_pos rfl];exact⟨rfl,by unfold putL;rw[hh];rfl⟩
theorem aGU{l:List Leaf}{p:ByteArray}(hh:has l p.toList=true)(x:Leaf):putE l p=0/\(if putE l p=0 then putL l p x else[])=l.take (ahd l p.toList)++x::l.drop (ahd l p.toList+1):=by
 have e:=putE_zero.2 (qH hh);rw[e,if_pos rfl];exact⟨rfl,by unfold putL;rw[hh];rfl⟩
theorem iA(v:Value)(l:List Leaf)(p:ByteArray)(c:Int)(w:World)(h:BookAt w v l)(hb:bookE l=0):
  Calls prog 92 #[v,.string p,.int .i64 c] w fun e w'=>∃v',e=.returned (.tuple #[v',.int .i64 (wrE l p c)])/\BookNew w.heap.size w' v' (wrL l p c)/\zB w w':=by
 have A:=dO hb;have K:=nU (p:=p.toList) A.2.1;obtain⟨q,c0,hv,B,S,T,U⟩:=id h;have E:=z9 h;have F:=A.1;obtain⟨n,J⟩:∃n,l.length=n:=⟨_,rfl⟩;have y:=wS q n c0 l p w J B (by omega);have t:=fun W=>dG c W
 cases hc:isL c
 ·have HE:Hid (wrE l p c=1):=by unfold Hid wrE;rw[if_pos hc]
  have HL:Hid (wrL l p c=[]):=by unfold Hid wrL;rw[HE.out];rfl
  rw[hc] at t;rw[HE.out,HL.out];clear h hb A K B S T U J hv y HE HL hc F E;go_in;go_wp2_with fail;refine(t _).mono ?_;rintro e w2 ⟨rfl,a⟩;have d:=a.symm;subst d;clear a t;go_wp2_with fail;go_ret2;exact⟨_,rfl,BookNew.nil _ _,qD _ _⟩
 ·rw[hc] at t;cases hh:has l p.toList
  ·have C:leafAt l p=(p,0,false):=by unfold leafAt;rw[hh];rfl
   have k:wrE l p c=putE l p:=by unfold wrE;rw[if_neg (by rw[hc];decide),C];rfl
   have ab:wrX l p c=(p,c,false):=by unfold wrX;rw[C]
   have D:wrL l p c=(if putE l p=0 then putL l p (p,c,false) else[]):=by unfold wrL;rw[k,ab]
   rw[D,k,(yX hh (p,c,false)).2,(yX hh (p,c,false)).1];clear k ab D;have s:Hid (∀W,zB w W->Calls prog 123 #[v,zI (ahd l p.toList),.bool false,.agg #[.string p,zI c,.bool false]] W fun e w'=>∃v',e=.returned (.tuple #[v',zI (if 300<=l.length then 4 else 0)])/\BookNew W.heap.size w' v' (if 300<=l.length then[] else l.take (ahd l p.toList)++(p,c,false)::l.drop (ahd l p.toList))/\zB W w'):=fun W hbw=>aIo v l _ p c false W (E.out.below hbw) K F
   have f:Hid (zB w (w.alloc (.cells #[.string p,zI c,.bool false] 77))):=(qD _ w).alloc (qC _) _;obtain⟨R,hR⟩:=zx (if 300<=l.length then[] else l.take (ahd l p.toList)++(p,c,false)::l.drop (ahd l p.toList));obtain⟨z,hz⟩:∃z:Int,z=(if 300<=l.length then 4 else 0):=⟨_,rfl⟩;rw[<-hR,<-hz] at s |-;rw[J] at K F hv;subst hv;have L:=hh;unfold has at L;obtain⟨i,Y⟩:=zx (ahd l p.toList);rw[<-Y] at s y K L;clear hR hz;by_cases G:i<n
   ·have af:(i:Int)<n:=by omega
    obtain⟨b,o,rfl,M⟩:=B.some (by rintro rfl;simp at J;omega);obtain⟨Z,V,X⟩:=M i (by omega);rw[J,decide_eq_true G,yY] at L;obtain⟨x,P⟩:=zx (l.getD i none0);rw[<-P] at Z V X L;obtain⟨s0,n0,Q⟩:=x;simp only at Z V X L;clear h hb A B S T U J hh C Y M P E;go_in;go_wp2_with fail;refine(t _).mono ?_;rintro e w2 ⟨rfl,a⟩;have d:=a.symm;subst d;clear a t;go_wp2_with fail;refine y.mono ?_;rintro e w3 ⟨rfl,a⟩;have d:=a.symm;subst d;clear a y;go_wp2_with fail;refine(s.out _ (f.out)).mono ?_;rintro e w4 ⟨v4,rfl,m,r⟩;have H:=z9 (bel f.out r);have I:=z9 (m.mono f.out.size);clear m r;go_wp2_with fail;go_ret2;exact⟨_,rfl,I.out,H.out⟩
   ·have af:¬(i:Int)<n:=by omega
    clear h hb A B S T U J hh C Y E L;go_in;go_wp2_with fail;refine(t _).mono ?_;rintro e w2 ⟨rfl,a⟩;have d:=a.symm;subst d;clear a t;go_wp2_with fail;refine y.mono ?_;rintro e w3 ⟨rfl,a⟩;have d:=a.symm;subst d;clear a y;go_wp2_with fail;refine(s.out _ (f.out)).mono ?_;rintro e w4 ⟨v4,rfl,m,r⟩;have H:=z9 (bel f.out r);have I:=z9 (m.mono f.out.size);clear m r;go_wp2_with fail;go_ret2;exact⟨_,rfl,I.out,H.out⟩
  ·have G:ahd l p.toList<l.length:=by unfold has at hh;rw[qX,decide_eq_true_eq] at hh;exact hh.1
   have ag:=cX A.2.1 hh;have C:leafAt l p=l.getD (ahd l p.toList) none0:=by unfold leafAt;rw[hh];rfl
   obtain⟨b,o,rfl,M⟩:=B.some (by rintro rfl;simp at G);obtain⟨Z,V,X⟩:=M _ G;rw[<-C] at Z V X;obtain⟨x,P⟩:=zx (leafAt l p);rw[<-P] at Z V X ag;obtain⟨j,n0,Q⟩:=x;obtain⟨_,ai⟩:=ag;simp only at ai Z V X;subst ai;have s:Hid (∀W,zB w W->Calls prog 123 #[v,zI (ahd l j.toList),.bool true,.agg #[.string j,zI c,.bool Q]] W fun e w'=>∃v',e=.returned (.tuple #[v',zI 0])/\BookNew W.heap.size w' v' (l.take (ahd l j.toList)++(j,c,Q)::l.drop (ahd l j.toList+1))/\zB W w'):=fun W hbw=>aIt v l _ j c Q W (E.out.below hbw) G F
   have f:Hid (zB w (w.alloc (.cells #[.string j,zI c,.bool Q] 77))):=(qD _ w).alloc (qC _) _;obtain⟨R,hR⟩:=zx (l.take (ahd l j.toList)++(j,c,Q)::l.drop (ahd l j.toList+1));have N:=aGU hh (j,c,Q);rw[<-hR] at s N;rw[J] at K F hv G;subst hv;obtain⟨i,Y⟩:=zx (ahd l j.toList);rw[<-Y] at s y K Z V X G;have A2:=fun O=>nP w O _ _ V
   have A3:=fun O=>nP w O _ _ X
   have af:(i:Int)<n:=by omega
   clear hR;cases hcl:clash (j,n0,Q) c
   ·have k:wrE l j c=0:=by unfold wrE;rw[if_neg (by rw[hc];decide),<-P,hcl];exact N.1
    have D:wrL l j c=R:=by
     have ab:wrX l j c=(j,c,Q):=by unfold wrX;rw[<-P]
     unfold wrL;rw[k,if_pos rfl,ab];have:=N.2;rw[N.1,if_pos rfl] at this;exact this
    rw[k,D];clear h hb A B S T U J hh C Y M P E N k D hc;by_cases ah:n0=0
    ·subst ah;clear hcl;go_in;go_wp2_with fail;refine(t _).mono ?_;rintro e w2 ⟨rfl,a⟩;have d:=a.symm;subst d;clear a t;go_wp2_with fail;refine y.mono ?_;rintro e w3 ⟨rfl,a⟩;have d:=a.symm;subst d;clear a y;go_wp2_with fail;refine(s.out _ (f.out)).mono ?_;rintro e w4 ⟨v4,rfl,m,r⟩;have H:=z9 (bel f.out r);have I:=z9 (m.mono f.out.size);clear m r;go_wp2_with fail;go_ret2;exact⟨_,rfl,I.out,H.out⟩
    ·have ac:(n0 !=0)=true:=by simpa using ah
     have ap:c=n0:=by
      unfold clash at hcl;rw[xX] at hcl;rcases hcl with e | e
      ·rw[ac] at e;cases e
      ·have e2:n0=c:=by simpa using e
       exact e2.symm
     subst ap;clear hcl;go_in;go_wp2_with fail;refine(t _).mono ?_;rintro e w2 ⟨rfl,a⟩;have d:=a.symm;subst d;clear a t;go_wp2_with fail;refine y.mono ?_;rintro e w3 ⟨rfl,a⟩;have d:=a.symm;subst d;clear a y;go_wp2_with fail;refine(s.out _ (f.out)).mono ?_;rintro e w4 ⟨v4,rfl,m,r⟩;have H:=z9 (bel f.out r);have I:=z9 (m.mono f.out.size);clear m r;go_wp2_with fail;go_ret2;exact⟨_,rfl,I.out,H.out⟩
   ·have k:wrE l j c=7:=by unfold wrE;rw[if_neg (by rw[hc];decide),<-P,hcl];rfl
    have D:wrL l j c=[]:=by unfold wrL;rw[k];rfl
    rw[k,D];unfold clash at hcl;rw[qX] at hcl;obtain⟨ac,aq⟩:=hcl;simp only at ac aq;have ah:¬n0=0:=by simpa using ac
    clear h hb A B S T U J hh C Y M P E N k D hc s f;go_in;go_wp2_with fail;refine(t _).mono ?_;rintro e w2 ⟨rfl,a⟩;have d:=a.symm;subst d;clear a t;go_wp2_with fail;refine y.mono ?_;rintro e w3 ⟨rfl,a⟩;have d:=a.symm;subst d;clear a y;go_wp2_with fail;go_ret2;exact⟨_,rfl,BookNew.nil _ _,(qD _ w).alloc (qC _) _⟩
theorem gC(v:Value)(l:List Leaf)(p:ByteArray)(w:World)(h:BookAt w v l)(hb:bookE l=0):
  Calls prog 93 #[v,.string p] w fun e w'=>∃v',e=.returned (.tuple #[v',.int .i64 (putE l p)])/\BookNew w.heap.size w' v' (stL l p)/\zB w w':=by
 have m:=dO hb;have B:=nU (p:=p.toList) m.2.1;obtain⟨q,c0,hv,r,U,V,X⟩:=id h;have C:=z9 h;have A:=m.1;obtain⟨n,D⟩:∃n,l.length=n:=⟨_,rfl⟩;have E:=wS q n c0 l p w D r (by omega);cases hh:has l p.toList
 ·have s:leafAt l p=(p,0,false):=by unfold leafAt;rw[hh];rfl
  have Q:stX l p=(p,0,true):=by unfold stX;rw[s]
  have F:stL l p=(if putE l p=0 then putL l p (p,0,true) else[]):=by unfold stL;rw[Q]
  rw[F,(yX hh (p,0,true)).2,(yX hh (p,0,true)).1];clear Q F;have d:Hid (∀W,zB w W->Calls prog 123 #[v,zI (ahd l p.toList),.bool false,.agg #[.string p,zI 0,.bool true]] W fun e w'=>∃v',e=.returned (.tuple #[v',zI (if 300<=l.length then 4 else 0)])/\BookNew W.heap.size w' v' (if 300<=l.length then[] else l.take (ahd l p.toList)++(p,0,true)::l.drop (ahd l p.toList))/\zB W w'):=fun W hbw=>aIo v l _ p 0 true W (C.out.below hbw) B A
  have a:Hid (zB w (w.alloc (.cells #[.string p,zI 0,.bool true] 77))):=(qD _ w).alloc (qC _) _;obtain⟨R,Y⟩:=zx (if 300<=l.length then[] else l.take (ahd l p.toList)++(p,0,true)::l.drop (ahd l p.toList));obtain⟨z,hz⟩:∃z:Int,z=(if 300<=l.length then 4 else 0):=⟨_,rfl⟩;rw[<-Y,<-hz] at d |-;rw[D] at B A hv;subst hv;have t:=hh;unfold has at t;obtain⟨i,S⟩:=zx (ahd l p.toList);rw[<-S] at d E B t;clear Y hz;by_cases j:i<n
  ·have Z:(i:Int)<n:=by omega
   obtain⟨b,o,rfl,G⟩:=r.some (by rintro rfl;simp at D;omega);obtain⟨P,H,I⟩:=G i (by omega);rw[D,decide_eq_true j,yY] at t;obtain⟨x,T⟩:=zx (l.getD i none0);rw[<-T] at P H I t;obtain⟨s0,J,b0⟩:=x;simp only at P H I t;clear h hb m r U V X D hh s S G T C;go_in;go_wp2_with fail;refine E.mono ?_;rintro e w3 ⟨rfl,K⟩;have L:=K.symm;subst L;clear K E;go_wp2_with fail;refine(d.out _ (a.out)).mono ?_;rintro e w4 ⟨v4,rfl,f,g⟩;have M:=z9 (bel a.out g);have N:=z9 (f.mono a.out.size);clear f g;go_wp2_with fail;go_ret2;exact⟨_,rfl,N.out,M.out⟩
  ·have Z:¬(i:Int)<n:=by omega
   clear h hb m r U V X D hh s S C t;go_in;go_wp2_with fail;refine E.mono ?_;rintro e w3 ⟨rfl,K⟩;have L:=K.symm;subst L;clear K E;go_wp2_with fail;refine(d.out _ (a.out)).mono ?_;rintro e w4 ⟨v4,rfl,f,g⟩;have M:=z9 (bel a.out g);have N:=z9 (f.mono a.out.size);clear f g;go_wp2_with fail;go_ret2;exact⟨_,rfl,N.out,M.out⟩
 ·have j:ahd l p.toList<l.length:=by unfold has at hh;rw[qX,decide_eq_true_eq] at hh;exact hh.1
  have aa:=cX m.2.1 hh;have s:leafAt l p=l.getD (ahd l p.toList) none0:=by unfold leafAt;rw[hh];rfl
  obtain⟨b,o,rfl,G⟩:=r.some (by rintro rfl;simp at j);obtain⟨P,H,I⟩:=G _ j;rw[<-s] at P H I;obtain⟨x,T⟩:=zx (leafAt l p);rw[<-T] at P H I aa;obtain⟨c,J,b0⟩:=x;obtain⟨_,ac⟩:=aa;simp only at ac P H I;subst ac;have d:Hid (∀W,zB w W->Calls prog 123 #[v,zI (ahd l c.toList),.bool true,.agg #[.string c,zI J,.bool true]] W fun e w'=>∃v',e=.returned (.tuple #[v',zI 0])/\BookNew W.heap.size w' v' (l.take (ahd l c.toList)++(c,J,true)::l.drop (ahd l c.toList+1))/\zB W w'):=fun W hbw=>aIt v l _ c J true W (C.out.below hbw) j A
  have a:Hid (zB w (w.alloc (.cells #[.string c,zI J,.bool true] 77))):=(qD _ w).alloc (qC _) _;obtain⟨R,Y⟩:=zx (l.take (ahd l c.toList)++(c,J,true)::l.drop (ahd l c.toList+1));have y:=aGU hh (c,J,true);rw[<-Y] at d y;rw[D] at B A hv j;subst hv;obtain⟨i,S⟩:=zx (ahd l c.toList);rw[<-S] at d E B P H I j;have A2:=fun O=>nP w O _ _ H
  have A3:=fun O=>nP w O _ _ I
  have Z:(i:Int)<n:=by omega
  have F:stL l c=R:=by
   have Q:stX l c=(c,J,true):=by unfold stX;rw[<-T]
   unfold stL;rw[y.1,if_pos rfl,Q];have:=y.2;rw[y.1,if_pos rfl] at this;exact this
  rw[y.1,F];clear Y h hb m r U V X D hh s S G T C y F;go_in;go_wp2_with fail;refine E.mono ?_;rintro e w3 ⟨rfl,K⟩;have L:=K.symm;subst L;clear K E;go_wp2_with fail;refine(d.out _ (a.out)).mono ?_;rintro e w4 ⟨v4,rfl,f,g⟩;have M:=z9 (bel a.out g);have N:=z9 (f.mono a.out.size);clear f g;go_wp2_with fail;go_ret2;exact⟨_,rfl,N.out,M.out⟩
end Me
end Go.Proofs.YtjcemlmlfoilmaaGreatDoor
