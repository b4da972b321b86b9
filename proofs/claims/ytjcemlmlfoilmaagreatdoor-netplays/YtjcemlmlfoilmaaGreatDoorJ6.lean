import Derived.Test.YtjcemlmlfoilmaaGreatDoorJ5
import Derived.Laws.IdiomCopy
import Derived.Tactics
set_option linter.unusedVariables false
set_option maxRecDepth 100000
set_option maxHeartbeats 8000000
namespace Go.Proofs.YtjcemlmlfoilmaaGreatDoor
open Go.RowKit Cm Na Nc Nj
open Go.Proofs.Tryz (prog)
namespace Nk
open Go.WideShapes Ka
open La (bel aC)
theorem iY{n m a b:Int}:decide (((n,a):Dt)=(m,b))=(n==m&&a==b):=by
 rw[xP];simp
theorem aE3{s t:ByteArray}{n m a b:Int}:decide (((s,(n,a)):Mk)=(t,(m,b)))=(s.toList==t.toList&&(n==m&&a==b)):=by
 rw[xP];simp only[decide_eq_true_eq,qX,beq_iff_eq];constructor
 ·intro h;injection h with c h2;injection h2 with h2 h3;exact⟨by rw[c],h2,h3⟩
 ·rintro⟨c,rfl,rfl⟩;rw[Bm.bytes_inj c]
theorem oI(n m a b:Int)(w:World):(binOp .eql 80 (.agg #[.int .i64 n,.int .i64 a]) (.agg #[.int .i64 m,.int .i64 b])).run prog w=.ok (.bool (decide (((n,a):Dt)=(m,b)))) w:=by
 have u3:=Tryz.underlying3;have g:=Tryz.isAgg3;have h:=Tryz.sizeOf3;have c:prog.underlying 80=some (.struct (prog.fieldsOf 80)):=by kernel_rfl
 have d:prog.stoodInHeld 80=false:=by kernel_rfl
 rw[run_eql_struct,show(10000:Nat)=9999+1 from rfl,run_equalIn_agg w 9999 80 _ _ c d];simp only[Program.fieldsOf,Tryz.underlying80];rw[iY];go_simp;by_cases e:n=m<;>by_cases f:a=b<;>simp[e,f]
theorem hI(q:Option Addr)(n c:Nat)(l:List Dt)(p1 p2:Int)(w:World)(hl:l.length=n)(h:kU w q l)(hn:n<=1048576):
  Calls prog 195 #[.slice q n c,.agg #[.int .i64 p1,.int .i64 p2]] w fun e w'=>(∃z,e=.returned (.int .i64 z)/\(0<=z↔(p1,p2) ∈ l))/\zB w w':=by
 have t:=z9 hl;have I:=z9 h;have B:Hid (zB w (w.alloc (.cells #[zI p1,zI p2] 80))):=(qD _ w).alloc (qC _) _;have C:Hid ((w.alloc (.cells #[zI p1,zI p2] 80)).cell? (zW w)=some (zI p1)/\(w.alloc (.cells #[zI p1,zI p2] 80)).cell? ⟨w.heap.size,1,none⟩=some (zI p2)):=eS (x:=(p1,p2)) (qD _ _);clear hl h;go_in;go_wp2;go_loopw [8] (fun vi wr=>∃(k:Nat),k<=n/\vi=zI k/\Hid (∀j,j<k->l.getD j noneD≠(p1,p2))/\Hid (zB w wr)/\Hid (wr.cell? (zW w)=some (zI p1)/\wr.cell? ⟨w.heap.size,1,none⟩=some (zI p2))) (fun vi _=>n-(intOf vi).toNat)
 case atStart=>exact⟨0,by omega,rfl,fun j f=>absurd f (by omega),B,C⟩
 case round=>
  obtain⟨k,N,rfl,D,m,s⟩:=hrel;by_cases E:k<n
  ·have J:(k:Int)<n:=by omega
   obtain⟨b,o,rfl,v⟩:=I.out.some (by intro e;have:=t.out;rw[e] at this;simp at this;omega);have g:k<l.length:=by rw[t.out];exact E
   have F:=(v k g).below m.out (v k g).lt;obtain⟨x,y⟩:=zx (l.getD k noneD);rw[<-y] at F;have G:=z9 y;obtain⟨p,r⟩:=x;obtain⟨K,L⟩:=F;simp only at K L;obtain⟨O,P⟩:=s.out;have H:∀w,(binOp .eql 80 (.agg #[zI p1,zI p2]) (.agg #[zI p,zI r])).run prog w=.ok (.bool (decide (((p1,p2):Dt)=(p,r)))) w:=fun w=>oI p1 p p2 r w
   have Q:prog.eqGuardType prog.depth 80=false:=by kernel_rfl
   clear v y;by_cases a:((p1,p2):Dt)=(p,r)
   ·rw[decide_eq_true a] at H
    have A:Hid ((0:Int)<=(k:Int)↔(p1,p2) ∈ l):=by
     refine⟨fun _=> ?_,fun _=>by omega⟩;rw[a,G.out];exact cC g
    clear a;go_wp2;go_quiet (fail)
    go_wp2;go_ret;exact⟨⟨_,rfl,A.out⟩,aC m.out _⟩
   ·rw[decide_eq_false a] at H
    have M:Hid (∀j,j<k+1->l.getD j noneD≠(p1,p2)):=by
     intro j f;rcases jS.1 f with h | rfl
     ·exact D.out j h
     ·rw[<-G.out];exact fun e=>a e.symm
    clear a;go_wp2;go_quiet (fail)
    go_wp2;go_roundw
    case rel=>exact⟨k+1,by omega,by go_num,M,aC m.out _,s.out⟩
    case measure=>simp[intOf];omega
  ·obtain rfl:k=n:=by omega
   have A:Hid ((0:Int)<=(-1:Int)↔(p1,p2) ∈ l):=by
    refine⟨fun h=>by omega,fun h=> ?_⟩;obtain⟨j,f,e⟩:=yA.1 h;have:=D.out j (by rw[<-t.out];exact f);rw[qA,qB f] at this;exact absurd e this
   go_wp2;go_ret;exact⟨⟨_,rfl,A.out⟩,m.out⟩
theorem cN(v:Value)(l:List Dt)(p1 p2:Int)(w:World)(h:DtsAt w v l)(hn:l.length<=1048576):
  Calls prog 184 #[v,.agg #[.int .i64 p1,.int .i64 p2]] w fun e w'=>e=.returned (.bool (decide ((p1,p2) ∈ l)))/\zB w w':=by
 have b:zB w (w.alloc (.cells #[zI p1,zI p2] 80)):=(qD _ w).alloc (qC _) _;obtain⟨q,c,rfl,k,_⟩:=h;have C:=hI q l.length c l p1 p2 _ rfl (k.below b) hn;obtain⟨n,d⟩:=zx l.length;rw[<-d] at C hn;rw[<-d];have r:=z9 b;clear k b d;go_in;go_wp2_with fail;refine C.mono ?_;rintro e w2 ⟨⟨z,rfl,g⟩,f⟩;have i:=z9 (bel r.out f);by_cases a:(p1,p2) ∈ l
 ·have m:(0:Int)<=z:=g.2 a;have j:Hid (decide ((p1,p2) ∈ l)=true):=decide_eq_true a;clear f C g a;go_wp2_with fail;go_ret;exact⟨by rw[j.out];rfl,i.out⟩
 ·have m:¬(0:Int)<=z:=fun h=>a (g.1 h)
  have j:Hid (decide ((p1,p2) ∈ l)=false):=decide_eq_false a;clear f C g a;go_wp2_with fail;go_ret;exact⟨aW (by rw[j.out];exact decide_eq_false (by omega)),i.out⟩
def gone (p:ByteArray) (s:List Dt) (x:Mk):Bool:=decide (x.1=p)&&decide (x.2 ∈ s)
theorem fG(s:ByteArray)(a b:Int)(A B:Nat)(p:ByteArray)(v:Value)(l:List Dt)(w:World)(hA:w.cell? ⟨A,0,none⟩=some (.string p))(hB:w.cell? ⟨B,0,none⟩=some v)(h:DtsAt w v l)(hn:l.length<=1048576):
  Calls prog 183 #[.agg #[.string s,.int .i64 a,.int .i64 b],.pointer (some ⟨A,0,none⟩),.pointer (some ⟨B,0,none⟩)] w fun e w'=>e=.returned (.bool (gone p l (s,(a,b))))/\zB w w':=by
 have d:zB w (w.alloc (.cells #[.string s,zI a,zI b] 82)):=(qD _ w).alloc (qC _) _;have y:=aA d hA;have z:=aA d hB;have k:=z9 d;have C:=cN v l a b _ (h.below d) hn;by_cases f:s=p
 ·subst f;have g:Hid (gone s l (s,(a,b))=decide ((a,b) ∈ l)):=by unfold Hid gone;simp
  rw[g.out];obtain⟨t,m⟩:=zx (decide ((a,b) ∈ l));rw[<-m] at C |-;obtain⟨q,c,rfl,_⟩:=h;clear g m d hA hB hn;go_in;go_wp2_with fail;refine C.mono ?_;rintro e w2 ⟨rfl,i⟩;have n:=z9 (bel k.out i);clear i C;go_wp2_with fail;go_ret;exact⟨rfl,n.out⟩
 ·have g:Hid (gone p l (s,(a,b))=false):=by unfold Hid gone;simp[f]
  have j:¬s.toList=p.toList:=fun e=>f (Bm.bytes_inj e)
  have D:(s.toList==p.toList)=false:=by simpa using j
  rw[g.out];clear g d hA hB hn C f j h;go_in;go_wp2_with fail;go_ret;exact⟨rfl,k.out⟩
end Nk
namespace Nl
open Nk
open La (bel)
theorem wV{P:Program}(w:World)(t e ty:TypeId)(z:Value)(ht:P.underlying t=some (.slice e))(hv:∀w,(zeroValue e).run P w=.ok z w)(h0:0<z.cells.size)(h1:∀u ∈ z.cells.toList,u.oneCell'=true)(b o n c:Nat)(hn:0<n)(hc:∀j,j<n*z.cells.size->(w.cell? ⟨b,o+j,none⟩).isSome=true)(hf:∀j,w.frozen? ⟨b,j,none⟩=false):
  (Builtin.clear_ #[t] ty #[.slice (some ⟨b,o,none⟩) n c]).run P w=.ok (.tuple #[]) (w.setCells b o (Builtin.zeroCells z.cells n).toList):=by
 have d:(Builtin.zeroCells z.cells n).toList.length=n*z.cells.size:=by rw[Array.length_toList,size_zeroCells]
 have f:∀v ∈ (Builtin.zeroCells z.cells n).toList,v.oneCell'=true:=by
  intro v hv;simp only[Builtin.zeroCells,Array.toList_map,xV] at hv;obtain⟨i,_,rfl⟩:=hv;have h:i%z.cells.size<z.cells.size:=Nat.mod_lt _ h0;rw[getElem!_pos z.cells _ h];exact h1 _ (by rw[Array.mem_toList_iff];exact Array.getElem_mem h)
 have a:=run_storeCells_cells (P:=P) b o (Builtin.zeroCells z.cells n).toList 0 w (by intro j hj;rw[d] at hj;exact hc j hj) (by intro j _;exact hf _) f;simp only[vL] at a;obtain⟨m,rfl⟩:∃m,n=m+1:=⟨n-1,by omega⟩;simp[Builtin.clear_,run_underlying ht,hv,a]
theorem lF{B b:Nat}{a:World}(hb:B<=b):∀(vs:List Value) (o:Nat) (w:World),Below B a w->Below B a (w.setCells b o vs)
 | [],_,_,h=>h
 | v::r,o,w,h=>lF hb r (o+1) _ (h.setCell (p:=⟨b,o,none⟩) hb v)
def FirstAt (p:ByteArray) (s:List Dt) (l:List Mk) (z:Int):Prop:=(z= -1∧∀j,j<l.length→gone p s (l.getD j none1)=false)∨∃k:Nat,k<l.length∧z=k∧gone p s (l.getD k none1)=true∧∀j,j<k→gone p s (l.getD j none1)=false
theorem mC(q:Option Addr)(n c:Nat)(l:List Mk)(A B:Nat)(p:ByteArray)(v:Value)(s:List Dt)(w:World)(hl:l.length=n)(h:MarksIn w q l)(hn:n<=1048576)(hA:w.cell? ⟨A,0,none⟩=some (.string p))(hB:w.cell? ⟨B,0,none⟩=some v)(hs:DtsAt w v s)(hsn:s.length<=1048576):
  Calls prog 194 #[.slice q n c,.func (.func 183) #[] #[.pointer (some ⟨A,0,none⟩),.pointer (some ⟨B,0,none⟩)]] w fun e w'=>(∃z,e=.returned (.int .i64 z)/\FirstAt p s l z)/\zB w w':=by
 have D:=z9 hl;have L:=z9 h
 have M:Hid (∀wr,zB w wr->∀d f g,Calls prog 183 #[.agg #[.string d,zI f,zI g],.pointer (some (zA A)),.pointer (some (zA B))] wr fun e w'=>e=.returned (.bool (gone p s (d,(f,g))))/\zB wr w'):=
  fun wr hb d f g=>fG d f g A B p v s wr (aA hb hA) (aA hb hB) (hs.below hb) hsn
 clear hl h hA hB hs hsn;go_in;go_wp2;go_loopw [8] (fun vi wr=>∃(k:Nat),k<=n/\vi=zI k/\Hid (∀j,j<k->gone p s (l.getD j none1)=false)/\Hid (zB w wr)) (fun vi _=>n-(intOf vi).toNat)
 case atStart=>exact⟨0,by omega,rfl,fun j hj=>absurd hj (by omega),qD _ _⟩
 case round=>
  obtain⟨k,R,rfl,E,m⟩:=hrel;by_cases I:k<n
  ·have N:(k:Int)<n:=by omega
   obtain⟨b,o,rfl,F⟩:=L.out.some (by intro e;have:=D.out;rw[e] at this;simp at this;omega);have r:k<l.length:=by rw[D.out];exact I
   have J:=(F k r).below m.out (F k r).lt;obtain⟨x,G⟩:=zx (l.getD k none1);rw[<-G] at J;have K:=z9 G;obtain⟨d,f,g⟩:=x;obtain⟨O,P,Q⟩:=J;simp only at O P Q;clear F G;have C:=M.out wr m.out d f g;cases hg:gone p s (d,(f,g))
   ·rw[hg] at C
    have t:Hid (∀j,j<k+1->gone p s (l.getD j none1)=false):=by
     intro j hj;rcases jS.1 hj with h | rfl
     ·exact E.out j h
     ·rw[<-K.out];exact hg
    clear hg;go_wp2_with fail;refine C.mono ?_;rintro e w2 ⟨rfl,a⟩;have y:=z9 (bel m.out a);clear a C;go_wp2_with fail;go_roundw
    case rel=>exact⟨k+1,by omega,by go_num,t,y⟩
    case measure=>simp[intOf];omega
   ·rw[hg] at C;have t:Hid (FirstAt p s l (k:Int)):=qF ⟨k,r,rfl,by rw[<-K.out];exact hg,E.out⟩;clear hg;go_wp2_with fail;refine C.mono ?_;rintro e w2 ⟨rfl,a⟩;have y:=z9 (bel m.out a);clear a C;go_wp2_with fail;go_ret;exact⟨⟨_,rfl,t.out⟩,y.out⟩
  ·obtain rfl:k=n:=by omega
   have t:Hid (FirstAt p s l (-1)):=qH ⟨rfl,fun j hj=>E.out j (by rw[<-D.out];exact hj)⟩;go_wp2_with fail;go_ret;exact⟨⟨_,rfl,t.out⟩,m.out⟩
end Nl
namespace Nm
open Nd Nk Nl
variable {w:World}{g i k n j:Nat}{l K:List Mk}{x:Mk}{p:ByteArray}{s:List Dt}
theorem aGZ(hi:i<l.length)(hc:∀j,j<l.length->MAt w g 0 j (l.getD j none1)):
  ∀j,j<(l.set i x).length->MAt (((w.setCell ⟨g,i*3,none⟩ (.string x.1)).setCell ⟨g,i*3+1,none⟩ (.int .i64 x.2.1)).setCell ⟨g,i*3+2,none⟩ (.int .i64 x.2.2)) g 0 j ((l.set i x).getD j none1):=by
 intro j hj;rw[jN] at hj;by_cases h:j=i
 ·subst h;have e:(l.set j x).getD j none1=x:=by rw[qA,jR hj];rfl
  obtain⟨b,c,d⟩:=hc j hj;rw[qY] at b c d;rw[e];unfold MAt;rw[qY];have m:(⟨g,j*3,none⟩:Addr)≠⟨g,j*3+1,none⟩:=by intro e;injection e;omega
  have n:(⟨g,j*3,none⟩:Addr)≠⟨g,j*3+2,none⟩:=by intro e;injection e;omega
  have o:(⟨g,j*3+1,none⟩:Addr)≠⟨g,j*3+2,none⟩:=by intro e;injection e;omega
  refine⟨?_, ?_, ?_⟩
  ·rw[qN _ _ _ _ n.symm,qN _ _ _ _ m.symm,xE _ _ _ b]
  ·rw[qN _ _ _ _ o.symm];obtain⟨u,f⟩:=cell?_setCell_some (x:=.string x.1) (p:=⟨g,j*3,none⟩) c;rw[xE _ _ _ f]
  ·obtain⟨u,f⟩:=cell?_setCell_some (x:=.string x.1) (p:=⟨g,j*3,none⟩) d;obtain⟨u2,k⟩:=cell?_setCell_some (x:=zI x.2.1) (p:=⟨g,j*3+1,none⟩) f;rw[xE _ _ _ k]
 ·have e:(l.set i x).getD j none1=l.getD j none1:=by rw[qA,qA,qS (by omega)]
  rw[e];obtain⟨b,c,d⟩:=hc j hj;unfold MAt;refine⟨?_, ?_, ?_⟩
  ·rw[qN _ _ _ _ (by intro e;injection e;omega),qN _ _ _ _ (by intro e;injection e;omega),qN _ _ _ _ (by intro e;injection e;omega)];exact b
  ·rw[qN _ _ _ _ (by intro e;injection e;omega),qN _ _ _ _ (by intro e;injection e;omega),qN _ _ _ _ (by intro e;injection e;omega)];exact c
  ·rw[qN _ _ _ _ (by intro e;injection e;omega),qN _ _ _ _ (by intro e;injection e;omega),qN _ _ _ _ (by intro e;injection e;omega)];exact d
def stays (p:ByteArray) (s:List Dt) (l:List Mk):List Mk:=l.filter fun x=> !gone p s x
theorem wO(h:∀j,j<l.length->gone p s (l.getD j none1)=false):stays p s l=l:=by
 unfold stays;rw[List.filter_eq_self];intro x hx;obtain⟨j,a,e⟩:=yA.1 hx;have:=h j a;rw[qA,qB a] at this;simp only[xT] at this;rw[e] at this;simp[this]
theorem eB(hk:k<l.length):l.take (k+1)=l.take k++[l.getD k none1]:=by
 rw[qA,qB hk,jV,qB hk];rfl
theorem tV(hk:k<l.length):stays p s (l.take (k+1))=if gone p s (l.getD k none1) then stays p s (l.take k) else stays p s (l.take k)++[l.getD k none1]:=by
 unfold stays;rw[eB hk,vS];cases h:gone p s (l.getD k none1)
 ·simp only[vD,h,List.filter_nil];simp
 ·simp only[vD,h,List.filter_nil];simp
def Row (w:World) (g n i j:Nat) (K:List Mk) (l:List Mk):Prop:=∃R:List Mk,R.length=n∧(∀x,x<R.length→MAt w g 0 x (R.getD x none1))∧R.take i=K∧R.drop j=l.drop j
theorem Row.below{w w':World}{g n i j:Nat}{K l:List Mk}(h:Row w g n i j K l)(hb:zB w w'):Row w' g n i j K l:=by
 obtain⟨R,b,a,c,d⟩:=h;exact⟨R,b,fun x hx=>(a x hx).below hb (a x hx).lt,c,d⟩
theorem Row.at{w:World}{g n i j:Nat}{K l:List Mk}(h:Row w g n i j K l)(hl:l.length=n)(hj:j<n):MAt w g 0 j (l.getD j none1):=by
 obtain⟨R,f,b,_,c⟩:=h
 have e:R.getD j none1=l.getD j none1:=by
  have a:(R.drop j)[0]? =(l.drop j)[0]? :=by rw[c]
  rw[xQ,xQ,vL] at a;rw[qA,qA,a]
 rw[<-e];exact b j (by omega)
theorem Row.any(h:Row w g n i j K l){x:Nat}(hx:x<n):∃y,MAt w g 0 x y:=by
 obtain⟨R,c,a,_,_⟩:=h;exact⟨_,a x (by omega)⟩
theorem Row.skip(h:Row w g n i j K l):Row w g n i (j+1) K l:=by
 obtain⟨R,a,b,c,d⟩:=h;refine⟨R,a,b,c, ?_⟩;have:=congrArg (List.drop 1) d;rwa [vN,vN] at this
theorem Row.put(h:Row w g n i j K l)(hij:i<j)(hi:i<n)(hx:x=l.getD j none1):
  Row (((w.setCell ⟨g,i*3,none⟩ (.string x.1)).setCell ⟨g,i*3+1,none⟩ (.int .i64 x.2.1)).setCell ⟨g,i*3+2,none⟩ (.int .i64 x.2.2)) g n (i+1) (j+1) (K++[x]) l:=by
 obtain⟨R,a,b,c,d⟩:=h;refine⟨R.set i x,by rw[jN];exact a,aGZ (by omega) b, ?_, ?_⟩
 ·rw[<-c,eB (by rw[jN];omega),List.take_set_of_le (qC _)];congr 1;rw[qA,jR (by omega)];rfl
 ·rw[List.drop_set_of_lt (by omega)];have:=congrArg (List.drop 1) d;rwa [vN,vN] at this
theorem aBP(h:∀x,x<n->∃y,MAt w g 0 x y):∀k,k<n*3->(w.cell? ⟨g,k,none⟩).isSome=true:=by
 intro k hk;obtain⟨y,b,c,d⟩:=h (k/3) (by omega);have a:k=k/3*3+k%3:=by omega
 have f:k%3=0\/k%3=1\/k%3=2:=by omega
 rw[qY] at b c d;rcases f with e | e | e
 ·rw[a,e,vL,b];rfl
 ·rw[a,e,c];rfl
 ·rw[a,e,d];rfl
def zM:Value:=.agg #[.string ⟨#[]⟩,.int .i64 0,.int .i64 0]
theorem aDU(w:World):(zeroValue 82).run prog w=.ok zM w:=by kernel_rfl
theorem aBD(w:World)(g i n c:Nat)(ty:TypeId)(hi:i<n)(hc:∀k,k<n*3->(w.cell? ⟨g,k,none⟩).isSome=true)(hf:∀o,w.frozen? ⟨g,o,none⟩=false):
  (Builtin.clear_ #[48] ty #[.slice (some ⟨g,i*3,none⟩) (n-i) (c-i)]).run prog w=.ok (.tuple #[]) (w.setCells g (i*3) (Builtin.zeroCells zM.cells (n-i)).toList):=
 wV w 48 82 ty zM Tryz.underlying48 aDU (by decide) (by intro u hu;simp[zM,Value.cells] at hu;rcases hu with rfl | rfl<;>rfl) g (i*3) (n-i) (c-i) (by omega)
  (fun j hj=>hc _ (by have:zM.cells.size=3:=rfl;rw[this] at hj;omega)) hf
theorem sN(W0 w:World)(g n c:Nat)(l:List Mk)(A B:Nat)(p:ByteArray)(v:Value)(s:List Dt)(hl:l.length=n)(hcs:∀j,j<l.length->MAt w g 0 j (l.getD j none1))(hfr:∀o,w.frozen? ⟨g,o,none⟩=false)(hg:W0.heap.size<=g)(hgw:g<w.heap.size)(hb0:zB W0 w)(hn:n<=1048576)(hnc:n<=c)(hcm:c<=maxLen)(hA:W0.cell? ⟨A,0,none⟩=some (.string p))(hB:W0.cell? ⟨B,0,none⟩=some v)(hs:DtsAt W0 v s)(hsn:s.length<=1048576):
  Calls prog 182 #[.slice (some ⟨g,0,none⟩) n c,.func (.func 183) #[] #[.pointer (some ⟨A,0,none⟩),.pointer (some ⟨B,0,none⟩)]] w fun e w'=>∃v',e=.returned v'/\MksNew W0.heap.size w' v' (stays p s l)/\zB W0 w':=by
 have C:=mC (some (zA g)) n c l A B p v s w hl (qF ⟨g,0,rfl,hcs⟩) hn (aA hb0 hA) (aA hb0 hB) (hs.below hb0) hsn
 have HC:Hid (∀wr,zB W0 wr->∀D E F,Calls prog 183 #[.agg #[.string D,zI E,zI F],.pointer (some (zA A)),.pointer (some (zA B))] wr fun e w'=>e=.returned (.bool (gone p s (D,(E,F))))/\zB wr w'):=
  fun wr hb D E F=>fG D E F A B p v s wr (aA hb hA) (aA hb hB) (hs.below hb) hsn
 have O:=z9 hl;have HR:Hid (Row w g n 0 0 [] l):=⟨l,hl,hcs,rfl,rfl⟩;have P:=z9 hfr;have Q:=z9 hb0;have a:Hid (W0.heap.size<=g/\g<w.heap.size):=⟨hg,hgw⟩;have ah:=z9 hcm;have a4:c<=9223372036854775807:=by unfold maxLen at hcm;omega
 clear hl hcs hfr hg hgw hb0 hA hB hs hsn hcm;go_in;go_wp2_with fail;refine C.mono ?_;rintro e w1 ⟨⟨z,rfl,hz⟩,K⟩;have S:=z9 (Q.out.trans (K.mono Q.out.size));have T:=z9 (HR.out.below K)
 have ai:Hid (∀o,w1.frozen? ⟨g,o,none⟩=false):=fun o=>by
  have:=P.out o;unfold World.frozen? at this |-;rw[K.block g a.out.2];exact this
 have M:Hid (W0.heap.size<=g/\g<w1.heap.size):=⟨a.out.1,jE a.out.2 K.size⟩;clear K C HR P Q a;rcases hz with⟨rfl,hz⟩ | ⟨k,hk,rfl,hk1,hk2⟩
 ·have HS:=z9 (wO hz);clear hz;go_wp2_with fail;go_ret;refine⟨_,rfl, ?_,S.out⟩;rw[HS.out];obtain⟨R,h1,U,_,h4⟩:=T.out;have e:R=l:=by simpa using h4
  subst e;exact⟨⟨some (zA g),c,by rw[O.out];rfl,qF ⟨g,0,rfl,U⟩,by rw[O.out];exact hnc,ah.out,fun h=>by cases h⟩,La.Lies.at M.out.1⟩
 ·have bk:k<n:=by rw[<-O.out];exact hk
  have bl:((k:Int) == -1)=false:=by rw[beq_eq_false_iff_ne];omega
  have m:Hid (Row w1 g n k (k+1) (stays p s (l.take (k+1))) l):=by
   have V:stays p s (l.take (k+1))=l.take k:=by
    rw[tV hk,hk1,if_pos rfl];refine wO fun j hj=> ?_
    rw[qQ] at hj;have:=hk2 j (by omega);rwa [qA,jC (by omega),<-qA]
   rw[V];obtain⟨R,h1,U,_,h4⟩:=T.out;have e:R=l:=by simpa using h4
   subst e;exact⟨R,h1,U,rfl,rfl⟩
  clear hk hk1 hk2 T;go_wp2_with fail;go_loopw [5,6] (fun vi vj wr=>∃(i j:Nat),i<j/\j<=n/\vi=zI i/\vj=zI j/\Hid ((stays p s (l.take j)).length=i/\Row wr g n i j (stays p s (l.take j)) l)/\Hid (∀o,wr.frozen? ⟨g,o,none⟩=false)/\Hid (zB W0 wr)/\Hid (W0.heap.size<=g/\g<wr.heap.size)) (fun _ vj _=>n-(intOf vj).toNat)
  case atStart=>exact⟨k,k+1,by omega,by omega,rfl,by go_num,⟨by obtain⟨R,h1,_,h3,_⟩:=m.out;rw[<-h3,qQ];omega,m.out⟩,ai,S,M⟩
  case round=>
   clear m ai S M;obtain⟨i,j,aj,bm,rfl,rfl,f,P,HB,a⟩:=hrel;by_cases ak:j<n
   ·have a6:(j:Int)<n:=by omega
    have ha:=f.out.2.at O.out ak;obtain⟨x,I⟩:=zx (l.getD j none1);rw[<-I] at ha;have HX:=z9 I
    have G:Hid (stays p s (l.take (j+1))=if gone p s x then stays p s (l.take j) else stays p s (l.take j)++[x]):=by
     unfold Hid;rw[tV (by rw[O.out];exact ak),<-I]
    obtain⟨D,E,F⟩:=x;obtain⟨a1,a2,a3⟩:=ha;rw[qY] at a1 a2 a3;simp only at a1 a2 a3;clear I;have L:Hid (zB W0 (wr.alloc (.cells #[.string D,zI E,zI F] 82))):=HB.out.alloc HB.out.size _;have C:=HC.out _ L.out D E F;cases hgo:gone p s (D,(E,F))
    ·rw[hgo] at C G;have N:i<n:=by omega
     have a8:(i:Int)<n:=by omega
     clear hgo;go_wp2_with fail;refine C.mono ?_;rintro e w2 ⟨rfl,r⟩;have X:=z9 (L.out.trans (r.mono L.out.size));have q:zB wr w2:=bE (qD _ _) r;obtain⟨d0,d1,d2⟩:=bC (x:=(D,(E,F))) r;simp only at d0 d1 d2;have m:=z9 (f.out.2.below q)
     have H:Hid (∀o,w2.frozen? ⟨g,o,none⟩=false):=fun o=>by
      have:=P.out o;unfold World.frozen? at this |-;rw[q.block g a.out.2];exact this
     have J:Hid (W0.heap.size<=g/\g<w2.heap.size):=⟨a.out.1,jE a.out.2 q.size⟩;have bn:=z9 (kO a.out.2);obtain⟨y,b1,b2,b3⟩:=m.out.any N;rw[qY] at b1 b2 b3;have f1:=H.out (i*3);have f2:=H.out (i*3+1);have f3:=H.out (i*3+2)
     have HP:Hid ((stays p s (l.take (j+1))).length=i+1/\Row (((w2.setCell ⟨g,i*3,none⟩ (.string D)).setCell ⟨g,i*3+1,none⟩ (zI E)).setCell ⟨g,i*3+2,none⟩ (zI F)) g n (i+1) (j+1) (stays p s (l.take (j+1))) l):=by
      unfold Hid;rw[G.out];exact⟨by simp[f.out.1],m.out.put (x:=(D,(E,F))) aj N HX.out⟩
     have Y:Hid (zB W0 (((w2.setCell ⟨g,i*3,none⟩ (.string D)).setCell ⟨g,i*3+1,none⟩ (zI E)).setCell ⟨g,i*3+2,none⟩ (zI F))):=
      ((X.out.setCell (p:=⟨g,i*3,none⟩) a.out.1 _).setCell (p:=⟨g,i*3+1,none⟩) a.out.1 _).setCell (p:=⟨g,i*3+2,none⟩) a.out.1 _
     obtain⟨y1,al⟩:∃t,t=Value.string y.1:=⟨_,rfl⟩;obtain⟨y2,am⟩:∃t,t=Value.int .i64 y.2.1:=⟨_,rfl⟩;obtain⟨y3,an⟩:∃t,t=Value.int .i64 y.2.2:=⟨_,rfl⟩;rw[<-al] at b1;rw[<-am] at b2;rw[<-an] at b3;clear r q C a1 a2 a3 al am an m f G;go_wp2_with fail;go_roundw
     case rel=>exact⟨i+1,j+1,by omega,by omega,by go_num,by go_num,HP.out,fun o=>by simp only[kH];exact H.out o,Y,⟨J.out.1,by have:=J.out.2;simpa using this⟩⟩
     case measure=>simp[intOf];omega
    ·rw[hgo] at C G;clear hgo;go_wp2_with fail;refine C.mono ?_;rintro e w2 ⟨rfl,r⟩;have X:=z9 (L.out.trans (r.mono L.out.size));have q:zB wr w2:=bE (qD _ _) r
     have m:Hid ((stays p s (l.take (j+1))).length=i/\Row w2 g n i (j+1) (stays p s (l.take (j+1))) l):=by
      unfold Hid;rw[G.out,if_pos (by first | rfl | trivial)];exact⟨f.out.1,(f.out.2.below q).skip⟩
     have H:Hid (∀o,w2.frozen? ⟨g,o,none⟩=false):=fun o=>by
      have:=P.out o;unfold World.frozen? at this |-;rw[q.block g a.out.2];exact this
     have J:Hid (W0.heap.size<=g/\g<w2.heap.size):=⟨a.out.1,jE a.out.2 q.size⟩;clear r q C a1 a2 a3 f G;go_wp2_with fail;go_roundw
     case rel=>exact⟨i,j+1,by omega,by omega,rfl,by go_num,m.out,H,X,J⟩
     case measure=>simp[intOf];omega
   ·obtain rfl:j=n:=by omega
    have N:i<j:=aj;have bo:(i:Int)<=j:=by omega
    have be:(i:Int)<=c:=by omega
    have bp:¬c=i:=by omega
    have ay:=fun ty=>aBD wr g i j c ty N (aBP fun x I=>f.out.2.any I) P.out
    obtain⟨Z,hZ⟩:=zx ((Builtin.zeroCells zM.cells (j-i)).toList);rw[<-hZ] at ay;have Y:Hid (zB W0 (wr.setCells g (i*3) Z)):=lF a.out.1 _ _ _ HB.out
    have HM:Hid (MksAt (wr.setCells g (i*3) Z) (.slice (some (zA g)) i c) (stays p s l)):=by
     obtain⟨V,R,h1,U,h3,_⟩:=f.out;have ar:l.take j=l:=qW (by rw[O.out];exact qC _);rw[ar] at V h3;refine⟨some (zA g),c,by rw[V],qF ⟨g,0,rfl,fun x I=> ?_⟩,by omega,ah.out,fun h=>by cases h⟩;rw[V] at I
     have e2:(stays p s l).getD x none1=R.getD x none1:=by
      rw[<-h3,qA,jC I,<-qA]
     rw[e2];obtain⟨c1,c2,c3⟩:=U x (by omega);refine⟨?_, ?_, ?_⟩
     ·rw[World.cell?_setCells_out _ _ _ _ _ (fun _ _=>qH (by simp only[];omega))];exact c1
     ·rw[World.cell?_setCells_out _ _ _ _ _ (fun _ _=>qH (by simp only[];omega))];exact c2
     ·rw[World.cell?_setCells_out _ _ _ _ _ (fun _ _=>qH (by simp only[];omega))];exact c3
    clear hZ f;go_wp2_with fail;go_ret;exact⟨_,rfl,⟨HM.out,La.Lies.at a.out.1⟩,Y.out⟩
end Nm
namespace Nn
open Nse Nf Nl Nm
open La (bel aD)
theorem uA(w:World):
  Calls prog 57 #[.slice none 0 0] w fun e w'=>e=.returned (.slice none 0 0)/\w'=w:=by
 have a:∀(w:World),Sem.run prog (binOp .eql 48 (zS) (zS)) w=.ok (.bool true) w:=fun _=>by kernel_rfl
 go_in;go_wp2;go_ret;exact⟨rfl,rfl⟩
theorem rL(A B:Nat)(p:ByteArray)(v:Value)(s:List Dt)(w:World)(hA:w.cell? ⟨A,0,none⟩=some (.string p))(hB:w.cell? ⟨B,0,none⟩=some v)(hs:DtsAt w v s)(hsn:s.length<=1048576):
  Calls prog 182 #[.slice none 0 0,.func (.func 183) #[] #[.pointer (some ⟨A,0,none⟩),.pointer (some ⟨B,0,none⟩)]] w fun e w'=>e=.returned (.slice none 0 0)/\zB w w':=by
 have C:=mC none 0 0 [] A B p v s w rfl (qH rfl) (by omega) hA hB hs hsn;clear hA hB hs hsn;go_in;go_wp2_with fail;refine C.mono ?_;rintro e w1 ⟨⟨z,rfl,c⟩,a⟩;have b:=z9 a;rcases c with⟨rfl,_⟩ | ⟨k,hk,_⟩
 ·clear a C;go_wp2_with fail;go_ret;exact⟨rfl,b.out⟩
 ·simp at hk
theorem aIK{w w1:World}{v:Value}{n:Nat}{l:List Mk}(ho:w1.ownsRow w.heap.size 82 3 v n (flat l))(hb:zB w w1)(A B:Nat)(p:ByteArray)(vs:Value)(s:List Dt)(hA:w.cell? ⟨A,0,none⟩=some (.string p))(hB:w.cell? ⟨B,0,none⟩=some vs)(hs:DtsAt w vs s)(hsn:s.length<=1048576)(hn:n<=1048576):
  Calls prog 182 #[v,.func (.func 183) #[] #[.pointer (some ⟨A,0,none⟩),.pointer (some ⟨B,0,none⟩)]] w1 fun e w'=>∃v',e=.returned v'/\MksNew w.heap.size w' v' (stays p s l)/\zB w w':=by
 obtain⟨a,q,c,rfl,d⟩:=wI ho;rcases ho.2 with⟨e,e0⟩ | ⟨g,cap,cur,e,hg,hcur,h3,h4,_⟩
 ·injection e with e1 e2 e3
  subst e1 e2 e3;have f:=qK a;subst f;refine(rL A B p vs s w1 (aA hb hA) (aA hb hB) (hs.below hb) hsn).mono ?_;rintro e w' ⟨rfl,h⟩;exact⟨_,rfl,MksNew.nil _ _,bel hb h⟩
 ·injection e with e1 e2 e3
  subst e1 e3
  have i:g<w1.heap.size:=by
   rcases xR g w1.heap.size with e | e
   ·exact e
   ·rw[jQ e] at hcur;cases hcur
  have k:∀j,j<l.length->MAt w1 g 0 j (l.getD j none1):=by
   rcases d with h0 | ⟨b,o,hp,hc⟩
   ·subst h0;intro j hj;simp at hj
   ·injection hp with hp
    injection hp with hp1 hp2
    subst hp1 hp2;exact hc
  exact sN w w1 g n c l A B p vs s a k (fun o=>by simp[World.frozen?,hcur]) hg i hb hn h3 h4 hA hB hs hsn
theorem aG8(v:Value)(l:List Mk)(p:ByteArray)(vs:Value)(s:List Dt)(w:World)(h:MksAt w v l)(hs:∀x ∈ l,x.1.size<=maxLen)(hp:p.size<=maxLen)(hd:DtsAt w vs s)(h0:aDt l p s=0):
  Calls prog 161 #[v,.string p,vs] w fun e w'=>∃v',e=.returned (.tuple #[v',.nilIface])/\MksNew w.heap.size w' v' (without l p s)/\zB w w':=by
 obtain⟨H,K,L⟩:=rW.1 h0
 obtain⟨M,_⟩:=iL.1 H
 obtain⟨I,_,_⟩:=aY.1 M
 have g:zB w ((w.alloc (.cells #[.string p] 9)).alloc (.cells #[vs] 95)):=((qD _ w).alloc (qC _) _).alloc (by simp) _
 have C:=lB v l p _ (h.below g) hs hp
 rw[H,aD] at C
 have t:Hid (∀w2,zB w w2->Calls prog 166 #[vs] w2 fun e w'=>e=.returned .nilIface/\zB w2 w'):=fun w2 hb=>by
  have:=gT vs s w2 (hd.below hb)
  rw[aEs K L,aD] at this;exact this
 have y:Hid (∀w2,zB w w2->Calls prog 57 #[v] w2 fun e w'=>∃v',e=.returned v'/\w'.ownsRow w2.heap.size 82 3 v' l.length (flat l)/\zB w2 w'):=fun w2 hb=>by
  have h2:=h.below hb
  obtain⟨q,c,rfl,O,hc,al,P⟩:=h2
  cases q with
  | none=>
   have Q:=P rfl
   subst Q
   have R:l=[]:=qK (by omega)
   subst R
   refine(uA w2).mono ?_
   rintro e w' ⟨rfl,rfl⟩
   exact⟨_,rfl,jT _ _ _ _,qD _ _⟩
  | some ad=>
   refine dL ad l.length c l w2 rfl (by omega) (fun j u hu=> ?_)
   rcases O with e0 | ⟨b,o,hp2,hcs⟩
   ·subst e0;simp[flat] at hu
   ·injection hp2 with hp2
    subst hp2
    rw[jU];exact gM hcs j u hu
 have i:Hid (∀w2 w3 v3,zB w w2->w2.cell? (zW w)=some (.string p)->w2.cell? (zV w)=some vs->w3.ownsRow w2.heap.size 82 3 v3 l.length (flat l)->zB w2 w3->Calls prog 182 #[v3,.func (.func 183) #[] #[.pointer (some (zW w)),.pointer (some (zV w))]] w3 fun e w'=>∃v',e=.returned v'/\MksNew w2.heap.size w' v' (stays p s l)/\zB w2 w'):=
  fun w2 w3 v3 hb hA hB ho d=>aIK ho d _ _ p vs s hA hB (hd.below hb) (by omega) (by omega)
 have S:Hid (without l p s=stays p s l):=rfl
 have z:Hid (∀w2,Below ((w.alloc (.cells #[.string p] 9)).alloc (.cells #[vs] 95)).heap.size ((w.alloc (.cells #[.string p] 9)).alloc (.cells #[vs] 95)) w2->w2.cell? (zW w)=some (.string p)/\w2.cell? (zV w)=some vs):=fun w2 hb=>by
  have e1:((w.alloc (.cells #[.string p] 9)).alloc (.cells #[vs] 95)).heap[w.heap.size]? =some (.cells #[.string p] 9):=by
   have:=heap_alloc_old (w.alloc (.cells #[.string p] 9)) (.cells #[vs] 95) (show w.heap.size<_ by simp)
   exact this.trans (heap_alloc_new w _)
  have e2:((w.alloc (.cells #[.string p] 9)).alloc (.cells #[vs] 95)).heap[w.heap.size+1]? =some (.cells #[vs] 95):=by
   have:=heap_alloc_new (w.alloc (.cells #[.string p] 9)) (.cells #[vs] 95)
   rwa [show(w.alloc (.cells #[.string p] 9)).heap.size=w.heap.size+1 by simp] at this
  refine⟨aA hb ?_,aA hb ?_⟩
  ·simp only[World.cell?,e1];rfl
  ·simp only[World.cell?,e2];rfl
 have A:=z9 g
 obtain⟨q,c,rfl,_⟩:=h
 obtain⟨qs,cs,rfl,_⟩:=hd
 obtain⟨n,r⟩:=zx l.length
 obtain⟨m,J⟩:=zx s.length
 rw[<-r] at C y
 rw[<-J] at C t i z A
 rw[<-r,<-J]
 rw[<-r] at i
 clear hs hp h0 H K L M I g r J
 go_in
 go_wp2_with fail
 refine C.mono ?_
 rintro e w2 ⟨rfl,k⟩
 have B:=z9 (bel A.out k)
 obtain⟨T,U⟩:=z.out w2 k
 clear k C
 have V:=t.out w2 B.out
 go_wp2_with fail
 refine V.mono ?_
 rintro e w3 ⟨rfl,d⟩
 have f:=z9 (bel B.out d)
 have X:Hid (w3.cell? (zW w)=some (.string p)/\w3.cell? (zV w)=some (.slice qs m cs)):=⟨aA d T,aA d U⟩
 clear d V T U
 have Y:=y.out w3 f.out
 go_wp2_with fail
 refine Y.mono ?_
 rintro e w4 ⟨v4,rfl,D,E⟩
 have Z:=i.out w3 w4 v4 f.out X.out.1 X.out.2 D E
 clear Y D E
 go_wp2_with fail
 refine Z.mono ?_
 rintro e w5 ⟨v5,rfl,F,G⟩
 have aa:=z9 (bel f.out G)
 have ab:=z9 (F.mono f.out.size)
 clear Z F G
 go_wp2_with fail
 go_ret2
 exact⟨_,rfl,by rw[S.out];exact ab.out,aa.out⟩
end Nn
namespace Np
open Nk
open La (aC)
variable (s t:ByteArray)(n m a b:Int)(w:World)
theorem aAS:(Op.equalIn 10000 82 (.agg #[.string s,.int .i64 n,.int .i64 a]) (.agg #[.string t,.int .i64 m,.int .i64 b])).run prog w=.ok (decide (((s,(n,a)):Mk)=(t,(m,b)))) w:=by
 have u3:=Tryz.underlying3;have i:=Tryz.isAgg3;have j:=Tryz.sizeOf3;have u9:=Tryz.underlying9;have k:=Tryz.isAgg9;have l:=Tryz.sizeOf9;have o:=Tryz.isAgg80;have p:=Tryz.sizeOf80;have c:prog.underlying 82=some (.struct (prog.fieldsOf 82)):=by kernel_rfl
 have d:prog.stoodInHeld 82=false:=by kernel_rfl
 have h:prog.stoodInHeld 80=false:=by kernel_rfl
 rw[show(10000:Nat)=9999+1 from rfl,run_equalIn_agg w 9999 82 _ _ c d];simp only[Program.fieldsOf,Tryz.underlying82];rw[aE3];clear c;go_simp;by_cases e:s.toList=t.toList<;>by_cases f:n=m<;>by_cases g:a=b<;>simp[e,f,g]
theorem aBh:(binOp .neq 82 (.agg #[.string s,.int .i64 n,.int .i64 a]) (.agg #[.string t,.int .i64 m,.int .i64 b])).run prog w=.ok (.bool (!decide (((s,(n,a)):Mk)=(t,(m,b))))) w:=by
 rw[run_neq_struct,aAS];rfl
theorem aGn:(binOp .eql 82 (.agg #[.string s,.int .i64 n,.int .i64 a]) (.agg #[.string t,.int .i64 m,.int .i64 b])).run prog w=.ok (.bool (decide (((s,(n,a)):Mk)=(t,(m,b))))) w:=by
 rw[run_eql_struct,aAS];rfl
theorem aCK(v:Value)(l:List Dt)(p1 p2:Int)(w:World)(h:DtsAt w v l)(hn:l.length<=1048576):
  Calls prog 124 #[v,.agg #[.int .i64 p1,.int .i64 p2]] w fun e w'=>e=.returned (.bool (decide ((p1,p2) ∈ l)))/\zB w w':=by
 obtain⟨q,c,rfl,y,_⟩:=h;obtain⟨n,d⟩:∃n,l.length=n:=⟨_,rfl⟩;rw[d] at hn;rw[d];have B:=z9 d;have M:=z9 y;have F:Hid (zB w (w.alloc (.cells #[zI p1,zI p2] 80))):=(qD _ w).alloc (qC _) _;have G:Hid ((w.alloc (.cells #[zI p1,zI p2] 80)).cell? (zW w)=some (zI p1)/\(w.alloc (.cells #[zI p1,zI p2] 80)).cell? ⟨w.heap.size,1,none⟩=some (zI p2)):=eS (x:=(p1,p2)) (qD _ _);clear d y;go_in;go_wp2;go_loopw [5] (fun vi wr=>∃(k:Nat),k<=n/\vi=zI k/\Hid (∀j,j<k->l.getD j noneD≠(p1,p2))/\Hid (zB w wr)/\Hid (wr.cell? (zW w)=some (zI p1)/\wr.cell? ⟨w.heap.size,1,none⟩=some (zI p2))) (fun vi _=>n-(intOf vi).toNat)
 case atStart=>exact⟨0,by omega,rfl,fun j g=>absurd g (by omega),F,G⟩
 case round=>
  obtain⟨k,R,rfl,H,r,z⟩:=hrel;by_cases I:k<n
  ·have N:(k:Int)<n:=by omega
   obtain⟨b,o,rfl,C⟩:=M.out.some (by intro e;have:=B.out;rw[e] at this;simp at this;omega);have i:k<l.length:=by rw[B.out];exact I
   have J:=(C k i).below r.out (C k i).lt;obtain⟨x,D⟩:=zx (l.getD k noneD);rw[<-D] at J;have K:=z9 D;obtain⟨s,t⟩:=x;obtain⟨O,P⟩:=J;simp only at O P;obtain⟨S,T⟩:=z.out;have L:∀w,(binOp .eql 80 (.agg #[zI s,zI t]) (.agg #[zI p1,zI p2])).run prog w=.ok (.bool (decide (((s,t):Dt)=(p1,p2)))) w:=fun w=>oI s p1 t p2 w
   have U:prog.eqGuardType prog.depth 80=false:=by kernel_rfl
   clear C D;by_cases a:((s,t):Dt)=(p1,p2)
   ·rw[decide_eq_true a] at L
    have E:Hid (decide ((p1,p2) ∈ l)=true):=by
     rw[Hid,decide_eq_true_eq,<-a,K.out];exact cC i
    clear a;go_wp2;go_quiet (fail)
    go_wp2;go_ret;exact⟨by rw[E.out];rfl,aC r.out _⟩
   ·rw[decide_eq_false a] at L
    have Q:Hid (∀j,j<k+1->l.getD j noneD≠(p1,p2)):=by
     intro j g;rcases jS.1 g with h | rfl
     ·exact H.out j h
     ·rw[<-K.out];exact fun e=>a e
    clear a;go_wp2;go_quiet (fail)
    go_wp2;go_roundw
    case rel=>exact⟨k+1,by omega,by go_num,Q,aC r.out _,z.out⟩
    case measure=>simp[intOf];omega
  ·obtain rfl:k=n:=by omega
   have E:Hid (decide ((p1,p2) ∈ l)=false):=by
    rw[Hid,decide_eq_false_iff_not];intro h;obtain⟨j,g,e⟩:=yA.1 h;have:=H.out j (by rw[<-B.out];exact g);rw[qA,qB g] at this;exact absurd e this
   go_wp2;go_ret;exact⟨by rw[E.out];rfl,r.out⟩
end Np
end Go.Proofs.YtjcemlmlfoilmaaGreatDoor
