import Derived.Test.YtjcemlmlfoilmaaGreatDoorJ4
import Derived.Lib.AppendZeros
import Derived.Deep.RegionWith
import Derived.RegionTactic
import Derived.BigRegion
import Derived.Laws.StructEq
set_option linter.unusedVariables false
set_option maxRecDepth 100000
set_option maxHeartbeats 8000000
namespace Go.Proofs.YtjcemlmlfoilmaaGreatDoor
open Go.RowKit Cm Na Nc Ka Nd Nse
open Go.Proofs.Tryz (prog)
namespace Nf
open La (aS)
theorem fZ:(prog.info? 82).map (fun i=>(i.zero,i.size,i.bytes))=some (some (.agg #[.string ⟨#[]⟩,.int .i64 0,.int .i64 0]),3,32):=by kernel_rfl
def Part (w:World) (v:Value) (l:List Mk):Prop:=(v=.slice none 0 0∧l=[])∨∃ad c,v=.slice (some ad) l.length c∧∀i u,(flat l)[i]? =some u→w.cell? (ad.add i)=some u
variable {w:World}{v:Value}{l:List Mk}(n c:Nat)(L:Nat->List Mk)
theorem Part.below{w':World}(h:Part w v l)(hb:zB w w'):Part w' v l:=by
 rcases h with h | ⟨ad,c,h1,h2⟩
 ·exact qH h
 ·exact qF ⟨ad,c,h1,fun i u hu=>(hb.cell (qJ _ _ (h2 i u hu))).trans (h2 i u hu)⟩
theorem Part.len(h:Part w v l):∃p c,v=.slice p l.length c:=by
 rcases h with⟨rfl,rfl⟩ | ⟨ad,c,rfl,_⟩
 ·exact⟨none,0,rfl⟩
 ·exact⟨some ad,c,rfl⟩
theorem sE{b o:Nat}(h:∀j,j<l.length->MAt w b o j (l.getD j none1)):Part w (.slice (some ⟨b,o,none⟩) l.length c) l:=
 qF ⟨_,c,rfl,fun i u hu=>by rw[jU];exact gM h i u hu⟩
def cat (L:Nat→List Mk) (k:Nat):List Mk:=(List.range k).flatMap L
theorem dD(k:Nat):cat L (k+1)=cat L k++L k:=by
 unfold cat;rw[yV,vA];simp
theorem aCa{L:Nat->List Mk}{i j:Nat}(h:i<=j):(cat L i).length<=(cat L j).length:=by
 induction h with
 | refl=>exact qC _
 | step _ ih=>rw[dD,qE];omega
theorem dL(ad:Addr)(n c:Nat)(l:List Mk)(w:World)(hl:l.length=n)(hn2:n<=1048576)(hc:∀j u,(flat l)[j]? =some u->w.cell? (ad.add j)=some u):
  Calls prog 57 #[.slice (some ad) n c] w fun e w'=>∃v,e=.returned v/\w'.ownsRow w.heap.size 82 3 v n (flat l)/\zB w w':=by
 obtain⟨k,m,b,d,f⟩:=info_parts fZ
 have o:Hid (∀j u,(flat l)[j]? =some u->(w.alloc (.cells #[] 82)).cell? (ad.add j)=some u):=by
  intro j u hu;exact aA ((qD _ w).alloc (qC _) _) (hc j u hu)
 have p:=z9 hl
 have q:Hid ((w.alloc (.cells #[] 82)).ownsRow w.heap.size 82 3 (.slice (some (zW w)) 0 0) 0 []):=
  ⟨rfl,qF ⟨w.heap.size,0,#[],rfl,qC _,heap_alloc_new w _,qC _,by unfold maxLen;omega,rfl,rfl⟩⟩
 have r:∀(a:Addr) (n c:Nat) (w:World),Sem.run prog (binOp .eql 48 (.slice (some a) n c) (zS)) w=.ok (.bool false) w:=fun _ _ _ _=>by kernel_rfl
 clear hc hl;go_in;go_wp2_with (at_builtin;refine wpList_append_own_at _ rfl (.tmp 5) (.tmp 6) 48 rfl w.heap.size 82 k (.agg #[.string ⟨#[]⟩,zI 0,zI 0]) 3 32 Tryz.underlying48 m b d f rfl (by decide) (.slice (some (zW w)) 0 0) 0 [] rfl q.out ad n c (flat l) rfl (by rw[aX,p.out]) o.out (bF l) (by unfold maxLen;omega) (by omega) (by simp) ?_;intro v' w1 hown' hgrow _ hat;have g:Hid (w1.ownsRow w.heap.size 82 3 v' n (flat l)):=(by have h:=hown';rw[qY,vC] at h;exact h);have i:Hid (zB w w1):=((qD _ w).alloc (qC _) (.cells #[] 82)).grown hgrow (by simp) (by intro j hj;simp[Value.ownBlock] at hj;omega);clear hown' hgrow hat);go_ret;exact⟨_,rfl,g.out,i.out⟩
theorem kY(w:World)(h0:0<n)(hn:n<=1048576):
  Calls prog 199 #[.slice none 0 0,.int .i64 n] w fun e w'=>∃v,e=.returned v/\w'.ownsRow w.heap.size 82 3 v 0 []/\zB w w':=by
 obtain⟨m,o,i,j,k⟩:=info_parts fZ;have h:=Lib.run_append_nil_zeros (P:=prog) w 48 3 48 82 m _ .i64 .i64 Tryz.underlying48 Tryz.underlying3 o i n h0 (by rw[j];decide) (by omega) (by rw[k];omega);have d:=grownCap_le_maxLen w n 0 82 (by unfold maxLen;omega);have l:=grownCap_ge w n 0 82;obtain⟨c,f⟩:=zx (grownCap w n 0 82);rw[<-f] at h d l;have p:c<=9223372036854775807:=by unfold maxLen at d;omega
 obtain⟨a,b⟩:=zx (Builtin.zeroCells (Value.agg #[.string ⟨#[]⟩,zI 0,zI 0]).cells n++Builtin.zeroCells (Value.agg #[.string ⟨#[]⟩,zI 0,zI 0]).cells (c-n))
 have g:a.size=c*3:=by
  rw[b,Array.size_append,size_zeroCells,size_zeroCells];have:(Value.agg #[.string ⟨#[]⟩,zI 0,zI 0]).cells.size=3:=rfl;rw[this];omega
 rw[<-b] at h
 have q:Hid ((w.drew.alloc (.cells a 82)).ownsRow w.heap.size 82 3 (.slice (some (zW w)) 0 c) 0 []):=
  ⟨rfl,qF ⟨w.heap.size,c,a,rfl,qC _,heap_alloc_new w.drew _,jW _,d,g,rfl⟩⟩
 have r:Hid (zB w (w.drew.alloc (.cells a 82))):=((qD _ w).drew).alloc (qC _) _;have s:¬(n:Int)<0:=by omega
 have t:(0:Int)<n:=by omega
 clear b f d g;go_in;go_wp2_with (at_builtin;refine Lib.wpList_append_run _ rfl _ _ _ _ rfl _ _ rfl rfl _ _ h ?_);go_ret;exact⟨_,rfl,q.out,r.out⟩
theorem aAk{base:Nat}{t:TypeId}{L:Nat->List Mk}{k:Nat}(h:w.ownsRow base t 3 v ((cat L k).length+(L k).length) (flat (cat L k)++flat (L k))):w.ownsRow base t 3 v (cat L (k+1)).length (flat (cat L (k+1))):=by
 rw[dD,qE,fE];exact h
theorem mY(g:Nat)(V:Nat->Value)(L:Nat->List Mk)(w:World)(hV:∀j,j<3->w.cell? ⟨g,j,none⟩=some (V j))(hP:∀j,j<3->Part w (V j) (L j))(h0:0<(cat L 3).length)(hn:(cat L 3).length<=1048576):
  Calls prog 193 #[.slice (some ⟨g,0,none⟩) 3 3] w fun e w'=>∃v,e=.returned v/\w'.ownsRow w.heap.size 82 3 v (cat L 3).length (flat (cat L 3))/\zB w w':=by
 obtain⟨J,K,M,N,O⟩:=info_parts fZ;have Q:=z9 hV;have R:=z9 hP;have h:Hid (∀k,k<=3->(cat L k).length<=(cat L 3).length):=fun k t=>aCa t
 obtain⟨T,E⟩:=zx ((cat L 3).length);rw[<-E] at h0 hn h |-;have S:=z9 E;clear hV hP E;go_in;go_wp2;go_loop [3,5,11] (fun s _ i=>∃(k m:Nat),k<=3/\i=zI k/\s=zI m/\Hid (m=(cat L k).length)) (fun _ _ i=>3-(intOf i).toNat)
 case atStart=>exact⟨0,0,by omega,rfl,rfl,rfl⟩
 case round=>
  obtain⟨k,m,t,rfl,rfl,F⟩:=hrel;have hm:m<=1048576:=by have h1:=h.out k t;have h2:=F.out;omega
  by_cases b:k<3
  ·have G:(k:Int)<3:=by omega
   have l:=Q.out k b;obtain⟨p,c,U⟩:=(R.out k b).len;obtain⟨r,d⟩:=zx ((L k).length);rw[U,<-d] at l;have y:Hid (m+r=(cat L (k+1)).length):=by unfold Hid;rw[dD,qE,F.out,d]
   have aj:m+r<=1048576:=by have h1:=h.out (k+1) b;have h2:=y.out;omega
   have ag:¬(m:Int)+r<0:=by omega
   clear U d;go_wp2_with fail;go_round
   case rel=>exact⟨k+1,m+r,by omega,by go_num,by go_num,y⟩
   case measure=>simp[intOf];omega
  ·obtain rfl:k=3:=by omega
   obtain rfl:m=T:=by rw[S.out];exact F.out
   have C:=kY m w h0 hn;go_wp2_with fail;refine C.mono ?_;rintro e w1 ⟨v1,rfl,z,A⟩;have B:=z9 z;have D:=z9 A;clear C z A;go_wp2_with fail;go_loopw [6,8,27] (fun v _ i wr=>∃(k:Nat),k<=3/\i=zI k/\Hid (wr.ownsRow w.heap.size 82 3 v (cat L k).length (flat (cat L k)))/\Hid (zB w wr)) (fun _ _ i _=>3-(intOf i).toNat)
   case atStart=>exact⟨0,by omega,rfl,B,D⟩
   case round=>
    clear B D;obtain⟨k,t,rfl,n,f⟩:=hrel;by_cases b:k<3
    ·have G:(k:Int)<3:=by omega
     have o:=h.out (k+1) b;rw[dD,qE] at o;have I:=Q.out k b;have l:wr.cell? ⟨g,k,none⟩=some (V k):=(f.out.cell (p:=⟨g,k,none⟩) (qJ _ _ I)).trans I;clear I;rcases(R.out k b).below f.out with⟨hv,hl0⟩ | ⟨ad,c,hv,hcc⟩
     ·rw[hv] at l;have X:=run_append_owned_none (P:=prog) (w:=wr) w.heap.size 48 48 82 J 3 Tryz.underlying48 K u6 _ _ n.out
      have Y:Hid (wr.ownsRow w.heap.size 82 3 u6 (cat L (k+1)).length (flat (cat L (k+1)))):=by
       unfold Hid;rw[dD,hl0,vY];exact n.out
      clear hv hl0 o;go_wp2_with (at_builtin;refine Lib.wpList_append_run _ rfl _ _ _ _ rfl _ _ rfl rfl _ _ X ?_);go_roundw
      case rel=>exact⟨k+1,by omega,by go_num,Y,f⟩
      case measure=>simp[intOf];omega
     ·rw[hv] at l;obtain⟨r,d⟩:=zx ((L k).length);rw[<-d] at l o;have Z:Hid ((flat (L k)).length=r*3):=by unfold Hid;rw[aX,d]
      have aa:=z9 hcc;have HR:=z9 d;clear hv hcc d;go_wp2_with (at_builtin;refine wpList_append_own_at _ rfl (.tmp 31) (.tmp 32) 48 rfl w.heap.size 82 J (.agg #[.string ⟨#[]⟩,zI 0,zI 0]) 3 32 Tryz.underlying48 K M N O rfl (by decide) u6 _ _ rfl n.out ad r c (flat (L k)) rfl Z.out aa.out (bF _) (by unfold maxLen;omega) (by omega) f.out.size ?_;intro v' w3 hown' hgrow _ hat;have ab:Hid (zB w w3):=(aS n.out f.out hgrow f.out.size);have ac:Hid (w3.ownsRow w.heap.size 82 3 v' (cat L (k+1)).length (flat (cat L (k+1)))):=(by rw[HR.out] at hown';exact aAk hown');clear hown' hgrow hat);go_roundw
      case rel=>exact⟨k+1,by omega,by go_num,ac,ab⟩
      case measure=>simp[intOf];omega
    ·obtain rfl:k=3:=by omega
     go_wp2_with fail;go_ret;exact⟨_,rfl,by rw[S.out];exact n.out,f.out⟩
end Nf
namespace Ng
open Nf
open La (bel aD aH)
def threeW (w2:World) (x:Mk) (v0 v2:Value):World:=((w2.alloc (.cells #[.string x.1,.int .i64 x.2.1,.int .i64 x.2.2] 82)).alloc (.cells #[v0,.slice (some ⟨w2.heap.size,0,none⟩) 1 1,v2] 48)).drew
variable {b o i c:Nat}(w2:World)(v:Value)(x:Mk)(v0:Value)(l:List Mk)(v2:Value)(sp:ByteArray)(p1 p2:Int)(w:World)
theorem lI:zB w2 (threeW w2 x v0 v2):=
 (((zb w2 _).alloc (by simp) _).drew)
theorem cO(l0 l2:List Mk)(h0:Part w2 v0 l0)(h2:Part w2 v2 l2)(hn:(l0++x::l2).length<=1048576):
  Calls prog 193 #[.slice (some ⟨w2.heap.size+1,0,none⟩) 3 3] (threeW w2 x v0 v2) fun e w'=>∃v,e=.returned v/\MksNew w2.heap.size w' v (l0++x::l2)/\zB w2 w':=by
 have a:=lI w2 x v0 v2
 have c:(threeW w2 x v0 v2).heap[w2.heap.size+1]? =some (.cells #[v0,.slice (some (zW w2)) 1 1,v2] 48):=by
  have:=heap_alloc_new (w2.alloc (.cells #[.string x.1,zI x.2.1,zI x.2.2] 82)) (.cells #[v0,.slice (some (zW w2)) 1 1,v2] 48)
  have e:(w2.alloc (.cells #[.string x.1,zI x.2.1,zI x.2.2] 82)).heap.size=w2.heap.size+1:=by simp
  rw[e] at this
  exact this
 have h:(threeW w2 x v0 v2).heap[w2.heap.size]? =some (.cells #[.string x.1,zI x.2.1,zI x.2.2] 82):=by
  have:=heap_alloc_old (w2.alloc (.cells #[.string x.1,zI x.2.1,zI x.2.2] 82)) (.cells #[v0,.slice (some (zW w2)) 1 1,v2] 48) (show w2.heap.size<_ by simp)
  exact this.trans (heap_alloc_new w2 _)
 have d:cat (fun j=>if j=0 then l0 else if j=1 then[x] else l2) 3=l0++x::l2:=by simp[cat,yV]
 have C:=mY (w2.heap.size+1) (fun j=>if j=0 then v0 else if j=1 then .slice (some (zW w2)) 1 1 else v2) (fun j=>if j=0 then l0 else if j=1 then[x] else l2) (threeW w2 x v0 v2) (by
   intro j hj
   match j,hj with
   | 0,_=>simp only[World.cell?,c];rfl
   | 1,_=>simp only[World.cell?,c];rfl
   | 2,_=>simp only[World.cell?,c];rfl) (by
   intro j hj
   match j,hj with
   | 0,_=>exact h0.below a
   | 1,_=>
    refine qF ⟨(zW w2),1,rfl,fun i u hu=> ?_⟩
    rw[jU,qY]
    simp only[World.cell?,h]
    have e:flat [x]=[.string x.1,zI x.2.1,zI x.2.2]:=rfl
    have b:(flat [x])[i]? =some u:=hu
    rw[e] at b
    simpa using b
   | 2,_=>exact h2.below a) (by rw[d];simp;omega) (by rw[d];exact hn)
 refine C.mono ?_
 rintro e w' ⟨v,rfl,f,g⟩
 rw[d] at f
 exact⟨v,rfl,⟨gR f,(La.Lies.own f).mono a.size⟩,bel a g⟩
theorem take_part{w:World}{l:List Mk}(hi:i<=l.length)(h:∀j,j<l.length->MAt w b o j (l.getD j none1)):Part w (.slice (some ⟨b,o,none⟩) i c) (l.take i):=by
 have e:(l.take i).length=i:=by rw[qQ];omega
 have:=sE (w:=w) (b:=b) (o:=o) (l:=l.take i) c (fun j hj=>by
  rw[e] at hj
  have:(l.take i).getD j none1=l.getD j none1:=by
   rw[qA,qA,jC hj]
  rw[this];exact h j (by omega))
 rw[e] at this;exact this
theorem drop_part{w:World}{n:Nat}{l:List Mk}{ad:Addr}(hl:l.length=n)(hi:i<=n)(hc:n<=c)(had:(if c=i then some (⟨b,o,none⟩:Addr) else some ⟨b,o+i*3,none⟩)=some ad)(h:∀j,j<l.length->MAt w b o j (l.getD j none1)):Part w (.slice (some ad) (n-i) (c-i)) (l.drop i):=by
 have e:(l.drop i).length=n-i:=by rw[xH,hl]
 by_cases a:c=i
 ·have f:l.drop i=[]:=xM (by omega);have g:n-i=0:=by omega
  rw[f,g];exact qF ⟨ad,c-i,rfl,fun j u hu=>by simp[flat] at hu⟩
 ·rw[if_neg a] at had;injection had with had
  subst had
  have:=sE (w:=w) (b:=b) (o:=o+i*3) (l:=l.drop i) (c-i) (fun j hj=>by
   rw[e] at hj
   have k:(l.drop i).getD j none1=l.getD (i+j) none1:=by
    rw[qA,qA,xQ]
   rw[k];have d:=h (i+j) (by omega);unfold MAt at d |-;rw[show o+i*3+j*3=o+(i+j)*3 by omega];exact d)
  rw[e] at this;exact this
theorem aHP(hA:MksAt w v l)(hs:∀x ∈ l,x.1.size<=maxLen)(hp:sp.size<=maxLen)(h0:marksE l≠0):
  Calls prog 181 #[v,.agg #[.string sp,.int .i64 p1,.int .i64 p2]] w fun e w'=>e=.returned (.tuple #[.slice none 0 0,errV (marksE l)])/\zB w w':=by
 have b:zB w (w.alloc (.cells #[.string sp,zI p1,zI p2] 82)):=zb w _;have C:=cY v l _ (hA.below b) hs;obtain⟨q,c⟩:=zx (marksE l);rw[aH h0,<-c] at C |-;clear h0 c hs hp hA b;go_in;go_wp2_with fail;refine C.mono ?_;rintro e w2 ⟨rfl,a⟩;have d:Hid (zB w w2):=bE (qD _ w) a;obtain⟨g,h,i⟩:=bC (x:=(sp,(p1,p2))) a;simp only at g h i;clear a C;go_wp2_with fail;go_ret2;exact⟨rfl,d.out⟩
theorem aEK(hA:MksAt w v l)(hs:∀x ∈ l,x.1.size<=maxLen)(hp:sp.size<=maxLen)(h0:marksE l=0)(hm0:markE (sp,(p1,p2))≠0):
  Calls prog 181 #[v,.agg #[.string sp,.int .i64 p1,.int .i64 p2]] w fun e w'=>e=.returned (.tuple #[.slice none 0 0,errV (markE (sp,(p1,p2)))])/\zB w w':=by
 have c:zB w (w.alloc (.cells #[.string sp,zI p1,zI p2] 82)):=(qD _ w).alloc (qC _) _;have C:=cY v l _ (hA.below c) hs;rw[h0,aD] at C;have d:=fun W=>cF sp p1 p2 W hp
 obtain⟨q,i⟩:=zx (markE (sp,(p1,p2)));rw[aH hm0,<-i] at d |-;clear h0 hm0 i hs hp hA c;go_in;go_wp2_with fail;refine C.mono ?_;rintro e w2 ⟨rfl,b⟩;have j:Hid (zB w w2):=bE (qD _ w) b;obtain⟨f,g,h⟩:=bC (x:=(sp,(p1,p2))) b;simp only at f g h;clear b C;go_wp2_with fail;refine(d w2).mono ?_;rintro e w3 ⟨rfl,a⟩;have k:=z9 (bel j.out a);have n:=aA a f;have o:=aA a g;have p:=aA a h;clear a d f g h;go_wp2_with fail;go_ret2;exact⟨rfl,k.out⟩
theorem aDZ(ad:Addr)(n c:Nat)(l:List Mk)(sp:ByteArray)(p1 p2:Int)(w:World)(hA:MksAt w (.slice (some ad) n c) l)(hs:∀x ∈ l,x.1.size <=maxLen)(hp:sp.size <=maxLen)(h0:marksE l=0)(hm0:markE (sp,(p1,p2))=0)(ht:there l (sp,(p1,p2))=true):
  Calls prog 181 #[(.slice (some ad) n c),.agg #[.string sp,.int .i64 p1,.int .i64 p2]] w fun e w'=>∃v',e=.returned (.tuple #[v',.nilIface]) /\ MksNew w.heap.size w' v' (ins mlt l (sp,(p1,p2))) /\ zB w w':=by
 have r:zB w (w.alloc (.cells #[.string sp,zI p1,zI p2] 82)):=(qD _ w).alloc (qC _) _;have C:=cY (.slice (some ad) n c) l _ (hA.below r) hs;rw[h0,aD] at C;have B:=fun W=>cF sp p1 p2 W hp
 rw[hm0,aD] at B;obtain⟨D,_,I⟩:=aY.1 h0;obtain⟨p,c',Y,f,J,K,_⟩:=hA;injection Y with hv1 hv2 hv3
 subst hv1 hv3;have E:l.length=n:=hv2.symm
 have s:Hid (∀w2,zB w w2 -> Calls prog 192 #[.slice (some ad) n c,.agg #[.string sp,zI p1,zI p2],.func (.func 177) #[] #[]] w2 fun e w'=>e=.returned (.tuple #[zI (pos mlt l (sp,(p1,p2))),.bool true]) /\ zB w2 w'):=fun w2 hb=>by
  have:=dS (some ad) n c l sp p1 p2 w2 E (f.below hb) I (by omega);rw[ht] at this;exact this
 have t:l≠[]:=by rintro rfl;rw[there] at ht;simp at ht
 obtain⟨b,o,g,h⟩:=f.some t;injection g with g
 subst g;have L:Hid (ins mlt l (sp,(p1,p2))=l):=wD (dZ.1 ht)
 have M:Hid (∀w2,zB w w2 -> Calls prog 57 #[.slice (some ⟨b,o,none⟩) n c] w2 fun e w'=>∃v,e=.returned v /\ w'.ownsRow w2.heap.size 82 3 v n (flat l) /\ zB w2 w'):=
  fun w2 hb=>dL ⟨b,o,none⟩ n c l w2 E (by omega) (fun j u hu=>by rw[jU];exact gM (fun j hj=>(h j hj).below hb (h j hj).lt) j u hu)
 obtain⟨i,N⟩:=zx (pos mlt l (sp,(p1,p2)));rw[<- N] at s;clear E f I ht t h N J K D hv2;clear h0 hm0 hs hp r;go_in;go_wp2_with fail;refine C.mono ?_;rintro e w2 ⟨rfl,k⟩;have O:Hid (zB w w2):=bE (qD _ w) k;obtain⟨F,G,H⟩:=bC (x:=(sp,(p1,p2))) k;simp only at F G H;clear k C;go_wp2_with fail;refine(B w2).mono ?_;rintro e w3 ⟨rfl,a⟩;have y:=z9 (bel O.out a);have P:=aA a F;have Q:=aA a G;have R:=aA a H;clear a B F G H;have S:=s.out w3 y.out;go_wp2_with fail;refine S.mono ?_;rintro e w4 ⟨rfl,d⟩;have m:=z9 (bel y.out d);have f0:=aA d P;have f1:=aA d Q;have f2:=aA d R;clear d S P Q R;have T:=M.out w4 m.out;go_wp2_with fail;refine T.mono ?_;rintro e w5 ⟨Z,rfl,q,z⟩;have U:=z9 (bel m.out z);have V:Hid (MksNew w.heap.size w5 Z l):=⟨gR q,(La.Lies.own q).mono m.out.size⟩;clear q z T;go_wp2_with fail;go_ret2;exact⟨_,rfl,by rw[L.out];exact V.out,U.out⟩
theorem aFt(q:Option Addr)(n c:Nat)(l:List Mk)(sp:ByteArray)(p1 p2:Int)(w:World)(hA:MksAt w (.slice q n c) l)(hs:∀x ∈ l,x.1.size<=maxLen)(hp:sp.size<=maxLen)(h0:marksE l=0)(hm0:markE (sp,(p1,p2))=0)(ht:there l (sp,(p1,p2))=false)(h40:40<=n):
  Calls prog 181 #[(.slice q n c),.agg #[.string sp,.int .i64 p1,.int .i64 p2]] w fun e w'=>e=.returned (.tuple #[.slice none 0 0,.iface 59 (.int .i64 4)])/\zB w w':=by
 have f:zB w (w.alloc (.cells #[.string sp,zI p1,zI p2] 82)):=(qD _ w).alloc (qC _) _;have C:=cY (.slice q n c) l _ (hA.below f) hs;rw[h0,aD] at C;have k:=fun W=>cF sp p1 p2 W hp
 rw[hm0,aD] at k;obtain⟨m,_,v⟩:=aY.1 h0;obtain⟨p,c',K,g,y,z,_⟩:=hA;injection K with hv1 hv2 hv3
 subst hv1 hv3;have A:l.length=n:=hv2.symm
 have h:Hid (∀w2,zB w w2->Calls prog 192 #[.slice q n c,.agg #[.string sp,zI p1,zI p2],.func (.func 177) #[] #[]] w2 fun e w'=>e=.returned (.tuple #[zI (pos mlt l (sp,(p1,p2))),.bool false])/\zB w2 w'):=fun w2 hb=>by
  have:=dS q n c l sp p1 p2 w2 A (g.below hb) v (by omega);rw[ht] at this;exact this
 obtain⟨i,B⟩:=zx (pos mlt l (sp,(p1,p2)));rw[<-B] at h;have L:(40:Int)<=n:=by omega
 clear A g v ht B y z m hv2;clear h0 hm0 hs hp f;go_in;go_wp2_with fail;refine C.mono ?_;rintro e w2 ⟨rfl,d⟩;have D:Hid (zB w w2):=bE (qD _ w) d;obtain⟨o,r,s⟩:=bC (x:=(sp,(p1,p2))) d;simp only at o r s;clear d C;go_wp2_with fail;refine(k w2).mono ?_;rintro e w3 ⟨rfl,a⟩;have j:=z9 (bel D.out a);have E:=aA a o;have F:=aA a r;have G:=aA a s;clear a k o r s;have H:=h.out w3 j.out;go_wp2_with fail;refine H.mono ?_;rintro e w4 ⟨rfl,b⟩;have I:=z9 (bel j.out b);have M:=aA b E;have N:=aA b F;have O:=aA b G;clear b H E F G;go_wp2_with fail;go_ret2;exact⟨rfl,I.out⟩
end Ng
namespace Nh
open Ng
open La (bel aD)
theorem aDe(m:Mk):pos mlt [] m=0:=rfl
theorem hO(m:Mk):there ([]:List Mk) m=false:=by rw[there];simp
theorem wZ{l:List Mk}{m:Mk}(h:there l m=false):ins mlt l m=l.take (pos mlt l m)++m::l.drop (pos mlt l m):=by
 unfold ins;rw[if_neg];intro h2;rw[dZ.2 h2] at h;cases h
theorem aHw(b o n c:Nat)(l:List Mk)(sp:ByteArray)(p1 p2:Int)(w:World)(hl:l.length=n)(hcs:∀j,j<l.length->MAt w b o j (l.getD j none1))(hcc:n<=c)(hcm:c<=maxLen)(hs:∀x ∈ l,x.1.size<=maxLen)(hp:sp.size<=maxLen)(h0:marksE l=0)(hm0:markE (sp,(p1,p2))=0)(ht:there l (sp,(p1,p2))=false)(h40:n<40):
  Calls prog 181 #[.slice (some ⟨b,o,none⟩) n c,.agg #[.string sp,.int .i64 p1,.int .i64 p2]] w fun e w'=>∃v',e=.returned (.tuple #[v',.nilIface])/\MksNew w.heap.size w' v' (ins mlt l (sp,(p1,p2)))/\zB w w':=by
 have f:MarksIn w (some ⟨b,o,none⟩) l:=qF ⟨b,o,rfl,hcs⟩;have J:MksAt w (.slice (some ⟨b,o,none⟩) n c) l:=⟨_,c,by rw[hl],f,by omega,hcm,fun h=>by cases h⟩;have r:zB w (w.alloc (.cells #[.string sp,zI p1,zI p2] 82)):=zb w _;have C:=cY _ l _ (J.below r) hs;rw[h0,aD] at C;have B:=fun W=>cF sp p1 p2 W hp
 rw[hm0,aD] at B;obtain⟨D,_,K⟩:=aY.1 h0
 have s:Hid (∀w2,zB w w2->Calls prog 192 #[.slice (some ⟨b,o,none⟩) n c,.agg #[.string sp,zI p1,zI p2],.func (.func 177) #[] #[]] w2 fun e w'=>e=.returned (.tuple #[zI (pos mlt l (sp,(p1,p2))),.bool false])/\zB w2 w'):=fun w2 hb=>by
  have:=dS (some ⟨b,o,none⟩) n c l sp p1 p2 w2 hl (f.below hb) K (by omega);rw[ht] at this;exact this
 have t:=z9 (wZ ht);have g:=aF7 (lt:=mlt) l (sp,(p1,p2));rw[hl] at g;obtain⟨i,L⟩:=zx (pos mlt l (sp,(p1,p2)));rw[<-L] at s t g;have hz:¬(40:Int)<=n:=by omega
 have Z:(i:Int)<=n:=by omega
 have Y:(i:Int)<=c:=by omega
 unfold maxLen at hcm
 obtain⟨E,M⟩:∃E,(if c=i then some (⟨b,o,none⟩:Addr) else some ⟨b,o+i*3,none⟩)=some E:=by
  by_cases e:c=i
  ·exact⟨⟨b,o,none⟩,by rw[if_pos e]⟩
  ·exact⟨⟨b,o+i*3,none⟩,by rw[if_neg e]⟩
 have N:Hid (∀w2,zB w w2->Calls prog 193 #[.slice (some (zV w2)) 3 3] (threeW w2 (sp,(p1,p2)) (.slice (some ⟨b,o,none⟩) i c) (.slice (some E) (n-i) (c-i))) fun e w'=>∃v,e=.returned v/\MksNew w2.heap.size w' v (l.take i++(sp,(p1,p2))::l.drop i)/\zB w2 w'):=by
  intro w2 hb;have O:∀j,j<l.length->MAt w2 b o j (l.getD j none1):=fun j hj=>(hcs j hj).below hb (hcs j hj).lt
  refine cO w2 (sp,(p1,p2)) _ _ _ _ (take_part (by omega) O) (drop_part hl g hcc M O) ?_;rw[qE,qV,qQ,xH];omega
 clear hl hcs f J K ht L r h0 hm0 hs hp D;go_in;go_wp2_with fail;refine C.mono ?_;rintro e w2 ⟨rfl,m⟩;have P:Hid (zB w w2):=bE (qD _ w) m;obtain⟨F,G,H⟩:=bC (x:=(sp,(p1,p2))) m;simp only at F G H;clear m C;go_wp2_with fail;refine(B w2).mono ?_;rintro e w3 ⟨rfl,a⟩;have y:=z9 (bel P.out a);have Q:=aA a F;have R:=aA a G;have S:=aA a H;clear a B F G H;have T:=s.out w3 y.out;go_wp2_with fail;refine T.mono ?_;rintro e w4 ⟨rfl,d⟩;have p:=z9 (bel y.out d);have f0:=aA d Q;have f1:=aA d R;have f2:=aA d S;clear d T Q R S;have I:=N.out w4 p.out;unfold threeW at I;simp only at I;go_wp2_with fail;go_region_with (go_at_call 193;refine I.mono ?_;rintro e w6 ⟨v6,rfl,z,A⟩;have U:=z9 (z.mono p.out.size);have V:=z9 (bel p.out A);clear z A)
 all_goals
  go_wp2_with fail;go_ret2;exact⟨_,rfl,by rw[t.out];exact U.out,V.out⟩
theorem aGl(sp:ByteArray)(p1 p2:Int)(w:World)(hA:MksAt w (.slice none 0 0) [])(hp:sp.size<=maxLen)(hm0:markE (sp,(p1,p2))=0):
  Calls prog 181 #[.slice none 0 0,.agg #[.string sp,.int .i64 p1,.int .i64 p2]] w fun e w'=>∃v',e=.returned (.tuple #[v',.nilIface])/\MksNew w.heap.size w' v' (ins mlt [] (sp,(p1,p2)))/\zB w w':=by
 have f:zB w (w.alloc (.cells #[.string sp,zI p1,zI p2] 82)):=zb w _;have C:=cY _ [] _ (hA.below f) (by intro x hx;simp at hx);rw[show marksE []=0 from rfl,aD] at C;have j:=fun W=>cF sp p1 p2 W hp
 rw[hm0,aD] at j
 have o:Hid (∀w2,zB w w2->Calls prog 192 #[zS,.agg #[.string sp,zI p1,zI p2],.func (.func 177) #[] #[]] w2 fun e w'=>e=.returned (.tuple #[zI 0,.bool false])/\zB w2 w'):=fun w2 hb=>by
  have:=dS none 0 0 [] sp p1 p2 w2 rfl (qH rfl) List.Pairwise.nil (by omega);rw[hO,aDe] at this;exact this
 have p:Hid (ins mlt [] (sp,(p1,p2))=[]++(sp,(p1,p2))::[]):=wZ (hO _)
 have q:Hid (∀w2,zB w w2->Calls prog 193 #[.slice (some (zV w2)) 3 3] (threeW w2 (sp,(p1,p2)) (zS) (zS)) fun e w'=>∃v,e=.returned v/\MksNew w2.heap.size w' v ([]++(sp,(p1,p2))::[])/\zB w2 w'):=
  fun w2 _=>cO w2 (sp,(p1,p2)) _ _ [] [] (qH ⟨rfl,rfl⟩) (qH ⟨rfl,rfl⟩) (by simp)
 clear hA hp hm0 f;go_in;go_wp2_with fail;refine C.mono ?_;rintro e w2 ⟨rfl,c⟩;have r:Hid (zB w w2):=bE (qD _ w) c;obtain⟨k,l,m⟩:=bC (x:=(sp,(p1,p2))) c;simp only at k l m;clear c C;go_wp2_with fail;refine(j w2).mono ?_;rintro e w3 ⟨rfl,a⟩;have g:=z9 (bel r.out a);have s:=aA a k;have t:=aA a l;have y:=aA a m;clear a j k l m;have z:=o.out w3 g.out;go_wp2_with fail;refine z.mono ?_;rintro e w4 ⟨rfl,b⟩;have d:=z9 (bel g.out b);have E:=aA b s;have F:=aA b t;have G:=aA b y;clear b z s t y;have n:=q.out w4 d.out;unfold threeW at n;simp only at n;go_wp2_with fail;go_region_with (go_at_call 193;refine n.mono ?_;rintro e w6 ⟨H,rfl,h,i⟩;have A:=z9 (h.mono d.out.size);have B:=z9 (bel d.out i);clear h i)
 all_goals
  go_wp2_with fail;go_ret2;exact⟨_,rfl,by rw[p.out];exact A.out,B.out⟩
theorem aEy(a:Addr)(c:Nat)(sp:ByteArray)(p1 p2:Int)(w:World)(hA:MksAt w (.slice (some a) 0 c) [])(hp:sp.size<=maxLen)(hm0:markE (sp,(p1,p2))=0)(hcm:c<=maxLen):
  Calls prog 181 #[.slice (some a) 0 c,.agg #[.string sp,.int .i64 p1,.int .i64 p2]] w fun e w'=>∃v',e=.returned (.tuple #[v',.nilIface])/\MksNew w.heap.size w' v' (ins mlt [] (sp,(p1,p2)))/\zB w w':=by
 have h:zB w (w.alloc (.cells #[.string sp,zI p1,zI p2] 82)):=zb w _;have C:=cY _ [] _ (hA.below h) (by intro x hx;simp at hx);rw[show marksE []=0 from rfl,aD] at C;have m:=fun W=>cF sp p1 p2 W hp
 rw[hm0,aD] at m
 have r:Hid (∀w2,zB w w2->Calls prog 192 #[.slice (some a) 0 c,.agg #[.string sp,zI p1,zI p2],.func (.func 177) #[] #[]] w2 fun e w'=>e=.returned (.tuple #[zI 0,.bool false])/\zB w2 w'):=fun w2 hb=>by
  have:=dS (some a) 0 c [] sp p1 p2 w2 rfl (qH rfl) List.Pairwise.nil (by omega);rw[hO,aDe] at this;exact this
 have s:Hid (ins mlt [] (sp,(p1,p2))=[]++(sp,(p1,p2))::[]):=wZ (hO _)
 have t:Hid (∀w2,zB w w2->Calls prog 193 #[.slice (some (zV w2)) 3 3] (threeW w2 (sp,(p1,p2)) (.slice (some a) 0 c) (.slice (some a) 0 c)) fun e w'=>∃v,e=.returned v/\MksNew w2.heap.size w' v ([]++(sp,(p1,p2))::[])/\zB w2 w'):=
  fun w2 _=>cO w2 (sp,(p1,p2)) _ _ [] [] (qF ⟨a,c,rfl,fun j u hu=>by simp[flat] at hu⟩) (qF ⟨a,c,rfl,fun j u hu=>by simp[flat] at hu⟩) (by simp)
 unfold maxLen at hcm;have H:(0:Int)<=c:=by omega
 clear hA hp hm0 h;go_in;go_wp2_with fail;refine C.mono ?_;rintro e w2 ⟨rfl,f⟩;have y:Hid (zB w w2):=bE (qD _ w) f;obtain⟨n,o,p⟩:=bC (x:=(sp,(p1,p2))) f;simp only at n o p;clear f C;go_wp2_with fail;refine(m w2).mono ?_;rintro e w3 ⟨rfl,b⟩;have i:=z9 (bel y.out b);have z:=aA b n;have A:=aA b o;have B:=aA b p;clear b m n o p;have D:=r.out w3 i.out;go_wp2_with fail;refine D.mono ?_;rintro e w4 ⟨rfl,d⟩;have g:=z9 (bel i.out d);have I:=aA d z;have J:=aA d A;have K:=aA d B;clear d D z A B;have q:=t.out w4 g.out;unfold threeW at q;simp only at q;go_wp2_with fail;go_region_with (go_at_call 193;refine q.mono ?_;rintro e w6 ⟨L,rfl,k,l⟩;have E:=z9 (k.mono g.out.size);have F:=z9 (bel g.out l);clear k l)
 all_goals
  go_wp2_with fail;go_ret2;exact⟨_,rfl,by rw[s.out];exact E.out,F.out⟩
theorem aHl(v:Value)(l:List Mk)(sp:ByteArray)(p1 p2:Int)(w:World)(h:MksAt w v l)(hs:∀x ∈ l,x.1.size<=maxLen)(hp:sp.size<=maxLen):
  Calls prog 181 #[v,.agg #[.string sp,.int .i64 p1,.int .i64 p2]] w fun e w'=>∃v',e=.returned (.tuple #[v',errV (cutE l (sp,(p1,p2)))])/\MksNew w.heap.size w' v' (cutL l (sp,(p1,p2)))/\zB w w':=by
 by_cases f:marksE l=0
 ·by_cases d:markE (sp,(p1,p2))=0
  ·have A:cutE l (sp,(p1,p2))=withM l (sp,(p1,p2)):=by unfold cutE;rw[if_neg (by simpa using f),if_neg (by simpa using d)]
   obtain⟨B,_,H⟩:=aY.1 f
   have C:=h
   obtain⟨p,c,rfl,k,D,m,s⟩:=C
   cases ht:there l (sp,(p1,p2))
   ·by_cases n:40<=l.length
    ·have e:cutE l (sp,(p1,p2))=4:=by rw[A];unfold withM;rw[if_neg (by rw[ht];decide),if_pos n]
     have g:cutL l (sp,(p1,p2))=[]:=by unfold cutL;rw[e,if_neg (by decide)]
     rw[e,g]
     refine(aFt p _ c l sp p1 p2 w h hs hp f d ht n).mono ?_
     rintro e w' ⟨rfl,j⟩
     exact⟨_,rfl,MksNew.nil _ _,j⟩
    ·have e:cutE l (sp,(p1,p2))=0:=oV.2 ⟨f,d,qF (by omega)⟩
     have g:cutL l (sp,(p1,p2))=ins mlt l (sp,(p1,p2)):=by unfold cutL;rw[if_pos e]
     rw[e,g,aD]
     by_cases q:l=[]
     ·subst q
      cases p with
      | none=>
       have t:=s rfl
       subst t
       exact aGl sp p1 p2 w h hp d
      | some a=>exact aEy a c sp p1 p2 w h hp d m
     ·obtain⟨b,o,rfl,r⟩:=k.some q
      exact aHw b o _ c l sp p1 p2 w rfl r D m hs hp f d ht (by omega)
   ·have e:cutE l (sp,(p1,p2))=0:=oV.2 ⟨f,d,qH (dZ.1 ht)⟩
    have g:cutL l (sp,(p1,p2))=ins mlt l (sp,(p1,p2)):=by unfold cutL;rw[if_pos e]
    rw[e,g,aD]
    have y:l≠[]:=by rintro rfl;rw[hO] at ht;cases ht
    obtain⟨b,o,rfl,r⟩:=k.some y
    exact aDZ _ _ c l sp p1 p2 w h hs hp f d ht
  ·have e:cutE l (sp,(p1,p2))=markE (sp,(p1,p2)):=by unfold cutE;rw[if_neg (by simpa using f),if_pos d]
   have g:cutL l (sp,(p1,p2))=[]:=by unfold cutL;rw[e,if_neg d]
   rw[e,g]
   refine(aEK v l sp p1 p2 w h hs hp f d).mono ?_
   rintro e w' ⟨rfl,j⟩
   exact⟨_,rfl,MksNew.nil _ _,j⟩
 ·have e:cutE l (sp,(p1,p2))=marksE l:=by unfold cutE;rw[if_pos f]
  have g:cutL l (sp,(p1,p2))=[]:=by unfold cutL;rw[e,if_neg f]
  rw[e,g]
  refine(aHP v l sp p1 p2 w h hs hp f).mono ?_
  rintro e w' ⟨rfl,j⟩
  exact⟨_,rfl,MksNew.nil _ _,j⟩
end Nh
namespace Ni
open Go.WideShapes
open La (aD aS)
theorem aDj:(prog.info? 80).map (fun i=>(i.zero,i.size,i.bytes))=some (some (.agg #[.int .i64 0,.int .i64 0]),2,16):=by kernel_rfl
theorem rR(w:World)(a b:Int)(t:TypeId):∀j u,(flatD [(a,b)])[j]? =some u->(w.alloc (.cells #[.int .i64 a,.int .i64 b] t)).cell? ((⟨w.heap.size,0,none⟩:Addr).add j)=some u:=by
 intro j u hu;have c:(w.alloc (.cells #[zI a,zI b] t)).heap[w.heap.size]? =some (.cells #[zI a,zI b] t):=heap_alloc_new w _;have e:flatD [(a,b)]=[zI a,zI b]:=rfl;rw[e] at hu;rw[jU,qY];simp only[World.cell?,c];simpa using hu
theorem lH{w:World}{base:Nat}{t:TypeId}{v:Value}{n m:Nat}{a b:List Dt}(hn:a.length=n)(hm:b.length=m)(h:w.ownsRow base t 2 v (n+m) (flatD a++flatD b)):w.ownsRow base t 2 v (a++b).length (flatD (a++b)):=by
 rw[qE,nF,hn,hm];exact h
theorem pV{l:List Mk}{p:ByteArray}{k:Nat}{x:Mk}(hk:k<l.length)(hx:x=l.getD k none1):
  dotsAt (l.take (k+1)) p=if x.1=p then dotsAt (l.take k) p++[x.2] else dotsAt (l.take k) p:=by
 have e:l.take (k+1)=l.take k++[x]:=by
  rw[hx,qA,qB hk,jV,qB hk];rfl
 unfold dotsAt at';rw[e,vS,xL];by_cases h:x.1=p
 ·simp[h]
 ·simp[h]
theorem tQ(l:List Mk)(p:ByteArray):(dotsAt l p).length<=l.length:=by
 unfold dotsAt at';rw[jM];exact vQ _ _
theorem aGD(q:Option Addr)(n c:Nat)(l:List Mk)(p:ByteArray)(w:World)(hA:MksAt w (.slice q n c) l)(hs:∀x ∈ l,x.1.size <=maxLen)(hp:p.size <=maxLen)(h0:seenE l p=0):
  Calls prog 104 #[.slice q n c,.string p] w fun e w'=>∃v',e=.returned (.tuple #[v',.nilIface]) /\ w'.ownsRow w.heap.size 80 2 v' (dotsAt l p).length (flatD (dotsAt l p)) /\ zB w w':=by
 have C:=lB _ l p w hA hs hp;rw[h0,aD] at C;obtain⟨M,_,_⟩:=aY.1 (iL.1 h0).1;obtain⟨q',c',hv,F,R,S,_⟩:=hA;injection hv with hv1 hv2 hv3
 subst hv1 hv3;have ag:n <=40:=by omega
 have N:=z9 hv2.symm;have HI:=z9 F;obtain⟨i0,hi,T,U,V⟩:=info_parts aDj;clear hs hp h0 M F R S hv2;go_in;go_wp2_with fail;refine C.mono ?_;rintro e w1 ⟨rfl,G⟩;have H:=z9 G;clear G C;go_wp2_with fail;go_loopw [7,18] (fun d i wr=>∃(k:Nat),k <=n /\ i=zI k /\ Hid (wr.ownsRow w.heap.size 80 2 d (dotsAt (l.take k) p).length (flatD (dotsAt (l.take k) p))) /\ Hid (zB w wr)) (fun _ i _=>n-(intOf i).toNat)
 case atStart=>exact⟨0,by omega,rfl,jT _ _ _ _,H⟩
 case round=>
  clear H;obtain⟨k,hk,rfl,m,g⟩:=hrel;by_cases X:k<n
  ·have ak:(k:Int)<n:=by omega
   obtain⟨b,o,rfl,P⟩:=HI.out.some (by intro e;have:=N.out;rw[e] at this;simp at this;omega);have r:k<l.length:=by rw[N.out];exact X
   have Y:=(P k r).below g.out (P k r).lt;obtain⟨x,Q⟩:=zx (l.getD k none1);have s:Hid (dotsAt (l.take (k+1)) p=if x.1=p then dotsAt (l.take k) p++[x.2] else dotsAt (l.take k) p):=pV r Q;rw[<- Q] at Y;obtain⟨A,t,v⟩:=x;obtain⟨a1,a2,a3⟩:=Y;simp only at a1 a2 a3;have y:=tQ (l.take k) p;rw[qQ] at y;obtain⟨D,Z⟩:=zx (dotsAt (l.take k) p);rw[<- Z] at m s y;have ao:D.length <=40:=by omega
   clear P Q Z y;by_cases h:A=p
   ·subst h;have aa:Hid (dotsAt (l.take (k+1)) A=D++[(t,v)]):=by unfold Hid;rw[s.out,if_pos rfl]
    clear s;have z:Hid (∀O1 O2,zB w ((wr.alloc O1).alloc O2)):=fun O1 O2=>(g.out.alloc g.out.size O1).alloc (by have:=g.out.size;simp;omega) O2
    have ab:Hid (∀O1 O2,((wr.alloc O1).alloc O2).ownsRow w.heap.size 80 2 u7 D.length (flatD D)):=fun O1 O2=>(m.out.alloc O1).alloc O2
    have HN:Hid (∀O1,∀j u,(flatD [(t,v)])[j]? =some u -> ((wr.alloc O1).alloc (.cells #[zI t,zI v] 80)).cell? (((zV wr):Addr).add j)=some u):=by
     intro O1;have:=rR (wr.alloc O1) t v 80;rwa [show(wr.alloc O1).heap.size=wr.heap.size+1 by simp] at this
    have J:Hid (∀O1 O2,w.heap.size <=((wr.alloc O1).alloc O2).heap.size):=fun O1 O2=>by have:=g.out.size;simp;omega
    have B:D.length+1 <=maxLen:=by unfold maxLen;omega
    have E:(D.length+1)*16 <=140737488355328:=by omega
    go_wp2_with (at_builtin;refine wpList_append_own_at _ rfl (.tmp 26) (.tmp 29) 95 rfl w.heap.size 80 i0 (.agg #[zI 0,zI 0]) 2 16 Tryz.underlying95 hi T U V rfl (by decide) u7 D.length (flatD D) rfl (ab.out _ _) (zV wr) 1 1 (flatD [(t,v)]) rfl rfl (HN.out _) (lM _) B E (J.out _ _) ?_;intro v' w3 hown' hgrow _ hat;have ac:Hid (zB w w3):=aS m.out (z.out _ _) hgrow (J.out _ _);have K:=z9 (lH rfl rfl hown');clear hown' hgrow hat);rw[<- aa.out] at K;go_roundw
    case rel=>exact⟨k+1,by omega,by go_num,K,ac⟩
    case measure=>simp[intOf];omega
   ·have L:¬A.toList=p.toList:=fun e=>h (Bm.bytes_inj e)
    have ar:(A.toList==p.toList)=false:=by simpa using L
    have ad:Hid (∀O,(wr.alloc O).ownsRow w.heap.size 80 2 u7 (dotsAt (l.take (k+1)) p).length (flatD (dotsAt (l.take (k+1)) p))):=by
     intro O;rw[s.out,if_neg h];exact m.out.alloc _
    clear s L h;have z:Hid (∀O,zB w (wr.alloc O)):=fun O=>g.out.alloc g.out.size O
    go_wp2_with fail;go_roundw
    case rel=>exact⟨k+1,by omega,by go_num,ad.out _,z.out _⟩
    case measure=>simp[intOf];omega
  ·obtain rfl:k=n:=by omega
   have HD:Hid (wr.ownsRow w.heap.size 80 2 u7 (dotsAt l p).length (flatD (dotsAt l p))):=by
    have:=m.out;rwa [qW (by rw[N.out];exact qC _)] at this
   go_wp2_with fail;go_ret2;exact⟨_,rfl,HD.out,g.out⟩
end Ni
namespace Nj
open Nb
open La (bel aD aH)
theorem gI:∀{s:List Dt} {k:Nat},k<s.length->(∀j,j<k->dotE (s.getD j noneD).1 (s.getD j noneD).2=0)->dotE (s.getD k noneD).1 (s.getD k noneD).2≠0->dotsE s=dotE (s.getD k noneD).1 (s.getD k noneD).2:=by
 intro s k hk h1 h2
 have b:∀(s:List Dt) (k:Nat),k<s.length->(∀j,j<k->dotE (s.getD j noneD).1 (s.getD j noneD).2=0)->dotE (s.getD k noneD).1 (s.getD k noneD).2≠0->s.find? (fun d=>decide (dotE d.1 d.2≠0))=some (s.getD k noneD):=by
  intro s
  induction s with
  | nil=>intro k hk;simp at hk
  | cons y s ih=>
   intro k hk h1 h2
   cases k with
   | zero=>
    have a:=h2
    rw[yC (by simpa using a)];rfl
   | succ k=>
    have a:=h1 0 (by omega)
    rw[yN (by simpa using a)]
    exact ih k (by simpa using hk) (fun j hj=>h1 (j+1) (by omega)) h2
 unfold dotsE
 rw[b s k hk h1 h2]
variable {s:List Dt}
theorem all_zero(h:∀j,j<s.length->dotE (s.getD j noneD).1 (s.getD j noneD).2=0):∀d ∈ s,dotE d.1 d.2=0:=by
 intro d hd;obtain⟨j,a,e⟩:=yA.1 hd;have:=h j a;rw[qA,qB a] at this;simp only[xT] at this;rw[e] at this;exact this
theorem dotsE_cases(h:∀d ∈ s,dotE d.1 d.2=0):dotsE s=0\/dotsE s=7:=by
 unfold dotsE
 cases hf:s.find? (fun d=>decide (dotE d.1 d.2≠0)) with
 | some d=>
  have b:=yR hf
  have a:=List.find?_some hf
  simp only[decide_eq_true_eq] at a
  exact absurd (h d b) a
 | none=>simp only[];split<;>simp
theorem gL{m:Nat}(h:∀d ∈ s,dotE d.1 d.2=0)(hm:m+1<s.length)(h2:dlt (s.getD m noneD) (s.getD (m+1) noneD)=false):dotsE s=7:=by
 rcases dotsE_cases h with e | e
 ·have b:=(dQ.1 e).2;have a:=(eV dH).1 b m hm (s.getD m noneD) (s.getD (m+1) noneD) (by rw[qA,qB (by omega)];rfl) (by rw[qA,qB hm];rfl);rw[h2] at a;cases a
 ·exact e
theorem nQ(h:∀d ∈ s,dotE d.1 d.2=0)(h2:∀m,m+1<s.length->dlt (s.getD m noneD) (s.getD (m+1) noneD)=true):dotsE s=0:=by
 refine dQ.2 ⟨h,(eV dH).2 fun i hi a b ha hb=> ?_⟩;have:=h2 i hi;rw[qA,qA,ha,hb] at this;exact this
def sawE (l:List Dt):Int:=if 40<l.length then 4 else dotsE l
theorem aEs(h1:s.length<=40)(h2:dotsE s=0):sawE s=0:=by unfold sawE;rw[if_neg (by omega),h2]
theorem eS{w w2:World}{x:Dt}{t:TypeId}(hb:Below (w.alloc (.cells #[.int .i64 x.1,.int .i64 x.2] t)).heap.size (w.alloc (.cells #[.int .i64 x.1,.int .i64 x.2] t)) w2):
  w2.cell? ⟨w.heap.size,0,none⟩=some (.int .i64 x.1)/\w2.cell? ⟨w.heap.size,1,none⟩=some (.int .i64 x.2):=by
 have a:w.heap.size<(w.alloc (.cells #[zI x.1,zI x.2] t)).heap.size:=by simp
 have b:(w.alloc (.cells #[zI x.1,zI x.2] t)).heap[w.heap.size]? =some (.cells #[zI x.1,zI x.2] t):=heap_alloc_new w _;refine⟨(hb.cell (p:=(zW w)) a).trans ?_,(hb.cell (p:=⟨w.heap.size,1,none⟩) a).trans ?_⟩<;>(simp only[World.cell?,b];rfl)
theorem gT(v:Value)(l:List Dt)(w:World)(hA:DtsAt w v l):
  Calls prog 166 #[v] w fun e w'=>e=.returned (errV (sawE l)) /\ zB w w':=by
 obtain⟨p,c,rfl,h,P,af,_⟩:=hA
 obtain⟨n,H⟩:∃n,l.length=n:=⟨_,rfl⟩
 rw[H] at P
 rw[H]
 by_cases ag:40<n
 ·have R:Hid (sawE l=4):=by unfold Hid sawE;rw[H,if_pos ag]
  have hz:(40:Int)<n:=by omega
  clear H h P af
  go_in
  go_wp2
  go_ret
  exact⟨by rw[R.out];rfl,qD _ _⟩
 have R:Hid (sawE l=dotsE l):=by unfold Hid sawE;rw[H,if_neg ag]
 have hz:¬(40:Int)<n:=by omega
 clear P af
 have M:=z9 H
 have HI:=z9 h
 clear H h
 go_in
 go_wp2
 go_loopw [13] (fun i wr=>∃(k:Nat),k <=n /\ i=zI k /\ Hid (∀j,j<k -> dotE (l.getD j noneD).1 (l.getD j noneD).2=0) /\ Hid (zB w wr)) (fun i _=>n-(intOf i).toNat)
 case atStart=>exact⟨0,by omega,rfl,fun j d=>absurd d (by omega),qD _ _⟩
 case round=>
  obtain⟨k,hk,rfl,I,t⟩:=hrel
  by_cases L:k<n
  ·have S:(k:Int)<n:=by omega
   obtain⟨b,o,rfl,B⟩:=HI.out.some (by intro e;have:=M.out;rw[e] at this;simp at this;omega)
   have z:k<l.length:=by rw[M.out];exact L
   have T:=(B k z).below t.out (B k z).lt
   obtain⟨x,J⟩:=zx (l.getD k noneD)
   rw[<- J] at T
   have N:=z9 J
   obtain⟨g,r⟩:=x
   obtain⟨a1,a2⟩:=T
   simp only at a1 a2
   clear B J
   have C:=eF g r (wr.alloc (.cells #[zI g,zI r] 80))
   by_cases K:dotE g r=0
   ·rw[K,aD] at C
    have U:Hid (∀j,j<k+1 -> dotE (l.getD j noneD).1 (l.getD j noneD).2=0):=by
     intro j d
     rcases jS.1 d with h | rfl
     ·exact I.out j h
     ·rw[<- N.out];exact K
    clear K
    go_wp2_with fail
    refine C.mono ?_
    rintro e w2 ⟨rfl,F⟩
    have V:=z9 (bE t.out F)
    clear F C a1 a2
    go_wp2_with fail
    go_roundw
    case rel=>exact⟨k+1,by omega,by go_num,U,V⟩
    case measure=>simp[intOf];omega
   ·obtain⟨q,O⟩:=zx (dotE g r)
    have X:Hid (errV (sawE l)=.iface 59 (zI q)):=by
     unfold Hid;rw[R.out,gI z I.out (by rw[<- N.out];exact K), <- N.out,O,aH K]
    rw[aH K, <- O] at C
    clear K O
    go_wp2_with fail
    refine C.mono ?_
    rintro e w2 ⟨rfl,F⟩
    have V:=z9 (bE t.out F)
    clear F C
    go_wp2_with fail
    go_ret
    exact⟨by rw[X.out];rfl,V.out⟩
  ·obtain rfl:k=n:=by omega
   have HZ:=z9 (all_zero (fun j d=>I.out j (by rw[<- M.out];exact d)))
   clear I L
   go_wp2_with fail
   go_loopw [6] (fun i wr2=>∃(m:Nat),(m=0 \/ m+1 <=k) /\ i=zI ((m+1:Nat):Int) /\ Hid (∀j,j<m -> dlt (l.getD j noneD) (l.getD (j+1) noneD)=true) /\ Hid (zB w wr2)) (fun i _=>k+1-(intOf i).toNat)
   case atStart=>exact⟨0,qH rfl,rfl,fun j d=>absurd d (by omega),t⟩
   case round=>
    clear t
    obtain⟨m,hm,rfl,I,t⟩:=hrel
    by_cases L:m+1<k
    ·obtain⟨j,d⟩:∃j:Nat,j=m+1:=⟨_,rfl⟩
     have S:(j:Int)<k:=by omega
     obtain⟨b,o,rfl,B⟩:=HI.out.some (by intro e;have:=M.out;rw[e] at this;simp at this;omega)
     have z:m+1<l.length:=by rw[M.out];exact L
     have T:=(B (m+1) z).below t.out (B (m+1) z).lt
     have hb:=(B m (by omega)).below t.out (B m (by omega)).lt
     obtain⟨x,J⟩:=zx (l.getD (m+1) noneD)
     obtain⟨y,hy⟩:=zx (l.getD m noneD)
     rw[<- J, <- d] at T
     rw[<- hy] at hb
     have N:=z9 J
     have HY:=z9 hy
     obtain⟨g,r⟩:=x
     obtain⟨D,E⟩:=y
     obtain⟨a1,a2⟩:=T
     obtain⟨c1,c2⟩:=hb
     simp only at a1 a2 c1 c2
     have G:Hid (dcmp (D,E) (g,r)<0↔dlt (D,E) (g,r)=true):=rP
     obtain⟨q,O⟩:=zx (dcmp (D,E) (g,r))
     have C2:=fun W=>dN D E g r W
     rw[<- O] at C2 G
     have ax:IntKind.i64.wrap ((j:Int)-1)=(m:Int):=by rw[show(j:Int)-1=(m:Int) by omega];exact bG (by omega) (by omega)
     have ay:(m:Int)<k:=by omega
     have HJ:=z9 d
     rw[<- d]
     clear B J hy O
     by_cases az:0 <=q
     ·have X:Hid (errV (sawE l)=.iface 59 (zI 7)):=by
       have h9:dlt (D,E) (g,r)=false:=by
        cases h8:dlt (D,E) (g,r)
        ·rfl
        ·exact absurd (G.out.2 h8) (by omega)
       unfold Hid;rw[R.out,gL HZ.out z (by rw[<- N.out, <- HY.out];exact h9)];rfl
      clear d G
      go_wp2_with fail
      go_region_held3 (fun W=>W.cell? ⟨b,o+m*2,none⟩=some (zI D) /\ W.cell? ⟨b,o+m*2+1,none⟩=some (zI E) /\ W.cell? ⟨b,o+j*2,none⟩=some (zI g) /\ W.cell? ⟨b,o+j*2+1,none⟩=some (zI r)) (first | (go_keep;done) | (refine⟨aA a ?_,aA a ?_,aA a ?_,aA a ?_⟩<;>(go_split_ands;assumption))) (first
       | (go_at_call 185;refine(C2 _).mono ?_;rintro e w7 ⟨rfl,a⟩;have Y:=z9 (bel t.out.drew a)))
      all_goals
       go_wp2_with fail
       go_ret
       exact⟨by rw[X.out];rfl,Y.out⟩
     ·have h9:dlt (D,E) (g,r)=true:=G.out.1 (by omega)
      have U:Hid (∀i,i<m+1 -> dlt (l.getD i noneD) (l.getD (i+1) noneD)=true):=by
       intro i hi
       rcases jS.1 hi with h | rfl
       ·exact I.out i h
       ·rw[<- N.out, <- HY.out];exact h9
      clear h9 d G
      go_wp2_with fail
      go_region_held3 (fun W=>W.cell? ⟨b,o+m*2,none⟩=some (zI D) /\ W.cell? ⟨b,o+m*2+1,none⟩=some (zI E) /\ W.cell? ⟨b,o+j*2,none⟩=some (zI g) /\ W.cell? ⟨b,o+j*2+1,none⟩=some (zI r)) (first | (go_keep;done) | (refine⟨aA a ?_,aA a ?_,aA a ?_,aA a ?_⟩<;>(go_split_ands;assumption))) (first
       | (go_at_call 185;refine(C2 _).mono ?_;rintro e w7 ⟨rfl,a⟩;have Y:=z9 (bel t.out.drew a)))
      all_goals
       go_wp2_with fail
       go_roundw
       case rel=>exact⟨m+1,qF (by omega),by rw[HJ.out];go_num,U,Y⟩
       case measure=>have:=HJ.out;simp[intOf];omega
    ·have X:Hid (errV (sawE l)=.nilIface):=by
      unfold Hid;rw[R.out,nQ HZ.out (fun i hi=>I.out i (by rw[M.out] at hi;omega))];exact aD
     obtain⟨j,d⟩:∃j:Nat,j=m+1:=⟨_,rfl⟩
     have S:¬(j:Int)<k:=by omega
     rw[<- d]
     clear d hm
     go_wp2_with fail
     go_ret
     exact⟨by rw[X.out];rfl,t.out⟩
end Nj
end Go.Proofs.YtjcemlmlfoilmaaGreatDoor
