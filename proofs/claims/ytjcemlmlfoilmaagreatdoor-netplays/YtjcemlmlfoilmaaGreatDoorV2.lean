import Derived.Test.YtjcemlmlfoilmaaGreatDoorV1
import Derived.Lib.UnsafeStr
import Derived.Lib.BufferWrite
import Derived.Laws.MakeOwn
import Derived.RegionDies
import Derived.Deep.RegionLaw
import Derived.Defers
import Derived.Recover
set_option linter.unusedVariables false
set_option maxRecDepth 100000
set_option maxHeartbeats 8000000
namespace Go.Proofs.YtjcemlmlfoilmaaGreatDoor
open Go.RowKit Og Oi Kb Om Oc Cm Na Vd Oa
open Go.Proofs.Tryz (prog)
namespace Vg
def Rd (w:World) (g:Nat) (r:ByteArray):Prop:=w.heap[g]? =some (.cells #[.string r] 237 (0,0))
def aJg:List PanicEntry:=[{ v:=.iface 59 (.int .i64 2),recovered:=false }]
variable {w w':World}(g:Nat)(s:ByteArray)(k n:Nat)
theorem tR{g:Nat}(h:Only g w w'):w.grownBy w' (some g):=⟨h.os,h.tape,h.output,Nat.le_of_eq h.size.symm,fun k _ hne=>h.block k (fun e=>hne (by rw[e]))⟩
theorem rH{g k:Nat}(h:w.grownBy w' (some g)){o:Obj}(hk:w.heap[k]? =some o)(hne:k≠g):w'.heap[k]? =some o:=by
 have a:k<w.heap.size:=by
  rcases xR k w.heap.size with e | e
  ·exact e
  ·rw[jQ e] at hk;cases hk
 rw[h.block k a (fun e=>hne (by injection e))];exact hk
theorem dF{g B:Nat}(h:w.grownBy w' (some g))(hB:B<=g)(hB2:B<=w.heap.size):Below B w w':=⟨h.os,h.tape,h.output,h.size,fun k hk=>h.block k (by omega) (fun e=>by injection e with e;omega)⟩
theorem wH{row:Option Nat}(h:w.grownBy w' row){p:Addr}(hp:w.heap.size<=p.block)(v:Value):w.grownBy (w'.setCell p v) row:=
 ⟨h.os,h.tape,h.output,by simp only[World.setCell,Array.size_modify];exact h.size,fun k hk hne=>(set_block w' p v k (by omega)).trans (h.block k hk hne)⟩
theorem aFp:(s.extract k s.size).size=s.size-k:=size_extract s k s.size (qC _)
theorem aGF(h:k+n<=s.size):(s.extract k s.size).extract 0 n=s.extract k (k+n):=by
 apply mk_eq;rw[bY,dU,bY,yQ,kL,show k+n-k=n by omega]
theorem aFH(h:k+n<=s.size):(s.extract k s.size).extract n (s.extract k s.size).size=s.extract (k+n) s.size:=by
 apply mk_eq;rw[dU,dU,dU,vN]
theorem aDs:s.extract 0 s.size=s:=by
 apply mk_eq;rw[dU,yQ]
theorem zC(w:World)(hr:Rd w g (s.extract k s.size))(h:k+n<=s.size)(hs:s.size<=maxLen):
  Calls prog 147 #[.pointer (some ⟨g,0,none⟩),.int .i64 n] w fun e w'=>e=.returned (.string (s.extract k (k+n)))/\Rd w' g (s.extract (k+n) s.size)/\Only g w w':=by
 have l:w.cell? (zA g)=some (.string (s.extract k s.size)):=cell_of hr rfl;have p:w.frozen? (zA g)=false:=aI hr;have c:=aGF s k n h;have d:=aFH s k n h;have a:=aFp s k;have f:=z9 hr;obtain⟨r,b⟩:=zx (s.extract k s.size);rw[<-b] at l c d a f;have q:¬(r.size:Int)<n:=by omega
 have o:(n:Int)<=r.size:=by omega
 have t:r.size<=maxLen:=by omega
 have i:=z9 c;have j:=z9 d;rw[<-i.out,<-j.out];clear hr b h c d a;go_in;go_wp2_with fail;go_ret;exact⟨rfl,setCell_heap f.out,only_setCell _ _ _ _⟩
theorem nB(w:World)(hr:Rd w g (s.extract k s.size))(h:k+1<=s.size)(hs:s.size<=maxLen):
  Calls prog 167 #[.pointer (some ⟨g,0,none⟩)] w fun e w'=>e=.returned (.int .i64 ((s.toList.getD k 0).toNat:Int))/\Rd w' g (s.extract (k+1) s.size)/\Only g w w':=by
 have C:=zC g s k 1 w hr h hs;obtain⟨T,b⟩:=zx (s.extract k (k+1));have f:T.size=1:=by rw[b,size_extract s k (k+1) h];omega
 have i:0<T.size:=by omega
 have o:(0:Int)<T.size:=by omega
 have j:Hid (((s.toList.getD k 0).toNat:Int)=(T[0].toNat:Int)):=by
  unfold Hid;rw[<-eD T 0 i,b,bY];congr 2;rw[qA,qA,xQ,jC (by omega)];rfl
 rw[j.out];have q:T[0].toNat<256:=jX _;have r:IntKind.i64.wrap (T[0].toNat:Int)=(T[0].toNat:Int):=by rw[IntKind.wrap_i64];omega
 have p:T.size<=maxLen:=by unfold maxLen;omega
 rw[<-b] at C;clear hr h b f j;go_in;go_wp2_with fail;refine C.mono ?_;rintro e w2 ⟨rfl,c,d⟩;have l:=z9 c;have m:=z9 d;clear c d C;go_wp2_with fail;go_ret;exact⟨rfl,l.out,m.out⟩
theorem aIz(X Y:Nat)(hX:X<256)(hY:Y<256):bits .or .i64 ((X:Int)*256) (Y:Int)=(X:Int)*256+(Y:Int):=by
 have e:((X:Int)*256)=((X*256:Nat):Int):=by omega
 have a:X*256 ||| Y=X*256+Y:=by
  have:=Nat.two_pow_add_eq_or_of_lt (i:=8) (b:=Y) hY X;rw[show(2:Nat)^8*X=X*256 by omega] at this;exact this.symm
 have c:(BitVec.ofInt 64 ((X*256:Nat):Int)).toNat=X*256:=by
  rw[BitVec.ofInt_natCast,BitVec.toNat_ofNat];exact Nat.mod_eq_of_lt (by omega)
 have d:(BitVec.ofInt 64 (Y:Int)).toNat=Y:=by
  rw[BitVec.ofInt_natCast,BitVec.toNat_ofNat];exact Nat.mod_eq_of_lt (by omega)
 rw[e];show IntKind.i64.wrap ((BitVec.ofInt 64 ((X*256:Nat):Int) ||| BitVec.ofInt 64 (Y:Int)).toNat:Int)=_
 rw[BitVec.toNat_or,c,d,a,IntKind.wrap_i64];omega
theorem Only.trans{g:Nat}{a b c:World}(h:Only g a b)(k:Only g b c):Only g a c:=⟨k.os.trans h.os,k.tape.trans h.tape,k.output.trans h.output,k.size.trans h.size,fun j hj=>(k.block j hj).trans (h.block j hj)⟩
theorem aCk(w:World)(hr:Rd w g (s.extract k s.size))(h:k+2<=s.size)(hs:s.size<=maxLen):
  Calls prog 145 #[.pointer (some ⟨g,0,none⟩)] w fun e w'=>e=.returned (.int .i64 ((numAt s.toList k:Nat):Int))/\Rd w' g (s.extract (k+2) s.size)/\Only g w w':=by
 have C:=nB g s k w hr (by omega) hs;obtain⟨x,a⟩:∃x:Int,x=((s.toList.getD k 0).toNat:Int):=⟨_,rfl⟩;have z:0<=x:=by omega
 have A:x<256:=by rw[a];have:=jX (s.toList.getD k 0);omega
 obtain⟨y,b⟩:∃y:Int,y=((s.toList.getD (k+1) 0).toNat:Int):=⟨_,rfl⟩;have B:0<=y:=by omega
 have D:y<256:=by rw[b];have:=jX (s.toList.getD (k+1) 0);omega
 have t:Hid (((numAt s.toList k:Nat):Int)=x*256+y):=by unfold Hid numAt;rw[a,b];omega
 have n:Hid (bits .or .i64 (x*256) y=x*256+y):=by unfold Hid;rw[a,b];exact aIz _ _ (jX _) (jX _)
 have v:=z9 b;rw[<-a] at C;clear a b;go_in;go_wp2_with fail;refine C.mono ?_;rintro e w2 ⟨rfl,c,d⟩;have m:=nB g s (k+1) w2 c (by omega) hs;rw[<-v.out] at m;have o:=z9 d;clear C c d;go_wp2_with fail;refine m.mono ?_;rintro e w3 ⟨rfl,f,i⟩;have p:=z9 f;have q:=z9 i;clear m f i;go_wp2_with fail;go_ret;refine⟨?_,p.out, ?_⟩
 ·rw[t.out,<-n.out];rfl
 ·exact Only.trans o.out q.out
theorem aFX(w:World)(hr:Rd w g (s.extract k s.size))(h:k+3<=s.size)(hs:s.size<=maxLen):
  Calls prog 168 #[.pointer (some ⟨g,0,none⟩)] w fun e w'=>e=.returned (.agg #[.int .i64 ((s.toList.getD k 0).toNat:Int),.int .i64 ((numAt s.toList (k+1):Nat):Int)])/\Rd w' g (s.extract (k+3) s.size)/\w.grownBy w' (some g):=by
 have d:g<w.heap.size:=by
  rcases xR g w.heap.size with e | e
  ·exact e
  ·unfold Rd at hr;rw[jQ e] at hr;cases hr
 have E:Hid (∀O,Rd (w.alloc O) g (s.extract k s.size)):=fun O=>(heap_alloc_old w O d).trans hr
 have F:Hid (∀O,w.grownBy (w.alloc O) (some g)):=fun O=>World.grownBy_alloc w O _
 have f:=z9 d;have G:Hid (∀O,(w.alloc O).heap[w.heap.size]? =some O):=fun O=>heap_alloc_new w O
 obtain⟨x,o⟩:∃x:Int,x=((s.toList.getD k 0).toNat:Int):=⟨_,rfl⟩;obtain⟨y,p⟩:∃y:Int,y=((numAt s.toList (k+1):Nat):Int):=⟨_,rfl⟩;have C:=fun O=>nB g s k (w.alloc O) (E.out O) (by omega) hs
 have I:=z9 p;rw[<-o] at C;rw[<-o,<-p];clear o p hr;go_in;go_wp2_with fail;refine(C _).mono ?_;rintro e w2 ⟨rfl,i,j⟩;have q:=aCk g s (k+1) w2 i (by omega) hs;rw[<-I.out] at q;have z:=z9 j;clear C i j;go_wp2_with fail;refine q.mono ?_;rintro e w3 ⟨rfl,l,m⟩;have A:=z9 l;have n:=z9 (Only.trans z.out m);have a:Hid (w3.heap[w.heap.size]? =some (.cells #[zI 0,zI 0] 80 (0,0))):=((n.out.block _ (by have:=f.out;omega)).trans (G.out _));have J:w3.cell? (zW w)=some z0:=cell_of a.out rfl;have K:w3.cell? ⟨w.heap.size,1,none⟩=some z0:=cell_of a.out rfl;have L:w3.frozen? (zW w)=false:=aI a.out;have M:w3.frozen? ⟨w.heap.size,1,none⟩=false:=aI a.out;clear q l m;go_wp2_with fail;have r:((w3.setCell (zW w) (zI x)).setCell ⟨w.heap.size,1,none⟩ (zI y)).heap[w.heap.size]? =some (.cells #[zI x,zI y] 80 (0,0)):=setCell_heap (setCell_heap a.out)
 have B:Rd ((w3.setCell (zW w) (zI x)).setCell ⟨w.heap.size,1,none⟩ (zI y)) g (s.extract (k+3) s.size):=by
  unfold Rd;have:=f.out;rw[set_block _ _ _ _ (by simp;omega),set_block _ _ _ _ (by simp;omega)];exact A.out
 have D:w.grownBy ((w3.setCell (zW w) (zI x)).setCell ⟨w.heap.size,1,none⟩ (zI y)) (some g):=
  wH (wH ((F.out _).trans (tR n.out)) (qC _) _) (qC _) _
 obtain⟨W,t⟩:=zx ((w3.setCell (zW w) (zI x)).setCell ⟨w.heap.size,1,none⟩ (zI y));rw[<-t] at r B D;rw[<-t];have N:W.cell? (zW w)=some (zI x):=cell_of r rfl;have P:W.cell? ⟨w.heap.size,1,none⟩=some (zI y):=cell_of r rfl;clear t J K L M;refine bodyPost_ret (v:=.agg #[zI x,zI y]) ?_ rfl ⟨rfl,B,D⟩;simp[results,Tryz.results168,go_sem,asAddr,Result.andThen,N,P]
end Vg
namespace Vh
theorem aF6(s:ByteArray)(w:World)(hs:s.size<=255):
  Calls prog 186 #[.string s] w fun e w'=>e=.returned (.string s)/\zB w w':=by
 by_cases f:s.size=0
 ·obtain rfl:s=⟨#[]⟩:=by
   apply mk_eq;have A:=qK (by rw[Om.aJ];exact f);rw[A,toList_mk []]
  go_in;go_wp2_with fail;go_ret;exact⟨rfl,qD _ _⟩
 ·obtain⟨q,i,r,a,t⟩:=info_parts uB;have v:(prog.info? 5).map (·.size)=some 1:=by rw[i];simp[a]
  have y:prog.cellsOf 5=1:=by simp[Program.cellsOf,i,a]
  have g:s.data.toList≠[]:=by
   intro e;apply f;rw[<-Om.aJ,ByteArray.toList_eq,e];rfl
  have b:s.data.toList.length=s.size:=by rw[<-ByteArray.toList_eq,Om.aJ]
  obtain⟨Z,l⟩:=zx (madeCells (Value.int .u8 0).cells (((s.size:Nat):Int).toNat*q.size));have D:Z.size=s.size:=by rw[l,size_madeCells,a];simp
  have K:∀W:World,(Instr.makeSlice 86 (zI (s.size:Int)) (zI (s.size:Int))).run prog W=.ok (.slice (some (zW W)) s.size s.size) (W.alloc (.cells Z 5)):=by
   intro W;have h:=run_make (P:=prog) W 86 5 q (.int .u8 0) Tryz.underlying86 i r .i64 .i64 (s.size:Int) (s.size:Int) (by omega) (by omega) (by rw[t];omega) (by omega);rw[<-l] at h;simpa using h
  obtain⟨Y,n⟩:=zx ((Z.toList.take 0++Lib.byteCells s.data.toList++Z.toList.drop (0+s.size)).toArray);have B:=Lib.run_copy_row_string (P:=prog) (w.alloc (.cells Z 5)) 86 9 3 5 w.heap.size 0 s.size s.size s Z 5 Tryz.underlying86 v (heap_alloc_new w _) (qC _) (by omega);rw[<-n] at B
  have c:Y.toList=Lib.byteCells s.data.toList:=by
   rw[n,List.toList_toArray,List.take_zero,vC,xM (by rw[Array.length_toList];omega),vY]
  have F:Y.size=s.size:=by rw[<-Array.length_toList,c,Lib.byteCells_length,b]
  have o:((w.alloc (.cells Z 5)).setRow w.heap.size Y).heap[w.heap.size]? =some (.cells Y 5 (0,0)):=setRow_heap _ _ Z _ 5 (0,0) (heap_alloc_new w _)
  have C:=Lib.run_unsafeString_row (P:=prog) ((w.alloc (.cells Z 5)).setRow w.heap.size Y) 282 3 9 5 Tryz.underlying282 y w.heap.size Y.size (by unfold World.shape?;rw[o]) s.data.toList g (by omega) (by omega) (by
   intro j x hx;rw[eL];refine cell_of o ?_;rw[<-kJ,c];simp[Lib.byteCells,hx])
  rw[b] at C
  have z:Hid (zB w ((w.alloc (.cells Z 5)).setRow w.heap.size Y)):=
   (zb w _).trans ⟨rfl,rfl,rfl,by simp,fun k hk=>setRow_other _ _ _ _ (by omega)⟩
  have G:(s.size:Int)<=255:=by omega
  have H:((s.size:Int)==0)=false:=by simpa using f
  have I:0<s.size:=by omega
  have J:(0:Int)<s.size:=by omega
  clear n l o c g b f;go_in;go_wp2_with fail;go_ret;exact⟨rfl,Lib.below_freeze z.out (p:=(zW w)) (qC _) _⟩
theorem dL(s:ByteArray)(w:World)(hs:s.size<=255):
  Calls prog 169 #[.string s] w fun e w'=>e=.returned (.string s)/\zB w w':=by
 have C:=aF6 s w hs;go_in;go_wp2_with fail;refine C.mono ?_;rintro e w2 ⟨rfl,a⟩;have b:=z9 a;clear a C;go_wp2_with fail;go_ret;exact⟨rfl,b.out⟩
end Vh
namespace Vi
open Vg
open La (bel)
theorem aCG(o:Ox):(bytesB o).drop (5+o.2.2.1.size)=tailB o++[u8 (sumB (frontB o)%253)]:=by
 have a:bytesB o=u8 o.2.1::u8 o.1.1::u8 (o.1.2/256)::u8 (o.1.2%256)::u8 o.2.2.1.size::(o.2.2.1.toList++(tailB o++[u8 (sumB (frontB o)%253)])):=by
  unfold bytesB;show(u8 o.2.1::u8 o.1.1::u8 (o.1.2/256)::u8 (o.1.2%256)::u8 o.2.2.1.size::(o.2.2.1.toList++tailB o))++_=_
  simp only[jJ,vJ]
 rw[a,Nat.add_comm 5];show(o.2.2.1.toList++(tailB o++_)).drop o.2.2.1.size=_
 rw[<-Om.aJ,List.drop_left]
variable {S:List UInt8}{o:Ox}{s:ByteArray}{W W' w:World}{k k' h4:Nat}{cs:Array Value}
theorem nX(h:decB S=some o):readB S=o/\opE o=0/\bytesB o=S/\(S.getD 4 0).toNat=o.2.2.1.size:=by
 obtain⟨a,b⟩:=cU.1 h;obtain⟨c,g,d⟩:=iW a;rw[b] at c d;refine⟨c,a,b, ?_⟩;have f:=Bm.cS (aO.1 a).2.2.1;rw[Om.aJ] at f;have e:=bK (n:=(o.2.2.1.size:Int)) (by omega) (by omega);rw[d];omega
theorem eC(hr:readB S=o)(h:¬(opE o=0/\bytesB o=S)):decB S=none:=by
 cases hd:decB S with
 | none=>rfl
 | some q=>
  obtain⟨a,b,c,_⟩:=nX hd
  rw[hr] at a
  subst a
  exact absurd ⟨b,c⟩ h
theorem dec_lt(h:S.length<5\/S.length<5+(S.getD 4 0).toNat):decB S=none:=by unfold decB;rw[if_pos h]
theorem aBL(h1:((S.getD 0 0).toNat:Int)=1)(h:S.length<5+(S.getD 4 0).toNat+1):decB S=none:=by
 cases hd:decB S with
 | none=>rfl
 | some q=>
  obtain⟨b,d,c,f⟩:=nX hd
  have e:q.2.1=1:=by rw[<-b];exact h1
  have a:=gE q
  rw[c,e] at a
  simp at a
  omega
theorem aCX(h1:((S.getD 0 0).toNat:Int)=4)(h:S.length<5+(S.getD 4 0).toNat+1):decB S=none:=by
 cases hd:decB S with
 | none=>rfl
 | some q=>
  obtain⟨b,d,c,f⟩:=nX hd
  have e:q.2.1=4:=by rw[<-b];exact h1
  have a:=gE q
  rw[c,e] at a
  simp at a
  omega
theorem aAK{E:Nat}(hE:E=5+(S.getD 4 0).toNat)(h1:((S.getD 0 0).toNat:Int)=4)(h:S.length<E+1+3*(S.getD E 0).toNat):decB S=none:=by
 cases hd:decB S with
 | none=>rfl
 | some q=>
  obtain⟨d,f,g,m⟩:=nX hd
  have e:q.2.1=4:=by rw[<-d];exact h1
  have b:=gE q
  have l:=(bB.1 (aO.1 f).2.2.2).2.2.2.1
  have a:=aCG q
  rw[g] at b a
  rw[e] at b
  simp at b
  have c:E=5+q.2.2.1.size:=by omega
  rw[<-c] at a
  have i:tailB q=u8 q.2.2.2.2.length::seenB q.2.2.2.2:=by unfold tailB;rw[e];rfl
  rw[i] at a
  have j:S.getD E 0=u8 q.2.2.2.2.length:=by
   have:(S.drop E).getD 0 0=u8 q.2.2.2.2.length:=by rw[a];rfl
   rw[<-this,qA,qA,xQ,vL]
  have o:=bK (n:=(q.2.2.2.2.length:Int)) (by omega) (by omega)
  rw[j] at h
  omega
theorem head_drop(S:List UInt8)(E:Nat):(S.drop E).headD 0=S.getD E 0:=by
 rw[<-rS,qA,qA,xQ,vL]
theorem tail_drop(S:List UInt8)(E:Nat):(S.drop E).tail=S.drop (E+1):=by rw[List.tail_drop]
theorem aGC(s:ByteArray)(E:Nat)(hE:E=5+(s.toList.getD 4 0).toNat)(h:E<=s.size):
  readB s.toList=((((s.toList.getD 1 0).toNat:Int),((numAt s.toList 2:Nat):Int)),((s.toList.getD 0 0).toNat:Int),s.extract 5 E,
   letterIn ((s.toList.getD 0 0).toNat:Int) (s.toList.drop E),seenIn ((s.toList.getD 0 0).toNat:Int) (s.toList.drop E)):=by
 have a:(⟨((s.toList.drop 5).take (s.toList.getD 4 0).toNat).toArray⟩:ByteArray)=s.extract 5 E:=by
  apply mk_eq;rw[bY,toList_mk,kL,show E-5=(s.toList.getD 4 0).toNat by omega]
 have b:((s.toList.getD 2 0).toNat:Int)*256+((s.toList.getD 3 0).toNat:Int)=((numAt s.toList 2:Nat):Int):=by
  show _=(((s.toList.getD 2 0).toNat*256+(s.toList.getD 3 0).toNat:Nat):Int);omega
 unfold readB;rw[a,b,<-hE]
theorem aId(S:List UInt8)(E:Nat):letterIn 1 (S.drop E)=((S.getD E 0).toNat:Int):=by unfold letterIn;rw[if_pos rfl,head_drop]
theorem aI6(S:List UInt8)(E:Nat):seenIn 4 (S.drop E)=threes (S.getD E 0).toNat (S.drop (E+1)):=by unfold seenIn;rw[if_pos rfl,head_drop,tail_drop]
theorem kM(r:List UInt8):threes 0 r=[]:=by cases r<;>rfl
theorem qI(S:List UInt8):∀(i j:Nat),j+3*i+3<=S.length->threes (i+1) (S.drop j)=threes i (S.drop j)++[(((S.getD (j+3*i) 0).toNat:Int),((numAt S (j+3*i+1):Nat):Int))]
 | i,j,h=>by
  have d1:S.drop j=S.getD j 0::S.getD (j+1) 0::S.getD (j+2) 0::S.drop (j+3):=by
   rw[xB (by omega),xB (i:=j+1) (by omega),xB (i:=j+1+1) (by omega)]
   rw[qA,qA,qA,qB (by omega),qB (by omega),qB (by omega)]
   rfl
  match i,h with
  | 0,h=>
   rw[kM,d1]
   show[_]++threes 0 _=_
   rw[kM]
   show[((((S.getD j 0).toNat:Nat):Int),((S.getD (j+1) 0).toNat:Int)*256+((S.getD (j+2) 0).toNat:Int))]=[((((S.getD j 0).toNat:Nat):Int),(((S.getD (j+1) 0).toNat*256+(S.getD (j+1+1) 0).toNat:Nat):Int))]
   congr 2
  | i+1,h=>
   have a:=qI S i (j+3) (by omega)
   rw[d1]
   show _::threes (i+1) (S.drop (j+3))=(_::threes i (S.drop (j+3)))++_
   rw[a,jJ,show j+3+3*i=j+3*(i+1) by omega]
def Z6:Array Value:=#[.int .i64 0,.int .i64 0,.int .i64 0,.string ⟨#[]⟩,.int .i64 0,.slice none 0 0]
structure St (w W:World) (s:ByteArray) (k h4:Nat) (cs:Array Value):Prop where
 rd:Rd W (w.heap.size+1) (s.extract k s.size)
 ob:W.heap[h4]? =some (.cells cs 97 (0,0))
 rb:W.heap[w.heap.size]? =some (.cells Z6 97 (0,0))
 bl:Below w.heap.size w W
 at4:h4=w.heap.size+2
 sz:w.heap.size+3≤W.heap.size
theorem aK{o:Obj}(hb:zB W W')(h:W.heap[k]? =some o):W'.heap[k]? =some o:=by
 rw[hb.block k (by
  rcases xR k W.heap.size with e | e
  ·exact e
  ·rw[jQ e] at h;cases h)]
 exact h
theorem St.grown(h:St w W s k h4 cs)(g:W.grownBy W' (some (w.heap.size+1)))(hr:Rd W' (w.heap.size+1) (s.extract k' s.size)):St w W' s k' h4 cs:=
 ⟨hr,rH g h.ob (by have:=h.at4;omega),rH g h.rb (by omega),h.bl.trans (dF g (by omega) (by have:=h.sz;omega)),h.at4,qO h.sz g.size⟩
theorem St.only(h:St w W s k h4 cs)(g:Only (w.heap.size+1) W W')(hr:Rd W' (w.heap.size+1) (s.extract k' s.size)):St w W' s k' h4 cs:=h.grown (tR g) hr
theorem St.below(h:St w W s k h4 cs)(hb:zB W W'):St w W' s k h4 cs:=
 ⟨aK hb h.rd,aK hb h.ob,aK hb h.rb,bel h.bl hb,h.at4,qO h.sz hb.size⟩
theorem St.set(h:St w W s k h4 cs)(i:Nat)(v:Value):St w (W.setCell ⟨h4,i,none⟩ v) s k h4 (cs.setIfInBounds i v):=by
 have h4:=h.at4;refine⟨?_,setCell_heap h.ob, ?_,h.bl.setCell (p:=⟨_,i,none⟩) (by simp;omega) v,h4,by simp only[World.setCell,Array.size_modify];exact h.sz⟩
 ·unfold Rd;rw[set_block _ _ _ _ (by simp;omega)];exact h.rd
 ·rw[set_block _ _ _ _ (by simp;omega)];exact h.rb
theorem wW(w:World)(s:ByteArray):Rd ((w.alloc (.cells Z6 97)).alloc (.cells #[.string s] 237)) (w.heap.size+1) (s.extract 0 s.size)/\((w.alloc (.cells Z6 97)).alloc (.cells #[.string s] 237)).heap[w.heap.size]? =some (.cells Z6 97 (0,0))/\
  zB w ((w.alloc (.cells Z6 97)).alloc (.cells #[.string s] 237))/\((w.alloc (.cells Z6 97)).alloc (.cells #[.string s] 237)).heap.size=w.heap.size+2:=by
 refine⟨?_, ?_,(zb w _).alloc (by simp) _,by simp⟩
 ·rw[aDs];have:=heap_alloc_new (w.alloc (.cells Z6 97)) (.cells #[.string s] 237);rwa [show(w.alloc (.cells Z6 97)).heap.size=w.heap.size+1 by simp] at this
 ·have:=heap_alloc_old (w.alloc (.cells Z6 97)) (.cells #[.string s] 237) (show w.heap.size<_ by simp);exact this.trans (heap_alloc_new w _)
theorem St.first{W0:World}(h2:W0.heap[w.heap.size]? =some (.cells Z6 97 (0,0)))(h3:zB w W0)(h4:W0.heap.size=w.heap.size+2)(ho:Only (w.heap.size+1) W0 W)(hr:Rd W (w.heap.size+1) (s.extract k s.size))(cs:Array Value):
  St w (W.alloc (.cells cs 97)) s k W.heap.size cs:=by
 have a:=ho.size.trans h4;refine⟨?_,heap_alloc_new W _, ?_,(h3.trans (ho.below (by omega))).alloc (by omega) _,a,by simp;omega⟩
 ·exact(heap_alloc_old W _ (by omega)).trans hr
 ·exact(heap_alloc_old W _ (by omega)).trans ((ho.block _ (by omega)).trans h2)
def aDN (s:ByteArray) (w:World) (e:Ending) (w':World):Prop:=
 (decB s.toList=none∧e=.panicked aJg∧Below w.heap.size w w')∨∃o u,decB s.toList=some o∧e=.returned u∧Kept w.heap.size w' u o∧Below w.heap.size w w'
theorem aDN.yes{w':World}{u:Value}(h:decB s.toList=some o)(hk:Kept w.heap.size w' u o)(hb:zB w w'):aDN s w (.returned u) w':=qF ⟨o,u,h,rfl,hk,hb⟩
theorem aE0{ops:Array Oper}{o:Oper}{a:Act}{K:Act->World->Prop}{Q:Exit->Act->World->Prop}{E:Prop}(hgd:o.guard=none)(sO xO:Operand)(ho:o.op=.call { callee:=.builtin .append,args:=#[sO,xO],argTypes:=#[95,95] })(B:Nat)(v:Value)(l:List Dt)(x:Dt)(hs:a.eval sO=v)(h0:Nat)(hx:a.eval xO=.slice (some ⟨h0,0,none⟩) 1 1)(hlen:l.length+1<=1000000)(hown:W.ownsRow B 80 2 v l.length (flatD l))(hB:B<=W.heap.size)(hc0:W.cell? ⟨h0,0,none⟩=some (.int .i64 x.1))(hc1:W.cell? ⟨h0,1,none⟩=some (.int .i64 x.2))(h:∀v' w',w'.ownsRow B 80 2 v' (l++[x]).length (flatD (l++[x]))->Grew W w' v v'->K (a.put o.dst v') w'):
  if Region.wanted o (yielded ops a.tmps)=true then Oper.wp prog o a W K Q else E:=by
 have g:Region.wanted o (yielded ops a.tmps)=true:=by simp[Region.wanted,hgd]
 rw[if_pos g];obtain⟨i,m,c,d,f⟩:=info_parts tD
 obtain⟨v',w',n,p,q,_,r⟩:=run_append_own_at (P:=prog) W B 95 o.type 80 i (.agg #[zI 0,zI 0]) 2 16 Tryz.underlying95 m c d f rfl (by decide) v l.length (flatD l) hown (zA h0) 1 1 (flatD [x]) rfl (by
  intro j u hu;have e:flatD [x]=[zI x.1,zI x.2]:=rfl;rw[e] at hu;rw[eL];rcases j with _ | _ | j
  ·rw[hc0];exact hu
  ·rw[hc1];exact hu
  ·simp at hu) (by
  intro u hu;have e:flatD [x]=[zI x.1,zI x.2]:=rfl;rw[e] at hu;rcases jD.1 hu with rfl | hu
  ·rfl
  ·rcases jD.1 hu with rfl | hu
   ·rfl
   ·cases hu) (by unfold maxLen;omega) (by omega) hB
 unfold Oper.wp execOp;simp only[ho,resolve,invoke,builtin,jZ,vB,vU,xN,jY,vM,hs,hx,n];refine h v' w' (lH rfl rfl p) ⟨q, ?_⟩;rcases r with e | e
 ·exact qH e
 ·refine qF fun k hk=> ?_
  rw[e] at hk;injection hk with hk;omega
end Vi
namespace Vj
open Ov Ve Vg Vh Vi
open La (aD)
def six6 (w:World) (g:Nat) (x0 x1 x2 x3 x4 x5:Value):World:=(((((w.setCell ⟨g,0,none⟩ x0).setCell ⟨g,1,none⟩ x1).setCell ⟨g,2,none⟩ x2).setCell ⟨g,3,none⟩ x3).setCell ⟨g,4,none⟩ x4).setCell ⟨g,5,none⟩ x5
theorem dT(w:World)(g:Nat)(x0 x1 x2 x3 x4 x5:Value)(k:Nat)(h:k≠g):(six6 w g x0 x1 x2 x3 x4 x5).heap[k]? =w.heap[k]? :=by
 unfold six6;rw[set_block _ _ _ _ h,set_block _ _ _ _ h,set_block _ _ _ _ h,set_block _ _ _ _ h,set_block _ _ _ _ h,set_block _ _ _ _ h]
theorem eN(w:World)(g:Nat)(x0 x1 x2 x3 x4 x5:Value):(six6 w g x0 x1 x2 x3 x4 x5).heap.size=w.heap.size:=by
 simp[six6,World.setCell]
variable {w w' W:World}{B z n:Nat}{t:TypeId}{v:Value}{xs:List Value}(s:ByteArray)
theorem dP{w0:World}{g:Nat}(hb:Below B w0 w)(hg:B<=g)(x0 x1 x2 x3 x4 x5:Value):Below B w0 (six6 w g x0 x1 x2 x3 x4 x5):=
 (((((hb.setCell (p:=(zA g)) hg x0).setCell (p:=⟨g,1,none⟩) hg x1).setCell (p:=⟨g,2,none⟩) hg x2).setCell (p:=⟨g,3,none⟩) hg x3).setCell (p:=⟨g,4,none⟩) hg x4).setCell (p:=⟨g,5,none⟩) hg x5
theorem aFj{row:Option Nat}(h:w.drew.grownBy w' row):w.grownBy w' row:=⟨h.os,h.tape,h.output,h.size,h.block⟩
theorem aD9(h:w.ownsRow (B+2) t z v n xs)(hg:w.drew.grownBy w' (some B)):w'.ownsRow (B+2) t z v n xs:=
 fT h (fun k hk hk2=>hg.block k hk2 (fun e=>by injection e with e;omega))
theorem St.aJr{W':World}{s:ByteArray}{k h4:Nat}{cs:Array Value}{v':Value}(h:St w W s k h4 cs)(ho:W.ownsRow (w.heap.size+3) t z v n xs)(hg:Grew W W' v v'):St w W' s k h4 cs:=by
 have a:∀j,j<w.heap.size+3->W'.heap[j]? =W.heap[j]? :=fun j hj=>hg.1.block j (jE hj h.sz) (fun e=>by have:=(World.ownsRow.lt ho j e.symm).1;omega)
 have h4:=h.at4;exact⟨(a _ (by omega)).trans h.rd,(a _ (by omega)).trans h.ob,(a _ (by omega)).trans h.rb,h.bl.trans ⟨hg.1.os,hg.1.tape,hg.1.output,hg.1.size,fun j hj=>a j (by omega)⟩,h4,qO h.sz hg.1.size⟩
theorem aEA{ops:Array Oper}{o:Oper}{a:Act}{K:Act->World->Prop}{Q:Exit->Act->World->Prop}{E:Prop}{R:Value->World->Prop}(hgd:o.guard=none)(F:FuncId)(x:Operand)(T:TypeId)(ho:o.op=.call { callee:=.value (.func F),args:=#[x],argTypes:=#[T] })(v0:Value)(hx:a.eval x=v0)(hcf:∀args W,(callFunc F args).run prog W=.ok (.enter F args) W)(hC:Calls prog F #[v0] W fun e w'=>∃v,e=.returned v/\R v w')(h:∀v w',R v w'->K (a.put o.dst v) w'):
  if Region.wanted o (yielded ops a.tmps)=true then Oper.wp prog o a W K Q else E:=by
 have b:Region.wanted o (yielded ops a.tmps)=true:=by simp[Region.wanted,hgd]
 rw[if_pos b]
 have c:(execOp a.eval o).run prog W=.ok (.enter F #[v0]) W:=by
  have d:a.eval (.func F)=.func (.func F) #[] #[]:=rfl;unfold execOp;simp only[ho,resolve,invoke,xN,jY,vM,hx,d];exact hcf _ _
 unfold Oper.wp;rw[c,Oper.upon_enter];refine hC.mono ?_;rintro e w' ⟨v,rfl,f⟩;exact h v w' f
theorem aEj(args:Array Value)(W:World):(callFunc 168 args).run prog W=.ok (.enter 168 args) W:=by
 first | kernel_rfl | simp[callFunc,go_sem,Tryz.func168]
theorem rG:s.toList.length=s.size:=Om.aJ s
theorem aBJ(w:World)(hs:s.size <=maxLen)(hv:Hid ((decB s.toList).isSome=true)):
  Calls prog 146 #[.string s] w (aDN s w):=by
 have hm:=hs
 unfold maxLen at hm
 obtain⟨F1,F2,F3,F4⟩:=wW w s
 unfold Z6 at F1 F2 F3 F4
 obtain⟨W0,bg⟩:=zx ((w.alloc (.cells #[zI 0,zI 0,zI 0,.string ⟨#[]⟩,zI 0,zS] 97)).alloc (.cells #[.string s] 237))
 rw[<- bg] at F1 F2 F3 F4
 have cj:=z9 bg
 have ck:=z9 F2
 have cl:=z9 F3
 have cm:=z9 F4
 have cn:=z9 F1
 clear F1 F2 F3 F4 bg
 go_in
 go_wp2_with fail
 rw[<- cj.out]
 clear cj
 by_cases h1:s.size<0+1
 ·have A:Hid (decB s.toList=none):=dec_lt (qH (by rw[rG];omega))
  have o:=hv.out;rw[A.out] at o;cases o
 have dq:0+1 <=s.size:=by omega
 obtain⟨t,ht⟩:∃t:Int,t=((s.toList.getD 0 0).toNat:Int):=⟨_,rfl⟩
 have C1:=nB _ s 0 W0 cn.out dq hs
 rw[<- ht] at C1
 have eb:0 <=t:=by omega
 have ec:t<256:=by rw[ht];have:=jX (s.toList.getD 0 0);omega
 have HT:=z9 ht
 clear ht h1 cn
 refine C1.mono ?_
 rintro e w2 ⟨rfl,co,cp⟩
 have ba:Hid (St w (w2.alloc (.cells #[zI 0,zI 0,zI t,.string ⟨#[]⟩,zI 0,zS] 97)) s 1 w2.heap.size #[zI 0,zI 0,zI t,.string ⟨#[]⟩,zI 0,zS]):=St.first ck.out cl.out cm.out cp co _
 clear co cp C1 ck cl cm
 go_wp2_with fail
 obtain⟨d,bh⟩:=zx w2.heap.size
 obtain⟨w3,bi⟩:=zx (w2.alloc (.cells #[zI 0,zI 0,zI t,.string ⟨#[]⟩,zI 0,zS] 97))
 rw[<- bh, <- bi] at ba
 rw[<- bh, <- bi]
 clear bh bi
 by_cases h2:s.size<1+3
 ·have A:Hid (decB s.toList=none):=dec_lt (qH (by rw[rG];omega))
  have o:=hv.out;rw[A.out] at o;cases o
 have dr:1+3 <=s.size:=by omega
 obtain⟨a,ha⟩:∃a:Int,a=((s.toList.getD 1 0).toNat:Int):=⟨_,rfl⟩
 obtain⟨b,hb⟩:∃b:Int,b=((numAt s.toList 2:Nat):Int):=⟨_,rfl⟩
 have C2:=aFX _ s 1 w3 ba.out.rd dr hs
 rw[<- ha, <- hb] at C2
 have cq:Hid (a=((s.toList.getD 1 0).toNat:Int) /\ b=((numAt s.toList 2:Nat):Int)):=⟨ha,hb⟩
 clear ha hb h2
 refine C2.mono ?_
 rintro e w4 ⟨rfl,cr,cs⟩
 have F:=z9 (ba.out.grown cs cr)
 clear cr cs C2 ba
 have o0:w4.cell? (zA d)=some z0:=cell_of F.out.ob rfl
 have o1:w4.cell? ⟨d,1,none⟩=some z0:=cell_of F.out.ob rfl
 have o2:w4.cell? ⟨d,2,none⟩=some (zI t):=cell_of F.out.ob rfl
 have o3:w4.cell? ⟨d,3,none⟩=some (.string ⟨#[]⟩):=cell_of F.out.ob rfl
 have o4:w4.cell? ⟨d,4,none⟩=some z0:=cell_of F.out.ob rfl
 have o5:w4.cell? ⟨d,5,none⟩=some (zS):=cell_of F.out.ob rfl
 have T:w4.frozen? (zA d)=false:=aI F.out.ob
 have U:w4.frozen? ⟨d,1,none⟩=false:=aI F.out.ob
 have V:w4.frozen? ⟨d,2,none⟩=false:=aI F.out.ob
 have X:w4.frozen? ⟨d,3,none⟩=false:=aI F.out.ob
 have Y:w4.frozen? ⟨d,4,none⟩=false:=aI F.out.ob
 have Z:w4.frozen? ⟨d,5,none⟩=false:=aI F.out.ob
 go_wp2_with fail
 have bb:Hid (St w ((w4.setCell (zA d) (zI a)).setCell ⟨d,1,none⟩ (zI b)) s 4 d #[zI a,zI b,zI t,.string ⟨#[]⟩,zI 0,zS]):=(F.out.set 0 _).set 1 _
 obtain⟨w5,bj⟩:=zx ((w4.setCell (zA d) (zI a)).setCell ⟨d,1,none⟩ (zI b))
 rw[<- bj] at bb
 rw[<- bj]
 clear bj F
 clear o0 o1 o2 o3 o4 o5 T U V X Y Z
 by_cases h3:s.size<4+1
 ·have A:Hid (decB s.toList=none):=dec_lt (qH (by rw[rG];omega))
  have o:=hv.out;rw[A.out] at o;cases o
 have ds:4+1 <=s.size:=by omega
 obtain⟨L,hL⟩:∃L:Nat,L=(s.toList.getD 4 0).toNat:=⟨_,rfl⟩
 have d5:L<256:=by rw[hL];exact jX _
 have C3:=nB _ s 4 w5 bb.out.rd ds hs
 rw[<- hL] at C3
 have HL:=z9 hL
 clear hL h3
 refine C3.mono ?_
 rintro e w6 ⟨rfl,ct,cu⟩
 have bk:=z9 (bb.out.only cu ct)
 clear ct cu C3 bb
 go_wp2_with fail
 by_cases hE:s.size<5+L
 ·have A:Hid (decB s.toList=none):=dec_lt (qF (by rw[rG, <- HL.out];exact hE))
  have o:=hv.out;rw[A.out] at o;cases o
 have bm:5+L <=s.size:=by omega
 obtain⟨E,ax⟩:=zx (5+L)
 obtain⟨P,hP⟩:=zx (s.extract 5 (5+L))
 have du:P.size <=255:=by rw[hP,size_extract s 5 (5+L) bm];omega
 have bn:P.size <=maxLen:=by unfold maxLen;omega
 have C4:=zC _ s 5 L w6 bk.out.rd bm hs
 rw[<- hP, <- ax] at C4
 have bo:=aGC s E (by rw[ax,HL.out]) (by omega)
 rw[<- HT.out, <- cq.out.1, <- cq.out.2,show s.extract 5 E=P by rw[hP,ax]] at bo
 have an:=z9 bo
 have bp:Hid (E=5+(s.toList.getD 4 0).toNat):=by unfold Hid;rw[ax,HL.out]
 have ed:E <=s.size:=by omega
 clear hP bo bm hE
 refine C4.mono ?_
 rintro e w7 ⟨rfl,ay,cw⟩
 have az:=z9 (bk.out.only cw ay)
 clear ay cw C4 bk ax
 go_wp2_with fail
 refine(dL P w7 du).mono ?_
 rintro e w8 ⟨rfl,cx⟩
 have q:=z9 (az.out.below cx)
 clear cx az
 have o0:w8.cell? (zA d)=some (zI a):=cell_of q.out.ob rfl
 have o1:w8.cell? ⟨d,1,none⟩=some (zI b):=cell_of q.out.ob rfl
 have o2:w8.cell? ⟨d,2,none⟩=some (zI t):=cell_of q.out.ob rfl
 have o3:w8.cell? ⟨d,3,none⟩=some (.string ⟨#[]⟩):=cell_of q.out.ob rfl
 have o4:w8.cell? ⟨d,4,none⟩=some z0:=cell_of q.out.ob rfl
 have o5:w8.cell? ⟨d,5,none⟩=some (zS):=cell_of q.out.ob rfl
 have T:w8.frozen? (zA d)=false:=aI q.out.ob
 have U:w8.frozen? ⟨d,1,none⟩=false:=aI q.out.ob
 have V:w8.frozen? ⟨d,2,none⟩=false:=aI q.out.ob
 have X:w8.frozen? ⟨d,3,none⟩=false:=aI q.out.ob
 have Y:w8.frozen? ⟨d,4,none⟩=false:=aI q.out.ob
 have Z:w8.frozen? ⟨d,5,none⟩=false:=aI q.out.ob
 by_cases t1:t=1
 case pos=>
  subst t1
  go_wp2_with fail
  have r:Hid (St w (w8.setCell ⟨d,3,none⟩ (.string P)) s E d #[zI a,zI b,zI 1,.string P,zI 0,zS]):=q.out.set 3 _
  obtain⟨w9,J⟩:=zx (w8.setCell ⟨d,3,none⟩ (.string P))
  rw[<- J] at r
  rw[<- J]
  clear J q
  clear o0 o1 o2 o3 o4 o5 T U V X Y Z
  by_cases h5:s.size<E+1
  ·have A:Hid (decB s.toList=none):=aBL HT.out.symm (by rw[rG, <- bp.out];exact h5)
   have o:=hv.out;rw[A.out] at o;cases o
  obtain⟨c,hc⟩:∃c:Int,c=((s.toList.getD E 0).toNat:Int):=⟨_,rfl⟩
  have C5:=nB _ s E w9 r.out.rd (by omega) hs
  rw[<- hc] at C5
  have HX:Hid (readB s.toList=((a,b),1,P,c,[])):=by unfold Hid;rw[an.out,aId,hc];rfl
  clear hc h5 an
  refine C5.mono ?_
  rintro e S ⟨rfl,a0,hop'⟩
  have p:=z9 (r.out.only hop' a0)
  clear a0 hop' C5 r
  have o0:S.cell? (zA d)=some (zI a):=cell_of p.out.ob rfl
  have o1:S.cell? ⟨d,1,none⟩=some (zI b):=cell_of p.out.ob rfl
  have o2:S.cell? ⟨d,2,none⟩=some (zI 1):=cell_of p.out.ob rfl
  have o3:S.cell? ⟨d,3,none⟩=some (.string P):=cell_of p.out.ob rfl
  have o4:S.cell? ⟨d,4,none⟩=some z0:=cell_of p.out.ob rfl
  have o5:S.cell? ⟨d,5,none⟩=some (zS):=cell_of p.out.ob rfl
  have T:S.frozen? (zA d)=false:=aI p.out.ob
  have U:S.frozen? ⟨d,1,none⟩=false:=aI p.out.ob
  have V:S.frozen? ⟨d,2,none⟩=false:=aI p.out.ob
  have X:S.frozen? ⟨d,3,none⟩=false:=aI p.out.ob
  have Y:S.frozen? ⟨d,4,none⟩=false:=aI p.out.ob
  have Z:S.frozen? ⟨d,5,none⟩=false:=aI p.out.ob
  go_wp2_with fail
  have a8:Hid (St w (S.setCell ⟨d,4,none⟩ (zI c)) s (E+1) d #[zI a,zI b,zI 1,.string P,zI c,zS]):=p.out.set 4 _
  obtain⟨wq,bs⟩:=zx (S.setCell ⟨d,4,none⟩ (zI c))
  rw[<- bs] at a8
  rw[<- bs]
  have z:=a8
  have HV:Hid (∀W,(∀k,w.heap.size+3 <=k -> k<wq.heap.size -> W.heap[k]? =wq.heap[k]?) -> DtsAt W (zS) []):=fun W _=>DtsAt.nil W
  clear bs a8 p
  clear o0 o1 o2 o3 o4 o5 T U V X Y Z
  have CE:=gK a b 1 P c (zS) [] wq (HV.out wq (fun _ _ _=>rfl)) bn
  by_cases hop:opE ((a,b),1,P,c,[])=0
  case neg=>
   have A:Hid (decB s.toList=none):=eC HX.out (fun e=>hop e.1)
   have o:=hv.out;rw[A.out] at o;cases o
  obtain⟨T8,K⟩:=zx (fI ((a,b),1,P,c,[]))
  have ah:encS ((a,b),1,P,c,[])=T8:=by unfold encS;rw[if_pos hop,K]
  rw[ah,hop,aD] at CE
  have ai:Hid (T8.toList=bytesB ((a,b),1,P,c,[])):=by unfold Hid;rw[K,cK]
  have a2:=z9 hop
  clear ah K hop
  refine CE.mono ?_
  rintro e l ⟨rfl,H⟩
  have f:Hid (St w l s (E+1) d #[zI a,zI b,zI 1,.string P,zI c,zS]):=z.out.below H
  have a3:Hid (∀k,w.heap.size+3 <=k -> k<wq.heap.size -> l.heap[k]? =wq.heap[k]?):=fun k _ hk=>H.block k hk
  have a4:=z9 H.size
  clear H CE
  have x0:l.cell? (zA d)=some (zI a):=cell_of f.out.ob rfl
  have x1:l.cell? ⟨d,1,none⟩=some (zI b):=cell_of f.out.ob rfl
  have x2:l.cell? ⟨d,2,none⟩=some (zI 1):=cell_of f.out.ob rfl
  have x3:l.cell? ⟨d,3,none⟩=some (.string P):=cell_of f.out.ob rfl
  have x4:l.cell? ⟨d,4,none⟩=some (zI c):=cell_of f.out.ob rfl
  have x5:l.cell? ⟨d,5,none⟩=some (zS):=cell_of f.out.ob rfl
  have r0:l.cell? (zW w)=some z0:=cell_of f.out.rb rfl
  have r1:l.cell? ⟨w.heap.size,1,none⟩=some z0:=cell_of f.out.rb rfl
  have r2:l.cell? ⟨w.heap.size,2,none⟩=some z0:=cell_of f.out.rb rfl
  have r3:l.cell? ⟨w.heap.size,3,none⟩=some (.string ⟨#[]⟩):=cell_of f.out.rb rfl
  have r4:l.cell? ⟨w.heap.size,4,none⟩=some z0:=cell_of f.out.rb rfl
  have r5:l.cell? ⟨w.heap.size,5,none⟩=some (zS):=cell_of f.out.rb rfl
  have cy:l.frozen? (zW w)=false:=aI f.out.rb
  have cz:l.frozen? ⟨w.heap.size,1,none⟩=false:=aI f.out.rb
  have c0:l.frozen? ⟨w.heap.size,2,none⟩=false:=aI f.out.rb
  have c1:l.frozen? ⟨w.heap.size,3,none⟩=false:=aI f.out.rb
  have c2:l.frozen? ⟨w.heap.size,4,none⟩=false:=aI f.out.rb
  have c3:l.frozen? ⟨w.heap.size,5,none⟩=false:=aI f.out.rb
  by_cases I:T8.toList=s.toList
  ·have HE:Hid (decB s.toList=some ((a,b),1,P,c,[])):=cU.2 ⟨a2.out,by rw[<- ai.out];exact I⟩
   have b1:(T8.toList==s.toList)=true:=by simpa using I
   have a5:Hid (∀x0 x1 x2 x3 x4 x5 W,(∀k,w.heap.size <=k -> k<(six6 l w.heap.size x0 x1 x2 x3 x4 x5).heap.size -> W.heap[k]? =(six6 l w.heap.size x0 x1 x2 x3 x4 x5).heap[k]?) -> DtsAt W (zS) ([])):=fun x0 x1 x2 x3 x4 x5 W hW=>HV.out _ (fun k hk1 hk2=>(hW k (by omega) (by rw[eN];exact jE hk2 a4.out)).trans ((dT _ _ _ _ _ _ _ _ _ (by omega)).trans (a3.out k hk1 hk2)))
   clear I
   go_wp2_with fail
   refine bodyPost_ret (v:=uP ((a,b),1,P,c,[]) (zS)) ?_ rfl (aDN.yes HE.out (fun W hW=>⟨_,rfl,a5.out _ _ _ _ _ _ W hW⟩) ?_)
   ·simp[results,Tryz.results146,uP,go_sem,asAddr,Result.andThen,r0,r1,r2,r3,r4,r5]
   ·exact dP f.out.bl (qC _) _ _ _ _ _ _
  ·have A:Hid (decB s.toList=none):=eC HX.out (fun e=>I (ai.out.trans e.2))
   have o:=hv.out;rw[A.out] at o;cases o
 by_cases t4:t=4
 case neg=>
  have ee:(t==1)=false:=by simpa using t1
  have ef:(t==4)=false:=by simpa using t4
  have HX:Hid (readB s.toList=((a,b),t,P,0,[])):=by unfold Hid;rw[an.out];unfold letterIn seenIn;rw[if_neg t1,if_neg t4]
  clear t1 t4 an
  go_wp2_with fail
  have r:Hid (St w (w8.setCell ⟨d,3,none⟩ (.string P)) s E d #[zI a,zI b,zI t,.string P,zI 0,zS]):=q.out.set 3 _
  obtain⟨w9,J⟩:=zx (w8.setCell ⟨d,3,none⟩ (.string P))
  rw[<- J] at r
  rw[<- J]
  have z:=r
  have HV:Hid (∀W,(∀k,w.heap.size+3 <=k -> k<w9.heap.size -> W.heap[k]? =w9.heap[k]?) -> DtsAt W (zS) []):=fun W _=>DtsAt.nil W
  clear J q r
  clear o0 o1 o2 o3 o4 o5 T U V X Y Z
  have CE:=gK a b t P 0 (zS) [] w9 (HV.out w9 (fun _ _ _=>rfl)) bn
  by_cases hop:opE ((a,b),t,P,0,[])=0
  case neg=>
   have A:Hid (decB s.toList=none):=eC HX.out (fun e=>hop e.1)
   have o:=hv.out;rw[A.out] at o;cases o
  obtain⟨T8,K⟩:=zx (fI ((a,b),t,P,0,[]))
  have ah:encS ((a,b),t,P,0,[])=T8:=by unfold encS;rw[if_pos hop,K]
  rw[ah,hop,aD] at CE
  have ai:Hid (T8.toList=bytesB ((a,b),t,P,0,[])):=by unfold Hid;rw[K,cK]
  have a2:=z9 hop
  clear ah K hop
  refine CE.mono ?_
  rintro e l ⟨rfl,H⟩
  have f:Hid (St w l s E d #[zI a,zI b,zI t,.string P,zI 0,zS]):=z.out.below H
  have a3:Hid (∀k,w.heap.size+3 <=k -> k<w9.heap.size -> l.heap[k]? =w9.heap[k]?):=fun k _ hk=>H.block k hk
  have a4:=z9 H.size
  clear H CE
  have x0:l.cell? (zA d)=some (zI a):=cell_of f.out.ob rfl
  have x1:l.cell? ⟨d,1,none⟩=some (zI b):=cell_of f.out.ob rfl
  have x2:l.cell? ⟨d,2,none⟩=some (zI t):=cell_of f.out.ob rfl
  have x3:l.cell? ⟨d,3,none⟩=some (.string P):=cell_of f.out.ob rfl
  have x4:l.cell? ⟨d,4,none⟩=some z0:=cell_of f.out.ob rfl
  have x5:l.cell? ⟨d,5,none⟩=some (zS):=cell_of f.out.ob rfl
  have r0:l.cell? (zW w)=some z0:=cell_of f.out.rb rfl
  have r1:l.cell? ⟨w.heap.size,1,none⟩=some z0:=cell_of f.out.rb rfl
  have r2:l.cell? ⟨w.heap.size,2,none⟩=some z0:=cell_of f.out.rb rfl
  have r3:l.cell? ⟨w.heap.size,3,none⟩=some (.string ⟨#[]⟩):=cell_of f.out.rb rfl
  have r4:l.cell? ⟨w.heap.size,4,none⟩=some z0:=cell_of f.out.rb rfl
  have r5:l.cell? ⟨w.heap.size,5,none⟩=some (zS):=cell_of f.out.rb rfl
  have cy:l.frozen? (zW w)=false:=aI f.out.rb
  have cz:l.frozen? ⟨w.heap.size,1,none⟩=false:=aI f.out.rb
  have c0:l.frozen? ⟨w.heap.size,2,none⟩=false:=aI f.out.rb
  have c1:l.frozen? ⟨w.heap.size,3,none⟩=false:=aI f.out.rb
  have c2:l.frozen? ⟨w.heap.size,4,none⟩=false:=aI f.out.rb
  have c3:l.frozen? ⟨w.heap.size,5,none⟩=false:=aI f.out.rb
  by_cases I:T8.toList=s.toList
  ·have HE:Hid (decB s.toList=some ((a,b),t,P,0,[])):=cU.2 ⟨a2.out,by rw[<- ai.out];exact I⟩
   have b1:(T8.toList==s.toList)=true:=by simpa using I
   have a5:Hid (∀x0 x1 x2 x3 x4 x5 W,(∀k,w.heap.size <=k -> k<(six6 l w.heap.size x0 x1 x2 x3 x4 x5).heap.size -> W.heap[k]? =(six6 l w.heap.size x0 x1 x2 x3 x4 x5).heap[k]?) -> DtsAt W (zS) ([])):=fun x0 x1 x2 x3 x4 x5 W hW=>HV.out _ (fun k hk1 hk2=>(hW k (by omega) (by rw[eN];exact jE hk2 a4.out)).trans ((dT _ _ _ _ _ _ _ _ _ (by omega)).trans (a3.out k hk1 hk2)))
   clear I
   go_wp2_with fail
   refine bodyPost_ret (v:=uP ((a,b),t,P,0,[]) (zS)) ?_ rfl (aDN.yes HE.out (fun W hW=>⟨_,rfl,a5.out _ _ _ _ _ _ W hW⟩) ?_)
   ·simp[results,Tryz.results146,uP,go_sem,asAddr,Result.andThen,r0,r1,r2,r3,r4,r5]
   ·exact dP f.out.bl (qC _) _ _ _ _ _ _
  ·have A:Hid (decB s.toList=none):=eC HX.out (fun e=>I (ai.out.trans e.2))
   have o:=hv.out;rw[A.out] at o;cases o
 subst t4
 go_wp2_with fail
 have r:Hid (St w (w8.setCell ⟨d,3,none⟩ (.string P)) s E d #[zI a,zI b,zI 4,.string P,zI 0,zS]):=q.out.set 3 _
 obtain⟨w9,J⟩:=zx (w8.setCell ⟨d,3,none⟩ (.string P))
 rw[<- J] at r
 rw[<- J]
 clear J q t1
 clear o0 o1 o2 o3 o4 o5 T U V X Y Z
 by_cases h5:s.size<E+1
 ·have A:Hid (decB s.toList=none):=aCX HT.out.symm (by rw[rG, <- bp.out];exact h5)
  have o:=hv.out;rw[A.out] at o;cases o
 have c4:E+1 <=s.size:=by omega
 obtain⟨n,hn⟩:∃n:Nat,n=(s.toList.getD E 0).toNat:=⟨_,rfl⟩
 have d6:n<256:=by rw[hn];exact jX _
 have C5:=nB _ s E w9 r.out.rd c4 hs
 rw[<- hn] at C5
 have c5:Hid (readB s.toList=((a,b),4,P,0,threes n (s.toList.drop (E+1)))):=by unfold Hid;rw[an.out,aI6, <- hn];rfl
 have dv:=z9 hn
 have c6:Hid (∀k,k<n -> s.size<E+1+3*k+3 -> decB s.toList=none):=fun k hk h=>aAK bp.out HT.out.symm (by rw[rG, <- dv.out];omega)
 clear hn h5 an
 refine C5.mono ?_
 rintro e S ⟨rfl,a0,hop'⟩
 have p:=z9 (r.out.only hop' a0)
 have am:Hid (S.ownsRow (w.heap.size+3) 80 2 (zS) (threes 0 (s.toList.drop (E+1))).length (flatD (threes 0 (s.toList.drop (E+1))))):=by
  unfold Hid;rw[kM];exact jT _ _ _ _
 clear a0 hop' C5 r
 go_wp2_with fail
 go_loopw [26] (fun i wr=>∃(k:Nat) (vs:Value),k <=n /\ i=zI k /\ (∃M N R,vs=.slice M N R) /\ Hid (St w wr s (E+1+3*k) d #[zI a,zI b,zI 4,.string P,zI 0,vs]) /\ Hid (wr.ownsRow (w.heap.size+3) 80 2 vs (threes k (s.toList.drop (E+1))).length (flatD (threes k (s.toList.drop (E+1))))) /\ Hid (E+1+3*k <=s.size)) (fun i _=>n-(intOf i).toNat)
 case atStart=>exact⟨0,_,by omega,rfl,⟨_,_,_,rfl⟩,p,am,c4⟩
 case round=>
  clear p am
  obtain⟨k,vs,hk,rfl,⟨M,N,R,rfl⟩,p,am,eg⟩:=hrel
  by_cases dw:k<n
  ·have dk:(k:Int)<n:=by omega
   have q5:wr.cell? ⟨d,5,none⟩=some (.slice M N R):=cell_of p.out.ob rfl
   have eh:wr.frozen? ⟨d,5,none⟩=false:=aI p.out.ob
   by_cases dx:s.size<E+1+3*k+3
   ·have A:Hid (decB s.toList=none):=c6.out k dw dx
    have o:=hv.out;rw[A.out] at o;cases o
   ·have dl:E+1+3*k+3 <=s.size:=by omega
    have dm:Hid (E+1+3*(k+1) <=s.size):=by unfold Hid;omega
    obtain⟨x,hx⟩:∃x:Int,x=((s.toList.getD (E+1+3*k) 0).toNat:Int):=⟨_,rfl⟩
    obtain⟨y,hy⟩:∃y:Int,y=((numAt s.toList (E+1+3*k+1):Nat):Int):=⟨_,rfl⟩
    have CD:Hid (∀W,Rd W (w.heap.size+1) (s.extract (E+1+3*k) s.size) -> Calls prog 168 #[.pointer (some (zV w))] W fun e w'=>∃v,e=.returned v /\ v=.agg #[zI x,zI y] /\ Rd w' (w.heap.size+1) (s.extract (E+1+3*(k+1)) s.size) /\ W.grownBy w' (some (w.heap.size+1))):=by
     intro W h
     have:=aFX _ s (E+1+3*k) W h dl hs
     rw[<- hx, <- hy] at this
     exact this.mono fun e w' ⟨h1,h2⟩=>⟨_,h1,rfl,h2⟩
    have c7:Hid (threes (k+1) (s.toList.drop (E+1))=threes k (s.toList.drop (E+1))++[(x,y)]):=by
     unfold Hid;rw[qI s.toList k (E+1) (by rw[rG];omega),hx,hy]
    obtain⟨Q,hQ⟩:=zx (threes k (s.toList.drop (E+1)))
    have d0:Hid (Q.length+1 <=1000000):=by unfold Hid;rw[hQ,mD];omega
    rw[<- hQ] at am c7
    clear hx hy hQ
    go_wp2_with fail
    go_region_law (first
     | ((refine aEA (by rfl) 168 (.tmp 3) _ (by rfl) _ (by rfl) aEj (CD.out _ ?_) ?_;exact p.out.rd;rintro v7 w7 ⟨rfl,ay,b3⟩;have az:=z9 (p.out.grown (aFj b3) ay);have d1:=z9 (aD9 am.out b3);have b4:Hid (∀O,St w (w7.alloc O) s (E+1+3*(k+1)) d #[zI a,zI b,zI 4,.string P,zI 0,.slice M N R]):=fun O=>az.out.below ((qD _ w7).alloc (qC _) O);have c8:Hid (∀O,(w7.alloc O).ownsRow (w.heap.size+3) 80 2 (.slice M N R) Q.length (flatD Q)):=fun O=>World.ownsRow.alloc d1.out O;have q7:w7.cell? ⟨d,5,none⟩=some (.slice M N R):=cell_of az.out.ob rfl;have q8:∀O,(w7.alloc O).cell? ⟨d,5,none⟩=some (.slice M N R):=fun O=>cell_of (b4.out O).ob rfl))
     | ((refine aE0 (by rfl) (.tmp 29) (.tmp 31) (by rfl) (w.heap.size+3) (.slice M N R) Q (x,y) (by rfl) w7.heap.size (by rfl) d0.out (c8.out _) ((b4.out _).sz) (aAf w7 _ _ _).1 (aAf w7 _ _ _).2 ?_;intro v9 w9 ho9 hg9;obtain⟨p9,N9,c9,rfl,_⟩:=aG ho9;have r:Hid (St w w9 s (E+1+3*(k+1)) d #[zI a,zI b,zI 4,.string P,zI 0,.slice M N R]):=St.aJr (b4.out _) (c8.out _) hg9;have d2:=z9 ho9;have q9:w9.cell? ⟨d,5,none⟩=some (.slice M N R):=cell_of r.out.ob rfl;have ei:w9.frozen? ⟨d,5,none⟩=false:=aI r.out.ob)))
    all_goals
     have d3:Hid (St w (w9.setCell ⟨d,5,none⟩ (.slice p9 N9 c9)) s (E+1+3*(k+1)) d #[zI a,zI b,zI 4,.string P,zI 0,.slice p9 N9 c9]):=r.out.set 5 _
     have d4:Hid ((w9.setCell ⟨d,5,none⟩ (.slice p9 N9 c9)).ownsRow (w.heap.size+3) 80 2 (.slice p9 N9 c9) (threes (k+1) (s.toList.drop (E+1))).length (flatD (threes (k+1) (s.toList.drop (E+1))))):=by
      unfold Hid;rw[c7.out];exact fT d2.out (fun j hj _=>set_block _ _ _ _ (by have:=r.out.at4;simp;omega))
     clear ho9 hg9 ay b3
     go_wp2_with fail
     go_roundw
     case rel=>exact⟨k+1,_,by omega,by go_num,⟨_,_,_,rfl⟩,d3,d4,dm⟩
     case measure=>simp[intOf];omega
  ·obtain rfl:n=k:=by omega
   have dk:¬(n:Int)<n:=by omega
   have z:=p
   have HX:=c5
   obtain⟨Q,hQ⟩:=zx (threes n (s.toList.drop (E+1)))
   rw[<- hQ] at HX am
   have HV:Hid (∀W,(∀k,w.heap.size+3 <=k -> k<wr.heap.size -> W.heap[k]? =wr.heap[k]?) -> DtsAt W (.slice M N R) Q):=fun W h=>gO (fT am.out h)
   clear hQ c5 p c6
   have o0:wr.cell? (zA d)=some (zI a):=cell_of z.out.ob rfl
   have o1:wr.cell? ⟨d,1,none⟩=some (zI b):=cell_of z.out.ob rfl
   have o2:wr.cell? ⟨d,2,none⟩=some (zI 4):=cell_of z.out.ob rfl
   have o3:wr.cell? ⟨d,3,none⟩=some (.string P):=cell_of z.out.ob rfl
   have o4:wr.cell? ⟨d,4,none⟩=some z0:=cell_of z.out.ob rfl
   have o5:wr.cell? ⟨d,5,none⟩=some (.slice M N R):=cell_of z.out.ob rfl
   have T:wr.frozen? (zA d)=false:=aI z.out.ob
   have U:wr.frozen? ⟨d,1,none⟩=false:=aI z.out.ob
   have V:wr.frozen? ⟨d,2,none⟩=false:=aI z.out.ob
   have X:wr.frozen? ⟨d,3,none⟩=false:=aI z.out.ob
   have Y:wr.frozen? ⟨d,4,none⟩=false:=aI z.out.ob
   have Z:wr.frozen? ⟨d,5,none⟩=false:=aI z.out.ob
   go_wp2_with fail
   clear o0 o1 o2 o3 o4 o5 T U V X Y Z
   have CE:=gK a b 4 P 0 (.slice M N R) Q wr (HV.out wr (fun _ _ _=>rfl)) bn
   by_cases hop:opE ((a,b),4,P,0,Q)=0
   case neg=>
    have A:Hid (decB s.toList=none):=eC HX.out (fun e=>hop e.1)
    have o:=hv.out;rw[A.out] at o;cases o
   obtain⟨T8,K⟩:=zx (fI ((a,b),4,P,0,Q))
   have ah:encS ((a,b),4,P,0,Q)=T8:=by unfold encS;rw[if_pos hop,K]
   rw[ah,hop,aD] at CE
   have ai:Hid (T8.toList=bytesB ((a,b),4,P,0,Q)):=by unfold Hid;rw[K,cK]
   have a2:=z9 hop
   clear ah K hop
   refine CE.mono ?_
   rintro e l ⟨rfl,H⟩
   have f:Hid (St w l s (E+1+3*n) d #[zI a,zI b,zI 4,.string P,zI 0,.slice M N R]):=z.out.below H
   have a3:Hid (∀k,w.heap.size+3 <=k -> k<wr.heap.size -> l.heap[k]? =wr.heap[k]?):=fun k _ hk=>H.block k hk
   have a4:=z9 H.size
   clear H CE
   have x0:l.cell? (zA d)=some (zI a):=cell_of f.out.ob rfl
   have x1:l.cell? ⟨d,1,none⟩=some (zI b):=cell_of f.out.ob rfl
   have x2:l.cell? ⟨d,2,none⟩=some (zI 4):=cell_of f.out.ob rfl
   have x3:l.cell? ⟨d,3,none⟩=some (.string P):=cell_of f.out.ob rfl
   have x4:l.cell? ⟨d,4,none⟩=some z0:=cell_of f.out.ob rfl
   have x5:l.cell? ⟨d,5,none⟩=some (.slice M N R):=cell_of f.out.ob rfl
   have r0:l.cell? (zW w)=some z0:=cell_of f.out.rb rfl
   have r1:l.cell? ⟨w.heap.size,1,none⟩=some z0:=cell_of f.out.rb rfl
   have r2:l.cell? ⟨w.heap.size,2,none⟩=some z0:=cell_of f.out.rb rfl
   have r3:l.cell? ⟨w.heap.size,3,none⟩=some (.string ⟨#[]⟩):=cell_of f.out.rb rfl
   have r4:l.cell? ⟨w.heap.size,4,none⟩=some z0:=cell_of f.out.rb rfl
   have r5:l.cell? ⟨w.heap.size,5,none⟩=some (zS):=cell_of f.out.rb rfl
   have cy:l.frozen? (zW w)=false:=aI f.out.rb
   have cz:l.frozen? ⟨w.heap.size,1,none⟩=false:=aI f.out.rb
   have c0:l.frozen? ⟨w.heap.size,2,none⟩=false:=aI f.out.rb
   have c1:l.frozen? ⟨w.heap.size,3,none⟩=false:=aI f.out.rb
   have c2:l.frozen? ⟨w.heap.size,4,none⟩=false:=aI f.out.rb
   have c3:l.frozen? ⟨w.heap.size,5,none⟩=false:=aI f.out.rb
   by_cases I:T8.toList=s.toList
   ·have HE:Hid (decB s.toList=some ((a,b),4,P,0,Q)):=cU.2 ⟨a2.out,by rw[<- ai.out];exact I⟩
    have b1:(T8.toList==s.toList)=true:=by simpa using I
    have a5:Hid (∀x0 x1 x2 x3 x4 x5 W,(∀k,w.heap.size <=k -> k<(six6 l w.heap.size x0 x1 x2 x3 x4 x5).heap.size -> W.heap[k]? =(six6 l w.heap.size x0 x1 x2 x3 x4 x5).heap[k]?) -> DtsAt W (.slice M N R) (Q)):=fun x0 x1 x2 x3 x4 x5 W hW=>HV.out _ (fun k hk1 hk2=>(hW k (by omega) (by rw[eN];exact jE hk2 a4.out)).trans ((dT _ _ _ _ _ _ _ _ _ (by omega)).trans (a3.out k hk1 hk2)))
    clear I
    go_wp2_with fail
    refine bodyPost_ret (v:=uP ((a,b),4,P,0,Q) (.slice M N R)) ?_ rfl (aDN.yes HE.out (fun W hW=>⟨_,rfl,a5.out _ _ _ _ _ _ W hW⟩) ?_)
    ·simp[results,Tryz.results146,uP,go_sem,asAddr,Result.andThen,r0,r1,r2,r3,r4,r5]
    ·exact dP f.out.bl (qC _) _ _ _ _ _ _
   ·have A:Hid (decB s.toList=none):=eC HX.out (fun e=>I (ai.out.trans e.2))
    have o:=hv.out;rw[A.out] at o;cases o
end Vj
namespace Vk
theorem tS(w:World):Calls prog 113 #[.nilIface] w fun e w'=>e=.returned .nilIface/\w'=w:=by
 go_in;go_wp2_with fail;go_ret;exact⟨rfl,rfl⟩
theorem aD6(h:Nat)(y v:Value)(w:World)(hh:w.heap[h]? =some (.cells #[y] 25 (0,0)))(hv:v.oneCell'=true):(storeCells ⟨h,0,none⟩ [v]).run prog w=.ok () (w.setCell ⟨h,0,none⟩ v):=by
 have a:w.cell? (zA h)=some y:=cell_of hh rfl;have b:w.frozen? (zA h)=false:=aI hh
 have c:(store (zA h) v).run prog w=.ok () (w.setCell (zA h) v):=by
  rw[run_store _ _ _ _ _ hv,a];simp only[b];rfl
 simp[storeCells,Addr.add,c]
theorem aHd(h:Nat)(y:Value)(w:World)(hh:w.heap[h]? =some (.cells #[y] 25 (0,0))):
  CallsD prog 112 #[.pointer (some ⟨h,0,none⟩)] .returning w fun e u' w'=>e=.returned (.tuple #[])/\u'=.returning/\w'=w.setCell ⟨h,0,none⟩ .nilIface:=by
 refine callsD_of_wpS Tryz.func112 rfl fun c₀ cs hu=> ?_
 apply wpS_region;simp[wpOpsS,go_sem,recoverD,hu,Tryz.ntmps112];refine(tS w).mono ?_;rintro e w2 ⟨rfl,a⟩;subst w2;simp[(aD6 h y .nilIface w hh rfl),Oper.upon,Result.andThen];refine⟨rfl,.returning, ?_,.tuple #[], ?_,rfl,rfl,rfl⟩
 ·cases c₀;simp_all
 ·simp[results,Tryz.results112]
end Vk
namespace Vl
open Vj
theorem aGa{s:ByteArray}{W:World}{o:Ox}(hn:decB s.toList=some o)(hs:s.size<=maxLen):Calls prog 146 #[.string s] W fun e w'=>∃p n c,e=.returned (uP o (.slice p n c))/\Kept W.heap.size w' (uP o (.slice p n c)) o/\zB W w':=by
 refine(aBJ s W hs (by rw[hn];rfl)).mono ?_;rintro e w' (⟨a,_⟩ | ⟨k,u,a,g,b,h⟩)
 ·rw[hn] at a;cases a
 ·rw[hn] at a;injection a with a
  subst a;obtain⟨v,i,j⟩:=b.now;obtain⟨p,c,d,_⟩:=j;subst d;subst i;exact⟨_,_,_,g,b,h⟩
end Vl
namespace Vm
open Vg Vi Vl
open La (bel)
theorem jI:(prog.info? 97).map (fun i=>(i.zero,i.size,i.bytes))=some (some (.agg #[.int .i64 0,.int .i64 0,.int .i64 0,.string ⟨#[]⟩,.int .i64 0,.slice none 0 0]),6,72):=by kernel_rfl
def Apart (L:Nat) (w:World) (v:Value) (y:Ox × Value):Prop:=
 ∃a b,L≤a∧(∀W:World,(∀k,a≤k→k<b→W.heap[k]? =w.heap[k]?)→DtsAt W y.2 y.1.2.2.2.2)∧b≤w.heap.size∧∀g,v.ownBlock=some g→¬(a≤g∧g<b)
variable {L n z:Nat}{w w2 w5 w9:World}{v:Value}{y:Ox × Value}{t:TypeId}{O:Obj}{xs:List Value}(x:Ox)(u:Value)
theorem Apart.at{W:World}(h:Apart L w v y)(hW:∀k,L<=k->k<w.heap.size->W.heap[k]? =w.heap[k]?):DtsAt W y.2 y.1.2.2.2.2:=by
 obtain⟨a,b,d,c,e,_⟩:=h;exact c W (fun k hk1 hk2=>hW k (by omega) (by omega))
theorem Apart.same(h:Apart L w v y)(hs:w.heap.size<=w2.heap.size)(hb:∀k,L<=k->k<w.heap.size->w2.heap[k]? =w.heap[k]?):Apart L w2 v y:=by
 obtain⟨a,b,c,d,e,f⟩:=h;exact⟨a,b,c,fun W hW=>d W (fun k hk1 hk2=>(hW k hk1 hk2).trans (hb k (by omega) (by omega))),qO e hs,f⟩
theorem Apart.grown{v2:Value}(h:Apart L w v y)(hg:w.grownBy w2 v.ownBlock)(hat:v2.ownBlock=v.ownBlock\/v2.ownBlock=some w.heap.size):Apart L w2 v2 y:=by
 obtain⟨a,b,d,f,i,c⟩:=h;refine⟨a,b,d,fun W hW=>f W (fun k hk1 hk2=>(hW k hk1 hk2).trans (hg.block k (by omega) (fun e=>c k e.symm ⟨hk1,hk2⟩))),qO i hg.size, ?_⟩;intro g hg2;rcases hat with e | e
 ·exact c g (by rw[<-e];exact hg2)
 ·rw[e] at hg2;injection hg2 with hg2
  omega
theorem pI{u:Value}{x:Ox}(hL:L<=w.heap.size)(hk:Kept w.heap.size w2 (uP x u) x)(hv:∀g,v.ownBlock=some g->g<w.heap.size):Apart L w2 v (x,u):=by
 refine⟨w.heap.size,w2.heap.size,hL,fun W hW=> ?_,qC _,fun g hg=>by have:=hv g hg;omega⟩;obtain⟨u2,e,b⟩:=hk W hW;unfold uP at e;injection e with e
 simp only[Array.mk.injEq,List.cons.injEq,and_true] at e;rw[e.2.2.2.2.2];exact b
theorem pN{k:Nat}{L:List UInt8}:manyB (k+1) L=if L.length<2\/L.length<2+numAt L 0 then none else match decB ((L.drop 2).take (numAt L 0)) with
  | none=>none
  | some o=>(manyB k (L.drop (2+numAt L 0))).map fun q=>(o::q.1,q.2):=by
 conv=>lhs;unfold manyB
 unfold numAt
 simp only[qY]
 split
 ·rfl
 ·split
  ·rename_i h9
   rw[h9]
  ·rename_i o ho
   rw[ho]
   cases manyB k (L.drop (2+((L.getD 0 0).toNat*256+(L.getD 1 0).toNat))) with
   | none=>rfl
   | some q=>rfl
theorem nM(L:List UInt8)(A:Nat):numAt (L.drop A) 0=numAt L A:=by
 unfold numAt;simp only[qA,xQ,vL,qY]
theorem fV(L:List UInt8):numAt L 0=(L.getD 0 0).toNat*256+(L.getD 1 0).toNat:=rfl
theorem sF{base:Nat}{m:Nat}{a b:List (Ox × Value)}(hn:a.length=n)(hm:b.length=m)(h:w.ownsRow base t 6 v (n+m) (flatO a++flatO b)):w.ownsRow base t 6 v (a++b).length (flatO (a++b)):=by
 rw[qE,eH,hn,hm];exact h
theorem oP(w:World)(x:Ox)(u:Value)(t:TypeId):∀j y,(flatO [(x,u)])[j]? =some y->(w.alloc (.cells #[.int .i64 x.1.1,.int .i64 x.1.2,.int .i64 x.2.1,.string x.2.2.1,.int .i64 x.2.2.2.1,u] t)).cell? ((⟨w.heap.size,0,none⟩:Addr).add j)=some y:=by
 intro j y hu;have e:flatO [(x,u)]=[zI x.1.1,zI x.1.2,zI x.2.1,.string x.2.2.1,zI x.2.2.2.1,u]:=rfl;rw[e] at hu;rw[jU,qY];simp only[World.cell?,(heap_alloc_new w (.cells #[zI x.1.1,zI x.1.2,zI x.2.1,.string x.2.2.1,zI x.2.2.2.1,u] t))];simpa using hu
theorem oQ(hu:u.oneCell'=true):∀y ∈ flatO [(x,u)],y.oneCell'=true:=by
 intro y hy;have e:flatO [(x,u)]=[zI x.1.1,zI x.1.2,zI x.2.1,.string x.2.2.1,zI x.2.2.2.1,u]:=rfl;rw[e] at hy;simp only[jD,vO,or_false] at hy;rcases hy with rfl | rfl | rfl | rfl | rfl | rfl
 all_goals first | rfl | exact hu
def aDB (s:ByteArray) (w:World) (e:Ending) (w':World):Prop:=
 (unpB s.toList=none∧e=.panicked aJg∧Below w.heap.size w w')∨∃l p n c,unpB s.toList=some l∧e=.returned (.slice p n c)∧(∀W:World,(∀k,w.heap.size≤k→k<w'.heap.size→W.heap[k]? =w'.heap[k]?)→OpsAt W (.slice p n c) l)∧Below w.heap.size w w'
theorem aDB.yes{s:ByteArray}{w':World}{l:List Ox}{p:Option Addr}{c:Nat}(h:unpB s.toList=some l)(hk:∀W:World,(∀k,w.heap.size<=k->k<w'.heap.size->W.heap[k]? =w'.heap[k]?)->OpsAt W (.slice p n c) l)(hb:zB w w'):aDB s w (.returned (.slice p n c)) w':=qF ⟨l,p,n,c,h,rfl,hk,hb⟩
theorem aGx(h:w5.ownsRow (w.heap.size+1) t z v n xs)(hb:zB w w5)(hg:(w5.alloc O).grownBy w9 v.ownBlock):zB w w9:=
 (hb.alloc hb.size O).trans ⟨hg.os,hg.tape,hg.output,hg.size,fun k hk=>hg.block k (by have:=hb.size;simp;omega) (fun e=>by have:=(World.ownsRow.lt h k e.symm).1;omega)⟩
theorem aIQ{r:ByteArray}(h:w5.ownsRow (w.heap.size+1) t z v n xs)(hr:Rd w5 w.heap.size r)(hg:(w5.alloc O).grownBy w9 v.ownBlock):Rd w9 w.heap.size r:=by
 have a:w.heap.size<w5.heap.size:=by
  rcases xR w.heap.size w5.heap.size with e | e
  ·exact e
  ·unfold Rd at hr;rw[jQ e] at hr;cases hr
 exact(hg.block _ (by simp;omega) (fun e=>by have:=(World.ownsRow.lt h _ e.symm).1;omega)).trans ((heap_alloc_old w5 O a).trans hr)
theorem aBz(s : ByteArray)(w : World)(hs : s.size <= maxLen)(hv : Hid ((unpB s.toList).isSome = true)) : Calls prog 114 #[.string s] w (aDB s w) := by
 have hm := hs
 unfold maxLen at hm
 have B : Hid (Rd (w.alloc (.cells #[.string s] 237)) w.heap.size (s.extract 0 s.size) /\ zB w (w.alloc (.cells #[.string s] 237)) /\ (w.alloc (.cells #[.string s] 237)).heap.size = w.heap.size + 1) :=
  ⟨by rw [aDs]; exact heap_alloc_new w _, (qD _ w).alloc (qC _) _, by simp⟩
 obtain⟨W0,L⟩:=zx (w.alloc (.cells #[.string s] 237))
 have au := z9 L
 rw [<- L] at B
 clear L
 go_in
 go_wp2_with fail
 rw [<- au.out]
 clear au
 by_cases M : s.size < 0 + 2
 ·have m : Hid (unpB s.toList = none) := by unfold Hid unpB; rw [if_pos (qH (by rw [Om.aJ]; omega))]
  have f := hv.out; rw [m.out] at f; cases f
 have av : 0 + 2 <= s.size := by omega
 have F := aCk _ s 0 W0 B.out.1 av hs
 obtain⟨n,O⟩:=zx (numAt s.toList 0)
 rw [<- O] at F
 by_cases h4 : 400 < n
 ·have m : Hid (unpB s.toList = none) := by unfold Hid unpB; rw [if_pos (qF (by rw [<- fV, <- O]; exact h4))]
  have f := hv.out; rw [m.out] at f; cases f
 have co : ¬ (400 : Int) < n := by omega
 have Q : Hid (unpB s.toList = match manyB n (s.toList.drop 2) with | some (l, []) => some l | _ => none) := by
  unfold Hid unpB; rw [if_neg (by rw [<- fV, <- O, Om.aJ]; omega), <- fV, <- O]
  rfl
 clear O
 refine F.mono ?_
 rintro e w2 ⟨rfl, aw, R⟩
 have K2 : Hid (zB w w2) := B.out.2.1.trans (R.below (qC _))
 have R2 := z9 aw
 have Z2 : Hid (w.heap.size + 1 <= w2.heap.size) := by unfold Hid; have := R.size; have := B.out.2.2; omega
 clear aw R F B
 obtain ⟨i0, hi, bh, bi, a8⟩ := info_parts jI
 go_wp2_with fail
 go_loopw [5, 13] (fun v i wr => ∃ (k A : Nat) (a : List (Ox × Value)), k <= n /\ i = zI k /\ (∃ P N C, v = .slice P N C) /\ Hid (A <= s.size) /\ Hid (a.length = k) /\ Hid (wr.ownsRow (w.heap.size + 1) 97 6 v a.length (flatO a)) /\ Hid (∀ y ∈ a, Apart (w.heap.size + 1) wr v y) /\ Hid (manyB n (s.toList.drop 2) = (manyB (n - k) (s.toList.drop A)).map fun q => (a.map (·.1) ++ q.1, q.2)) /\ Hid (zB w wr) /\ Hid (Rd wr w.heap.size (s.extract A s.size)) /\ Hid (w.heap.size + 1 <= wr.heap.size)) (fun _ i _ => n - (intOf i).toNat)
 case atStart => exact ⟨0, 2, [], by omega, rfl, ⟨_, _, _, rfl⟩, av, rfl, jT _ _ _ _, fun y hy => by simp at hy, by unfold Hid; cases manyB (n - 0) (s.toList.drop 2) <;> simp_all, K2, R2, Z2⟩
 case round =>
  clear K2 R2 Z2
  obtain ⟨k, A, a, hk, rfl, ⟨p0, n0, c0, rfl⟩, ax, ay, KW, KA, G, K, KR, KZ⟩ := hrel
  by_cases cq : k < n
  ·have ba : (k : Int) < n := by omega
   obtain ⟨j, hj⟩ : ∃ j, n - k = j + 1 := ⟨n - k - 1, by omega⟩
   rw [hj] at G
   have I := @pN j (s.toList.drop A)
   rw [xH, Om.aJ, nM] at I
   have HJ : Hid (n - (k + 1) = j) := by unfold Hid; omega
   have bo := ax.out
   have t := I
   rw [<- nM] at t
   have p : Hid (manyB (j + 1) (s.toList.drop A) = if s.size - A < 2 \/ s.size - A < 2 + numAt s.toList A then none else match decB (((s.toList.drop A).drop 2).take (numAt s.toList A)) with
    | none => none
    | some o => (manyB j ((s.toList.drop A).drop (2 + numAt s.toList A))).map fun q => (o :: q.1, q.2)) := I
   clear I hj t
   go_wp2_with fail
   by_cases c1 : s.size < A + 2
   ·have m : Hid (unpB s.toList = none) := by
     unfold Hid; rw [Q.out, G.out, p.out, if_pos (qH (by omega))]; rfl
    have f := hv.out; rw [m.out] at f; cases f
   have bp : A + 2 <= s.size := by omega
   have F := aCk _ s A wr KR.out bp hs
   have hd := aAV s.toList A
   obtain⟨d,az⟩:=zx (numAt s.toList A)
   rw [<- az] at F hd p
   clear az
   refine F.mono ?_
   rintro e w3 ⟨rfl, a0, S⟩
   have K3 : Hid (zB w w3) := K.out.trans (S.below (qC _))
   have R3 := z9 a0
   have O3 := z9 S
   clear a0 S F
   go_wp2_with fail
   by_cases c2 : s.size < A + 2 + d
   ·have m : Hid (unpB s.toList = none) := by
     unfold Hid; rw [Q.out, G.out, p.out, if_pos (qF (by omega))]; rfl
    have f := hv.out; rw [m.out] at f; cases f
   have T : A + 2 + d <= s.size := by omega
   have CT := zC _ s (A + 2) d w3 R3.out T hs
   obtain ⟨Y, hY⟩ : ∃ Y, s.extract (A + 2) (A + 2 + d) = Y := ⟨_, rfl⟩
   rw [hY] at CT
   have bt : Y.size <= maxLen := by rw [<- hY, size_extract s (A + 2) (A + 2 + d) T]; omega
   have a1 : (List.drop 2 (s.toList.drop A)).take d = Y.toList := by
    rw [<- hY, bY, vN, kL, show A + 2 + d - (A + 2) = d by omega]
   have a2 : (s.toList.drop A).drop (2 + d) = s.toList.drop (A + 2 + d) := by rw [vN, show A + (2 + d) = A + 2 + d by omega]
   have H := p.out
   rw [if_neg (by omega), a1, a2] at H
   have t : Hid (manyB (j + 1) (s.toList.drop A) = match decB Y.toList with
    | none => none
    | some o => (manyB j (s.toList.drop (A + 2 + d))).map fun q => (o :: q.1, q.2)) := H
   clear H p a1 a2 hY
   have U : Hid (a.length <= 400) := by unfold Hid; have := ay.out; omega
   refine CT.mono ?_
   rintro e w4 ⟨rfl, a3, V⟩
   have K4 : Hid (zB w w4) := K3.out.trans (V.below (qC _))
   have R4 := z9 a3
   have X := z9 (Vg.Only.trans O3.out V)
   clear a3 V CT K3 R3 O3
   go_wp2_with fail
   cases hdb : decB Y.toList with
   | none =>
    have m : Hid (unpB s.toList = none) := by
     unfold Hid; rw [Q.out, G.out, t.out, hdb]; rfl
    have f := hv.out; rw [m.out] at f; cases f
   | some x =>
    have bu : Hid (∀ u : Value, manyB n (s.toList.drop 2) = (manyB (n - (k + 1)) (s.toList.drop (A + 2 + d))).map fun q => ((a ++ [(x, u)]).map (·.1) ++ q.1, q.2)) := by
     intro u
     rw [G.out, t.out, hdb, HJ.out]
     cases manyB j (s.toList.drop (A + 2 + d)) with
     | none => rfl
     | some q => simp
    have CD := aGa (W := w4) hdb bt
    clear t HJ hdb G
    refine CD.mono ?_
    rintro e w5 ⟨Z, nv, cv, rfl, hu, D⟩
    have K5 := z9 (bel K4.out D)
    have R5 := z9 (aK D R4.out)
    have a4 : Hid (∀ k, w.heap.size + 1 <= k -> k < wr.heap.size -> w5.heap[k]? = wr.heap[k]?) := fun k h1 M => (D.block k (by have := X.out.size; omega)).trans (X.out.block k (by omega))
    have a5 : Hid (wr.heap.size <= w5.heap.size) := by unfold Hid; have := X.out.size; have := D.size; omega
    have bx : Hid (Apart (w.heap.size + 1) w5 (.slice p0 n0 c0) (x, .slice Z nv cv)) := pI (by have := X.out.size; have := KZ.out; omega) hu (fun g hg => by have := (KW.out.lt g hg).2; have := X.out.size; omega)
    have bz : Hid (∀ y ∈ a, Apart (w.heap.size + 1) w5 (.slice p0 n0 c0) y) := fun y hy => (KA.out y hy).same a5.out a4.out
    have ac := z9 (fT KW.out a4.out)
    obtain ⟨⟨xa, xb⟩, xt, xp, xc, xs⟩ := x
    unfold uP
    simp only
    have J : Hid (∀ O1, zB w5 (w5.alloc O1)) := fun O1 => (qD _ _).alloc (qC _) O1
    have b0 := z9 (oP w5 ((xa, xb), xt, xp, xc, xs) (.slice Z nv cv) 97)
    have a6 : Hid (∀ O1, w.heap.size + 1 <= (w5.alloc O1).heap.size) := fun O1 => by have := a5.out; have := KZ.out; simp; omega
    have aq : a.length + 1 <= maxLen := by have := U.out; unfold maxLen; omega
    have ar : (a.length + 1) * 72 <= 140737488355328 := by have := U.out; omega
    clear D CD hu
    go_wp2_with (at_builtin; refine wpList_append_own_at _ rfl (.tmp 15) (.tmp 19) 50 rfl (w.heap.size + 1) 97 i0 (.agg #[zI 0, zI 0, zI 0, .string ⟨#[]⟩, zI 0, zS]) 6 72 Tryz.underlying50 hi bh bi a8 rfl (by decide) (.slice p0 n0 c0) a.length (flatO a) rfl (ac.out.alloc _) (zW w5) 1 1 (flatO [(((xa, xb), xt, xp, xc, xs), Value.slice Z nv cv)]) rfl rfl b0.out (oQ _ _ rfl) aq ar (a6.out _) ?_; intro v9 w9 hown9 hgrow9 _ hat9; have a7 := z9 (sF rfl rfl hown9); have K9 := z9 (aGx ac.out K5.out hgrow9); have R9 := z9 (aIQ ac.out R5.out hgrow9); have Z9 : Hid (w.heap.size + 1 <= w9.heap.size) := qO (a6.out _) hgrow9.size; have b1 : Hid (∀ y ∈ a ++ [(((xa, xb), xt, xp, xc, xs), Value.slice Z nv cv)], Apart (w.heap.size + 1) w9 v9 y) := (fun y hy => by (rcases jB.1 hy with hy | hy); (exact ((bz.out y hy).same (J.out _).size (fun k _ hk => (J.out _).block k hk)).grown hgrow9 hat9); (rw [qP.1 hy]; exact (bx.out.same (J.out _).size (fun k _ hk => (J.out _).block k hk)).grown hgrow9 hat9)); obtain ⟨p9, N9, c9, b2, _⟩ := aG a7.out; subst b2; clear hown9 hgrow9 hat9)
    go_roundw
    case rel => exact ⟨k + 1, A + 2 + d, a ++ [(((xa, xb), xt, xp, xc, xs), Value.slice Z nv cv)], by omega, by go_num, ⟨_, _, _, rfl⟩, T, by unfold Hid; rw [qE, ay.out]; rfl, a7, b1, bu.out _, K9, R9, Z9⟩
    case measure => simp [intOf]; omega
  ·obtain rfl : n = k := by omega
   have ba : ¬ (n : Int) < n := by omega
   have HM : Hid (manyB n (s.toList.drop 2) = some (a.map (·.1), s.toList.drop A)) := by
    have f := G.out
    rw [Nat.sub_self] at f
    unfold Hid; rw [f]; unfold manyB; simp
   have bo := ax.out
   have q0 : wr.cell? (zW w) = some (.string (s.extract A s.size)) := cell_of KR.out rfl
   obtain⟨r,hr⟩:=zx (s.extract A s.size)
   rw [<- hr] at q0
   have ad : r.toList = s.toList.drop A := by rw [hr, dU]
   cases hdr : s.toList.drop A with
   | nil =>
    have HE : Hid (unpB s.toList = some (a.map (·.1))) := by
     unfold Hid; rw [Q.out, HM.out, hdr]
    have b4 : (r.toList == []) = true := by rw [ad, hdr]; rfl
    have KO : Hid (∀ W : World, (∀ k, w.heap.size <= k -> k < wr.heap.size -> W.heap[k]? = wr.heap[k]?) -> OpsAt W (.slice p0 n0 c0) (a.map (·.1))) := fun W hW => oD (fT KW.out (fun k h1 M => hW k (by omega) M)) (fun y hy => (KA.out y hy).at (fun k h1 M => hW k (by omega) M))
    have b5 : r = ⟨#[]⟩ := by
     apply mk_eq; rw [ad, hdr]; exact (toList_mk []).symm
    subst b5
    clear hr ad hdr b4
    go_wp2_with fail
    go_ret
    exact aDB.yes HE.out KO.out K.out
   | cons y rr =>
    have m : Hid (unpB s.toList = none) := by
     unfold Hid; rw [Q.out, HM.out, hdr]
    have f := hv.out; rw [m.out] at f; cases f
end Vm
namespace Vn
open Ka Vk Vm
open La (bel)
theorem aEu{w w2:World}{A:Array Value}{t:TypeId}(hb:Below (w.alloc (.cells A t)).heap.size (w.alloc (.cells A t)) w2):
  w2.heap[w.heap.size]? =some (.cells A t (0,0))/\zB w w2/\(w.alloc (.cells A t)).heap.size=w.heap.size+1:=by
 refine⟨?_,bel (zb w _) hb,by simp⟩;rw[hb.block _ (by simp)];exact heap_alloc_new w _
theorem aFb{s:ByteArray}{W:World}{l:List Ox}(hn:unpB s.toList=some l)(hs:s.size<=maxLen):Calls prog 114 #[.string s] W fun e w'=>∃p n c,e=.returned (.slice p n c)/\(∀W2:World,(∀k,W.heap.size<=k->k<w'.heap.size->W2.heap[k]? =w'.heap[k]?)->OpsAt W2 (.slice p n c) l)/\zB W w':=by
 refine(aBz s W hs (by rw[hn];rfl)).mono ?_;rintro e w' (⟨a,_⟩ | ⟨h,p,n,c,a,d,f,g⟩)
 ·rw[hn] at a;cases a
 ·rw[hn] at a;injection a with a
  subst a;exact⟨_,_,_,d,f,g⟩
theorem kR(s:ByteArray)(w:World)(l:List Ox)(hs:s.size<=maxLen)(hn:unpB s.toList=some l):
  Calls prog 83 #[.string s] w fun e w'=>∃v,e=.returned (.tuple #[v,errV 0])/\(∀W:World,(∀k,w.heap.size<=k->k<w'.heap.size->W.heap[k]? =w'.heap[k]?)->OpsAt W v l)/\zB w w':=by
 have J:∀(fn:Fn) (first cap:Array Value) (w:World),(Instr.makeFunc fn first cap).run prog w=.ok (.func fn first cap) w:=fun _ _ _ _=>rfl
 have C:=fun W=>aFb (W:=W) hn hs
 clear hn;go_enter_defers Tryz.func83,Tryz.ntmps83;go_wp2_with fail;refine(C _).mono ?_;rintro e w2 ⟨p,n,j,rfl,c,g⟩;obtain⟨d,h,q⟩:=aEu g
 have A:Hid (∀W:World,(∀k,w.heap.size+1<=k->k<w2.heap.size->W.heap[k]? =w2.heap[k]?)->OpsAt W (.slice p n j) l):=by
  intro W hW;refine c W (fun k h1 m=>hW k ?_ m);simp at h1;omega
 have B:=z9 d;have D:=z9 h;have o:w2.cell? (zW w)=some .nilIface:=cell_of d rfl;have E:w2.frozen? (zW w)=false:=aI d;clear g C c d h q;go_wp2_with fail;obtain⟨w4,a⟩:=zx (w2.setCell (zW w) .nilIface)
 have r:w4.heap[w.heap.size]? =some (.cells #[.nilIface] 25 (0,0)):=by
  rw[a];exact setCell_heap (cur:=#[.nilIface]) B.out
 have F:zB w w4:=by
  rw[a];exact D.out.setCell (p:=(zW w)) (by simp) _
 have G:∀k,w.heap.size+1<=k->w4.heap[k]? =w2.heap[k]? :=by
  intro k c;rw[a,set_block _ _ _ _ (by simp;omega)]
 rw[<-a];clear a o E;refine leaves_cons (f:=112) (args:=#[.pointer (some (zW w))]) (by simp) (by simp[go_sem]) ?_;refine(aHd w.heap.size _ w4 r).mono ?_;rintro e u' w5 ⟨rfl,rfl,b⟩
 have m:w5.heap[w.heap.size]? =some (.cells #[.nilIface] 25 (0,0)):=by
  rw[b];exact setCell_heap (cur:=#[.nilIface]) r
 have H:zB w w5:=by
  rw[b];exact F.setCell (p:=(zW w)) (by simp) _
 have I:∀W:World,(∀k,w.heap.size<=k->k<w5.heap.size->W.heap[k]? =w5.heap[k]?)->OpsAt W (.slice p n j) l:=by
  intro W hW;refine A.out W (fun k c hk2=> ?_)
  have t:w5.heap[k]? =w2.heap[k]? :=by
   rw[b,set_block _ _ _ _ (by simp;omega)];exact G k c
  have y:k<w5.heap.size:=by
   have i:w2.heap[k]? =some w2.heap[k]:=yT hk2;rw[<-t] at i;exact(qG.1 i).1
  rw[hW k (by omega) y];exact t
 have o:w5.cell? (zW w)=some .nilIface:=cell_of m rfl;clear b;refine⟨.tuple #[.slice p n j,errV 0], ?_,_,rfl,I,H⟩;simp[results,Tryz.results83,go_sem,asAddr,Result.andThen,o];rfl
end Vn
end Go.Proofs.YtjcemlmlfoilmaaGreatDoor
