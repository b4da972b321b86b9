import Derived.Test.YtlmdchpbpgcfmaaGreatDoorV1
import Derived.Lib.UnsafeStr
import Derived.Lib.BufferWrite
import Derived.Laws.MakeOwn
import Derived.RegionDies
import Derived.Deep.RegionLaw
import Derived.Defers
import Derived.Recover
import Derived.WalkLawsBesides
set_option linter.unusedVariables false
set_option maxRecDepth 100000
set_option maxHeartbeats 8000000
/- What the reader of package op answers, and where it panics: take, one, two, dot; strings.Clone. -/
namespace Go.Proofs.YtlmdchpbpgcfmaaGreatDoor
namespace Vg
open Go.ChangeShapes Go.WideShapes Go.ChangeAt Go.RowKit Cm Ka Kb Na Om Oa Oz Oc Og Oi Ov Va Vb Vc Vd Ve Vf
open La (bel bel_drew errV_zero errV_ne own_ge own_grow own_below)
/- the reader at g: what is left -/
def Rd (w:World) (g:Nat) (r:ByteArray):Prop:=w.heap[g]? =some (.cells #[.string r] 271 (0,0))
def SynP:List PanicEntry:=[{ v:=.iface 84 (.int .i64 2),recovered:=false }]
theorem only_grown {g:Nat} {w w':World} (h:Only g w w'):w.grownBy w' (some g):=⟨h.os,h.tape,h.output,Nat.le_of_eq h.size.symm,fun k _ hne=>h.block k (fun e=>hne (by rw[e]))⟩
theorem grown_block {g k:Nat} {w w':World} (h:w.grownBy w' (some g)) {o:Obj} (hk:w.heap[k]? =some o) (hne:k≠g):w'.heap[k]? =some o:=by
 have hlt:k<w.heap.size:=by
  rcases Nat.lt_or_ge k w.heap.size with e | e
  ·exact e
  ·rw[Array.getElem?_eq_none e] at hk;cases hk
 rw[h.block k hlt (fun e=>hne (by injection e))];exact hk
theorem grown_below {g B:Nat} {w w':World} (h:w.grownBy w' (some g)) (hB:B≤g) (hB2:B≤w.heap.size):Below B w w':=⟨h.os,h.tape,h.output,h.size,fun k hk=>h.block k (by omega) (fun e=>by injection e with e;omega)⟩
theorem grown_set {row:Option Nat} {w w':World} (h:w.grownBy w' row) {p:Addr} (hp:w.heap.size≤p.block) (v:Value):w.grownBy (w'.setCell p v) row:=
 ⟨h.os,h.tape,h.output,by simp only[World.setCell,Array.size_modify];exact h.size,fun k hk hne=>(set_block w' p v k (by omega)).trans (h.block k hk hne)⟩
theorem ext_size (s:ByteArray) (k:Nat):(s.extract k s.size).size=s.size-k:=size_extract s k s.size (Nat.le_refl _)
theorem ext_take (s:ByteArray) (k n:Nat) (h:k+n≤s.size):(s.extract k s.size).extract 0 n=s.extract k (k+n):=by
 apply mk_eq
 rw[list_extract,list_rest,list_extract,List.drop_zero,List.drop_take,show k+n-k=n by omega]
theorem ext_drop (s:ByteArray) (k n:Nat) (h:k+n≤s.size):(s.extract k s.size).extract n (s.extract k s.size).size=s.extract (k+n) s.size:=by
 apply mk_eq
 rw[list_rest,list_rest,list_rest,List.drop_drop]
theorem ext_all (s:ByteArray):s.extract 0 s.size=s:=by
 apply mk_eq
 rw[list_rest,List.drop_zero]
theorem take_no (g:Nat) (s:ByteArray) (k n:Nat) (w:World) (hr:Rd w g (s.extract k s.size)) (hk:k≤s.size) (h:s.size<k+n) (hs:s.size≤maxLen):
  Calls Tryz.prog 193 #[.pointer (some ⟨g,0,none⟩),.int .i64 n] w fun e w'=>e=.panicked SynP∧w'=w:=by
 have hc:w.cell? ⟨g,0,none⟩=some (.string (s.extract k s.size)):=cell_of hr rfl
 obtain⟨r,hre⟩:∃r,r=s.extract k s.size:=⟨_,rfl⟩
 have hz:(r.size:Int)<n:=by rw[hre,ext_size];omega
 rw[←hre] at hc
 clear hr hre h hk
 go_enter Tryz.func193,Tryz.ntmps193
 go_wp2_with fail
 exact⟨rfl,rfl,rfl⟩
theorem take_ok (g:Nat) (s:ByteArray) (k n:Nat) (w:World) (hr:Rd w g (s.extract k s.size)) (h:k+n≤s.size) (hs:s.size≤maxLen):
  Calls Tryz.prog 193 #[.pointer (some ⟨g,0,none⟩),.int .i64 n] w fun e w'=>e=.returned (.string (s.extract k (k+n)))∧Rd w' g (s.extract (k+n) s.size)∧Only g w w':=by
 have hc:w.cell? ⟨g,0,none⟩=some (.string (s.extract k s.size)):=cell_of hr rfl
 have hf:w.frozen? ⟨g,0,none⟩=false:=free_of hr
 have H1:=ext_take s k n h
 have H2:=ext_drop s k n h
 have hsz:=ext_size s k
 have HR:=z9 hr
 obtain⟨r,hre⟩:∃r,r=s.extract k s.size:=⟨_,rfl⟩
 rw[←hre] at hc H1 H2 hsz HR
 have hz:¬(r.size:Int)<n:=by omega
 have hnz:(n:Int)≤r.size:=by omega
 have hm:r.size≤maxLen:=by omega
 have H1H:=z9 H1
 have H2H:=z9 H2
 rw[←H1H.out,←H2H.out]
 clear hr hre h H1 H2 hsz
 go_enter Tryz.func193,Tryz.ntmps193
 go_wp2_with fail
 go_ret
 exact⟨rfl,setCell_heap HR.out,only_setCell _ _ _ _⟩
theorem one_no (g:Nat) (s:ByteArray) (k:Nat) (w:World) (hr:Rd w g (s.extract k s.size)) (hk:k≤s.size) (h:s.size<k+1) (hs:s.size≤maxLen):
  Calls Tryz.prog 208 #[.pointer (some ⟨g,0,none⟩)] w fun e w'=>e=.panicked SynP∧w'=w:=by
 have C:=take_no g s k 1 w hr hk h hs
 go_enter Tryz.func208,Tryz.ntmps208
 go_wp2_with fail
 refine C.mono ?_
 rintro e w2 ⟨rfl,hw⟩
 have hw2:=hw.symm;subst hw2;clear hw
 go_wp2_with fail
 exact⟨rfl,rfl,rfl⟩
theorem one_ok (g:Nat) (s:ByteArray) (k:Nat) (w:World) (hr:Rd w g (s.extract k s.size)) (h:k+1≤s.size) (hs:s.size≤maxLen):
  Calls Tryz.prog 208 #[.pointer (some ⟨g,0,none⟩)] w fun e w'=>e=.returned (.int .i64 ((s.toList.getD k 0).toNat:Int))∧Rd w' g (s.extract (k+1) s.size)∧Only g w w':=by
 have C:=take_ok g s k 1 w hr h hs
 obtain⟨T,hT⟩:∃T,T=s.extract k (k+1):=⟨_,rfl⟩
 have hTs:T.size=1:=by rw[hT,size_extract s k (k+1) h];omega
 have hT0:0<T.size:=by omega
 have hT0z:(0:Int)<T.size:=by omega
 have HE:Hid (((s.toList.getD k 0).toNat:Int)=(T[0].toNat:Int)):=by
  unfold Hid
  rw[←at_list T 0 hT0,hT,list_extract]
  congr 2
  rw[List.getD_eq_getElem?_getD,List.getD_eq_getElem?_getD,List.getElem?_drop,List.getElem?_take_of_lt (by omega)]
  rfl
 rw[HE.out]
 have hb:T[0].toNat<256:=UInt8.toNat_lt _
 have hw:IntKind.i64.wrap (T[0].toNat:Int)=(T[0].toNat:Int):=by rw[IntKind.wrap_i64];omega
 have hTm:T.size≤maxLen:=by unfold maxLen;omega
 rw[←hT] at C
 clear hr h hT hTs HE
 go_enter Tryz.func208,Tryz.ntmps208
 go_wp2_with fail
 refine C.mono ?_
 rintro e w2 ⟨rfl,hr2,ho2⟩
 have HR2:=z9 hr2
 have HO2:=z9 ho2
 clear hr2 ho2 C
 go_wp2_with fail
 go_ret
 exact⟨rfl,HR2.out,HO2.out⟩
theorem two_no (g:Nat) (s:ByteArray) (k:Nat) (w:World) (hr:Rd w g (s.extract k s.size)) (hk:k≤s.size) (h:s.size<k+2) (hs:s.size≤maxLen):
  Calls Tryz.prog 191 #[.pointer (some ⟨g,0,none⟩)] w fun e w'=>e=.panicked SynP∧w.grownBy w' (some g):=by
 by_cases h1:s.size<k+1
 ·have C:=one_no g s k w hr hk h1 hs
  go_enter Tryz.func191,Tryz.ntmps191
  go_wp2_with fail
  refine C.mono ?_
  rintro e w2 ⟨rfl,hw⟩
  have hw2:=hw.symm;subst hw2;clear hw
  go_wp2_with fail
  exact⟨rfl,rfl,World.grownBy.refl _ _⟩
 ·have C:=one_ok g s k w hr (by omega) hs
  obtain⟨x,hx⟩:∃x:Int,x=((s.toList.getD k 0).toNat:Int):=⟨_,rfl⟩
  have hx0:0≤x:=by omega
  have hx1:x<256:=by rw[hx];have:=UInt8.toNat_lt (s.toList.getD k 0);omega
  rw[←hx] at C
  clear hx
  go_enter Tryz.func191,Tryz.ntmps191
  go_wp2_with fail
  refine C.mono ?_
  rintro e w2 ⟨rfl,hr2,ho2⟩
  have C2:=one_no g s (k+1) w2 hr2 (by omega) (by omega) hs
  have HO2:=z9 ho2
  clear C hr2 ho2
  go_wp2_with fail
  refine C2.mono ?_
  rintro e w3 ⟨rfl,hw⟩
  have hw2:=hw.symm;subst hw2;clear hw
  go_wp2_with fail
  exact⟨rfl,rfl,only_grown HO2.out⟩
theorem or_two (X Y:Nat) (hX:X<256) (hY:Y<256):bits .or .i64 ((X:Int)*256) (Y:Int)=(X:Int)*256+(Y:Int):=by
 have e:((X:Int)*256)=((X*256:Nat):Int):=by omega
 have ho:X*256 ||| Y=X*256+Y:=by
  have:=Nat.two_pow_add_eq_or_of_lt (i:=8) (b:=Y) hY X
  rw[show(2:Nat)^8*X=X*256 by omega] at this
  exact this.symm
 have h1:(BitVec.ofInt 64 ((X*256:Nat):Int)).toNat=X*256:=by
  rw[BitVec.ofInt_natCast,BitVec.toNat_ofNat];exact Nat.mod_eq_of_lt (by omega)
 have h2:(BitVec.ofInt 64 (Y:Int)).toNat=Y:=by
  rw[BitVec.ofInt_natCast,BitVec.toNat_ofNat];exact Nat.mod_eq_of_lt (by omega)
 rw[e]
 show IntKind.i64.wrap ((BitVec.ofInt 64 ((X*256:Nat):Int) ||| BitVec.ofInt 64 (Y:Int)).toNat:Int)=_
 rw[BitVec.toNat_or,h1,h2,ho,IntKind.wrap_i64]
 omega
theorem Only.trans {g:Nat} {a b c:World} (h:Only g a b) (k:Only g b c):Only g a c:=⟨k.os.trans h.os,k.tape.trans h.tape,k.output.trans h.output,k.size.trans h.size,fun j hj=>(k.block j hj).trans (h.block j hj)⟩
theorem two_ok (g:Nat) (s:ByteArray) (k:Nat) (w:World) (hr:Rd w g (s.extract k s.size)) (h:k+2≤s.size) (hs:s.size≤maxLen):
  Calls Tryz.prog 191 #[.pointer (some ⟨g,0,none⟩)] w fun e w'=>e=.returned (.int .i64 ((numAt s.toList k:Nat):Int))∧Rd w' g (s.extract (k+2) s.size)∧Only g w w':=by
 have C:=one_ok g s k w hr (by omega) hs
 obtain⟨x,hx⟩:∃x:Int,x=((s.toList.getD k 0).toNat:Int):=⟨_,rfl⟩
 have hx0:0≤x:=by omega
 have hx1:x<256:=by rw[hx];have:=UInt8.toNat_lt (s.toList.getD k 0);omega
 obtain⟨y,hy⟩:∃y:Int,y=((s.toList.getD (k+1) 0).toNat:Int):=⟨_,rfl⟩
 have hy0:0≤y:=by omega
 have hy1:y<256:=by rw[hy];have:=UInt8.toNat_lt (s.toList.getD (k+1) 0);omega
 have HE:Hid (((numAt s.toList k:Nat):Int)=x*256+y):=by unfold Hid numAt;rw[hx,hy];omega
 have HOR:Hid (bits .or .i64 (x*256) y=x*256+y):=by unfold Hid;rw[hx,hy];exact or_two _ _ (UInt8.toNat_lt _) (UInt8.toNat_lt _)
 have HY:=z9 hy
 rw[←hx] at C
 clear hx hy
 go_enter Tryz.func191,Tryz.ntmps191
 go_wp2_with fail
 refine C.mono ?_
 rintro e w2 ⟨rfl,hr2,ho2⟩
 have C2:=one_ok g s (k+1) w2 hr2 (by omega) hs
 rw[←HY.out] at C2
 have HO2:=z9 ho2
 clear C hr2 ho2
 go_wp2_with fail
 refine C2.mono ?_
 rintro e w3 ⟨rfl,hr3,ho3⟩
 have HR3:=z9 hr3
 have HO3:=z9 ho3
 clear C2 hr3 ho3
 go_wp2_with fail
 go_ret
 refine⟨?_,HR3.out, ?_⟩
 ·rw[HE.out,←HOR.out];rfl
 ·exact Only.trans HO2.out HO3.out
theorem dot_no (g:Nat) (s:ByteArray) (k:Nat) (w:World) (hr:Rd w g (s.extract k s.size)) (hk:k≤s.size) (h:s.size<k+3) (hs:s.size≤maxLen):
  Calls Tryz.prog 209 #[.pointer (some ⟨g,0,none⟩)] w fun e w'=>e=.panicked SynP∧w.grownBy w' (some g):=by
 have hgl:g<w.heap.size:=by
  rcases Nat.lt_or_ge g w.heap.size with e | e
  ·exact e
  ·unfold Rd at hr;rw[Array.getElem?_eq_none e] at hr;cases hr
 have HA:Hid (∀O,Rd (w.alloc O) g (s.extract k s.size)):=fun O=>(heap_alloc_old w O hgl).trans hr
 have HG:Hid (∀O,w.grownBy (w.alloc O) (some g)):=fun O=>World.grownBy_alloc w O _
 by_cases h1:s.size<k+1
 ·have C:=fun O=>one_no g s k (w.alloc O) (HA.out O) hk h1 hs
  clear hr
  go_enter Tryz.func209,Tryz.ntmps209
  go_wp2_with fail
  refine(C _).mono ?_
  rintro e w2 ⟨rfl,hw⟩
  have hw2:=hw.symm;subst hw2;clear hw
  go_wp2_with fail
  exact⟨rfl,rfl,HG.out _⟩
 ·have C:=fun O=>one_ok g s k (w.alloc O) (HA.out O) (by omega) hs
  obtain⟨x,hx⟩:∃x:Int,x=((s.toList.getD k 0).toNat:Int):=⟨_,rfl⟩
  rw[←hx] at C
  clear hx hr
  go_enter Tryz.func209,Tryz.ntmps209
  go_wp2_with fail
  refine(C _).mono ?_
  rintro e w2 ⟨rfl,hr2,ho2⟩
  have C2:=two_no g s (k+1) w2 hr2 (by omega) (by omega) hs
  have HO2:Hid (w.grownBy w2 (some g)):=(HG.out _).trans (only_grown ho2)
  clear C hr2 ho2
  go_wp2_with fail
  refine C2.mono ?_
  rintro e w3 ⟨rfl,hg3⟩
  have HO3:=z9 (HO2.out.trans hg3)
  clear hg3 C2
  go_wp2_with fail
  exact⟨rfl,rfl,HO3.out⟩
theorem dot_ok (g:Nat) (s:ByteArray) (k:Nat) (w:World) (hr:Rd w g (s.extract k s.size)) (h:k+3≤s.size) (hs:s.size≤maxLen):
  Calls Tryz.prog 209 #[.pointer (some ⟨g,0,none⟩)] w fun e w'=>e=.returned (.agg #[.int .i64 ((s.toList.getD k 0).toNat:Int),.int .i64 ((numAt s.toList (k+1):Nat):Int)])∧Rd w' g (s.extract (k+3) s.size)∧w.grownBy w' (some g):=by
 have hgl:g<w.heap.size:=by
  rcases Nat.lt_or_ge g w.heap.size with e | e
  ·exact e
  ·unfold Rd at hr;rw[Array.getElem?_eq_none e] at hr;cases hr
 have HA:Hid (∀O,Rd (w.alloc O) g (s.extract k s.size)):=fun O=>(heap_alloc_old w O hgl).trans hr
 have HG:Hid (∀O,w.grownBy (w.alloc O) (some g)):=fun O=>World.grownBy_alloc w O _
 have HGL:=z9 hgl
 have HN:Hid (∀O,(w.alloc O).heap[w.heap.size]? =some O):=fun O=>heap_alloc_new w O
 obtain⟨x,hx⟩:∃x:Int,x=((s.toList.getD k 0).toNat:Int):=⟨_,rfl⟩
 obtain⟨y,hy⟩:∃y:Int,y=((numAt s.toList (k+1):Nat):Int):=⟨_,rfl⟩
 have C:=fun O=>one_ok g s k (w.alloc O) (HA.out O) (by omega) hs
 have HY:=z9 hy
 rw[←hx] at C
 rw[←hx,←hy]
 clear hx hy hr
 go_enter Tryz.func209,Tryz.ntmps209
 go_wp2_with fail
 refine(C _).mono ?_
 rintro e w2 ⟨rfl,hr2,ho2⟩
 have C2:=two_ok g s (k+1) w2 hr2 (by omega) hs
 rw[←HY.out] at C2
 have HO2:=z9 ho2
 clear C hr2 ho2
 go_wp2_with fail
 refine C2.mono ?_
 rintro e w3 ⟨rfl,hr3,ho3⟩
 have HR3:=z9 hr3
 have HO3:=z9 (Only.trans HO2.out ho3)
 have HB3:Hid (w3.heap[w.heap.size]? =some (.cells #[.int .i64 0,.int .i64 0] 72 (0,0))):=((HO3.out.block _ (by have:=HGL.out;omega)).trans (HN.out _))
 have c0:w3.cell? ⟨w.heap.size,0,none⟩=some (.int .i64 0):=cell_of HB3.out rfl
 have c1:w3.cell? ⟨w.heap.size,1,none⟩=some (.int .i64 0):=cell_of HB3.out rfl
 have f0:w3.frozen? ⟨w.heap.size,0,none⟩=false:=free_of HB3.out
 have f1:w3.frozen? ⟨w.heap.size,1,none⟩=false:=free_of HB3.out
 clear C2 hr3 ho3
 go_wp2_with fail
 have h1:((w3.setCell ⟨w.heap.size,0,none⟩ (.int .i64 x)).setCell ⟨w.heap.size,1,none⟩ (.int .i64 y)).heap[w.heap.size]? =some (.cells #[.int .i64 x,.int .i64 y] 72 (0,0)):=setCell_heap (setCell_heap HB3.out)
 have h2:Rd ((w3.setCell ⟨w.heap.size,0,none⟩ (.int .i64 x)).setCell ⟨w.heap.size,1,none⟩ (.int .i64 y)) g (s.extract (k+3) s.size):=by
  unfold Rd
  have:=HGL.out
  rw[set_block _ _ _ _ (by simp;omega),set_block _ _ _ _ (by simp;omega)]
  exact HR3.out
 have h3:w.grownBy ((w3.setCell ⟨w.heap.size,0,none⟩ (.int .i64 x)).setCell ⟨w.heap.size,1,none⟩ (.int .i64 y)) (some g):=
  grown_set (grown_set ((HG.out _).trans (only_grown HO3.out)) (Nat.le_refl _) _) (Nat.le_refl _) _
 obtain⟨W,hW⟩:∃W,W=((w3.setCell ⟨w.heap.size,0,none⟩ (.int .i64 x)).setCell ⟨w.heap.size,1,none⟩ (.int .i64 y)):=⟨_,rfl⟩
 rw[←hW] at h1 h2 h3
 rw[←hW]
 have r0:W.cell? ⟨w.heap.size,0,none⟩=some (.int .i64 x):=cell_of h1 rfl
 have r1:W.cell? ⟨w.heap.size,1,none⟩=some (.int .i64 y):=cell_of h1 rfl
 clear hW c0 c1 f0 f1
 refine bodyPost_ret (v:=.agg #[.int .i64 x,.int .i64 y]) ?_ rfl ⟨rfl,h2,h3⟩
 simp[results,Tryz.results209,go_sem,asAddr,Result.andThen,r0,r1]
end Vg
end Go.Proofs.YtlmdchpbpgcfmaaGreatDoor
/- What strings.Clone answers. -/
namespace Go.Proofs.YtlmdchpbpgcfmaaGreatDoor
namespace Vh
open Go.ChangeShapes Go.WideShapes Go.ChangeAt Go.RowKit Cm Ka Kb Na Om Oa Oz Oc Og Oi Ov Va Vb Vc Vd Ve Vf Vg
open La (bel bel_drew errV_zero errV_ne own_ge own_grow own_below)
theorem lite_any (s:ByteArray) (w:World) (hs:s.size≤255):
  Calls Tryz.prog 101 #[.string s] w fun e w'=>e=.returned (.string s)∧Below w.heap.size w w':=by
 by_cases h0:s.size=0
 ·obtain rfl:s=⟨#[]⟩:=by
   apply mk_eq
   have h1:s.toList=[]:=List.eq_nil_of_length_eq_zero (by rw[Om.len_eq];exact h0)
   rw[h1,toList_mk []]
  go_enter Tryz.func101,Tryz.ntmps101
  go_wp2_with fail
  go_ret
  exact⟨rfl,Below.refl _ _⟩
 ·obtain⟨i0,hi,hz0,hz1,hz2⟩:=info_parts info5
  have hin:(Tryz.prog.info? 5).map (·.size)=some 1:=by rw[hi];simp[hz1]
  have hce:Tryz.prog.cellsOf 5=1:=by simp[Program.cellsOf,hi,hz1]
  have hne:s.data.toList≠[]:=by
   intro e
   apply h0
   rw[←Om.len_eq,ByteArray.toList_eq,e];rfl
  have hsl:s.data.toList.length=s.size:=by rw[←ByteArray.toList_eq,Om.len_eq]
  obtain⟨Z,hZ⟩:∃Z,Z=madeCells (Value.int .u8 0).cells (((s.size:Nat):Int).toNat*i0.size):=⟨_,rfl⟩
  have hZs:Z.size=s.size:=by rw[hZ,size_madeCells,hz1];simp
  have mk:∀W:World,(Instr.makeSlice 178 (.int .i64 (s.size:Int)) (.int .i64 (s.size:Int))).run Tryz.prog W=.ok (.slice (some ⟨W.heap.size,0,none⟩) s.size s.size) (W.alloc (.cells Z 5)):=by
   intro W
   have h:=run_make (P:=Tryz.prog) W 178 5 i0 (.int .u8 0) Tryz.underlying178 hi hz0 .i64 .i64 (s.size:Int) (s.size:Int) (by omega) (by omega) (by rw[hz2];omega) (by omega)
   rw[←hZ] at h
   simpa using h
  obtain⟨Y,hY⟩:∃Y,Y=(Z.toList.take 0++Lib.byteCells s.data.toList++Z.toList.drop (0+s.size)).toArray:=⟨_,rfl⟩
  have cp:=Lib.run_copy_row_string (P:=Tryz.prog) (w.alloc (.cells Z 5)) 178 9 3 5 w.heap.size 0 s.size s.size s Z 5 Tryz.underlying178 hin (heap_alloc_new w _) (Nat.le_refl _) (by omega)
  rw[←hY] at cp
  have hYl:Y.toList=Lib.byteCells s.data.toList:=by
   rw[hY,List.toList_toArray,List.take_zero,List.nil_append,List.drop_of_length_le (by rw[Array.length_toList];omega),List.append_nil]
  have hYs:Y.size=s.size:=by rw[←Array.length_toList,hYl,Lib.byteCells_length,hsl]
  have hb:((w.alloc (.cells Z 5)).setRow w.heap.size Y).heap[w.heap.size]? =some (.cells Y 5 (0,0)):=setRow_heap _ _ Z _ 5 (0,0) (heap_alloc_new w _)
  have us:=Lib.run_unsafeString_row (P:=Tryz.prog) ((w.alloc (.cells Z 5)).setRow w.heap.size Y) 212 3 9 5 Tryz.underlying212 hce w.heap.size Y.size (by unfold World.shape?;rw[hb]) s.data.toList hne (by omega) (by omega) (by
   intro j x hx
   rw[addr_zero]
   refine cell_of hb ?_
   rw[←Array.getElem?_toList,hYl]
   simp[Lib.byteCells,hx])
  rw[hsl] at us
  have HBE:Hid (Below w.heap.size w ((w.alloc (.cells Z 5)).setRow w.heap.size Y)):=
   ((Below.refl _ w).alloc (Nat.le_refl _) _).trans ⟨rfl,rfl,rfl,by simp,fun k hk=>setRow_other _ _ _ _ (by omega)⟩
  have hsz:(s.size:Int)≤255:=by omega
  have h0b:((s.size:Int)==0)=false:=by simpa using h0
  have h0p:0<s.size:=by omega
  have h0z:(0:Int)<s.size:=by omega
  clear hY hZ hb hYl hne hsl h0
  go_enter Tryz.func101,Tryz.ntmps101
  go_wp2_with fail
  go_ret
  exact⟨rfl,Lib.below_freeze HBE.out (p:=⟨w.heap.size,0,none⟩) (Nat.le_refl _) _⟩
theorem clone_any (s:ByteArray) (w:World) (hs:s.size≤255):
  Calls Tryz.prog 59 #[.string s] w fun e w'=>e=.returned (.string s)∧Below w.heap.size w w':=by
 have C:=lite_any s w hs
 go_enter Tryz.func59,Tryz.ntmps59
 go_wp2_with fail
 refine C.mono ?_
 rintro e w2 ⟨rfl,hb⟩
 have HB:=z9 hb
 clear hb C
 go_wp2_with fail
 go_ret
 exact⟨rfl,HB.out⟩
end Vh
end Go.Proofs.YtlmdchpbpgcfmaaGreatDoor
/- What readOp wants: which bytes are too short for an op, what stands in them, and the worlds between its calls. -/
namespace Go.Proofs.YtlmdchpbpgcfmaaGreatDoor
namespace Vi
open Go.ChangeShapes Go.WideShapes Go.ChangeAt Go.RowKit Cm Ka Kb Na Om Oa Oz Oc Og Oi Ov Va Vb Vc Vd Ve Vf Vg Vh
open La (bel bel_drew errV_zero errV_ne own_ge own_grow own_below)
theorem drop_bytes (o:Ox):(bytesB o).drop (5+o.2.2.1.size)=tailB o++[u8 (sumB (frontB o)%253)]:=by
 have eq:bytesB o=u8 o.2.1::u8 o.1.1::u8 (o.1.2/256)::u8 (o.1.2%256)::u8 o.2.2.1.size::(o.2.2.1.toList++(tailB o++[u8 (sumB (frontB o)%253)])):=by
  unfold bytesB
  show(u8 o.2.1::u8 o.1.1::u8 (o.1.2/256)::u8 (o.1.2%256)::u8 o.2.2.1.size::(o.2.2.1.toList++tailB o))++_=_
  simp only[List.cons_append,List.append_assoc]
 rw[eq,Nat.add_comm 5]
 show(o.2.2.1.toList++(tailB o++_)).drop o.2.2.1.size=_
 rw[←Om.len_eq,List.drop_left]
theorem dec_some {S:List UInt8} {o:Ox} (h:decB S=some o):readB S=o∧opE o=0∧bytesB o=S∧(S.getD 4 0).toNat=o.2.2.1.size:=by
 obtain⟨h1,h2⟩:=decB_iff.1 h
 obtain⟨g1,g2,g3⟩:=read_bytes h1
 rw[h2] at g1 g3
 refine⟨g1,h1,h2, ?_⟩
 have hp:=Bm.chk_pos (opE_zero.1 h1).2.2.1
 rw[Om.len_eq] at hp
 have e:=u8_val (n:=(o.2.2.1.size:Int)) (by omega) (by omega)
 rw[g3];omega
theorem dec_none_of {S:List UInt8} {o:Ox} (hr:readB S=o) (h:¬(opE o=0∧bytesB o=S)):decB S=none:=by
 cases hd:decB S with
 | none=>rfl
 | some q=>
  obtain⟨g1,g2,g3,_⟩:=dec_some hd
  rw[hr] at g1
  subst g1
  exact absurd ⟨g2,g3⟩ h
theorem dec_lt {S:List UInt8} (h:S.length<5∨S.length<5+(S.getD 4 0).toNat):decB S=none:=by unfold decB;rw[if_pos h]
theorem dec_short1 {S:List UInt8} (h1:((S.getD 0 0).toNat:Int)=1) (h:S.length<5+(S.getD 4 0).toNat+1):decB S=none:=by
 cases hd:decB S with
 | none=>rfl
 | some q=>
  obtain⟨g1,g2,g3,g4⟩:=dec_some hd
  have e:q.2.1=1:=by rw[←g1];exact h1
  have hl:=bytesB_len q
  rw[g3,e] at hl
  simp at hl
  omega
theorem dec_short4 {S:List UInt8} (h1:((S.getD 0 0).toNat:Int)=4) (h:S.length<5+(S.getD 4 0).toNat+1):decB S=none:=by
 cases hd:decB S with
 | none=>rfl
 | some q=>
  obtain⟨g1,g2,g3,g4⟩:=dec_some hd
  have e:q.2.1=4:=by rw[←g1];exact h1
  have hl:=bytesB_len q
  rw[g3,e] at hl
  simp at hl
  omega
theorem dec_short4n {S:List UInt8} {E:Nat} (hE:E=5+(S.getD 4 0).toNat) (h1:((S.getD 0 0).toNat:Int)=4) (h:S.length<E+1+3*(S.getD E 0).toNat):decB S=none:=by
 cases hd:decB S with
 | none=>rfl
 | some q=>
  obtain⟨g1,g2,g3,g4⟩:=dec_some hd
  have e:q.2.1=4:=by rw[←g1];exact h1
  have hl:=bytesB_len q
  have h40:=(lawOf_zero.1 (opE_zero.1 g2).2.2.2).2.2.2.1
  have hdr:=drop_bytes q
  rw[g3] at hl hdr
  rw[e] at hl
  simp at hl
  have hEq:E=5+q.2.2.1.size:=by omega
  rw[←hEq] at hdr
  have ht:tailB q=u8 q.2.2.2.2.length::seenB q.2.2.2.2:=by unfold tailB;rw[e];rfl
  rw[ht] at hdr
  have hg:S.getD E 0=u8 q.2.2.2.2.length:=by
   have:(S.drop E).getD 0 0=u8 q.2.2.2.2.length:=by rw[hdr];rfl
   rw[←this,List.getD_eq_getElem?_getD,List.getD_eq_getElem?_getD,List.getElem?_drop,Nat.add_zero]
  have hv:=u8_val (n:=(q.2.2.2.2.length:Int)) (by omega) (by omega)
  rw[hg] at h
  omega
theorem head_drop (S:List UInt8) (E:Nat):(S.drop E).headD 0=S.getD E 0:=by
 rw[←head_at,List.getD_eq_getElem?_getD,List.getD_eq_getElem?_getD,List.getElem?_drop,Nat.add_zero]
theorem tail_drop (S:List UInt8) (E:Nat):(S.drop E).tail=S.drop (E+1):=by rw[List.tail_drop]
/- what stands in the bytes -/
theorem readB_at (s:ByteArray) (E:Nat) (hE:E=5+(s.toList.getD 4 0).toNat) (h:E≤s.size):
  readB s.toList=((((s.toList.getD 1 0).toNat:Int),((numAt s.toList 2:Nat):Int)),((s.toList.getD 0 0).toNat:Int),s.extract 5 E,
   letterIn ((s.toList.getD 0 0).toNat:Int) (s.toList.drop E),seenIn ((s.toList.getD 0 0).toNat:Int) (s.toList.drop E)):=by
 have ep:(⟨((s.toList.drop 5).take (s.toList.getD 4 0).toNat).toArray⟩:ByteArray)=s.extract 5 E:=by
  apply mk_eq
  rw[list_extract,toList_mk,List.drop_take,show E-5=(s.toList.getD 4 0).toNat by omega]
 have eb:((s.toList.getD 2 0).toNat:Int)*256+((s.toList.getD 3 0).toNat:Int)=((numAt s.toList 2:Nat):Int):=by
  show _=(((s.toList.getD 2 0).toNat*256+(s.toList.getD 3 0).toNat:Nat):Int);omega
 unfold readB
 rw[ep,eb,←hE]
theorem letter1 (S:List UInt8) (E:Nat):letterIn 1 (S.drop E)=((S.getD E 0).toNat:Int):=by unfold letterIn;rw[if_pos rfl,head_drop]
theorem seen4 (S:List UInt8) (E:Nat):seenIn 4 (S.drop E)=threes (S.getD E 0).toNat (S.drop (E+1)):=by unfold seenIn;rw[if_pos rfl,head_drop,tail_drop]
theorem threes_zero (r:List UInt8):threes 0 r=[]:=by cases r<;>rfl
theorem threes_snoc (S:List UInt8):∀(i j:Nat),j+3*i+3≤S.length→threes (i+1) (S.drop j)=threes i (S.drop j)++[(((S.getD (j+3*i) 0).toNat:Int),((numAt S (j+3*i+1):Nat):Int))]
 | i,j,h=>by
  have d1:S.drop j=S.getD j 0::S.getD (j+1) 0::S.getD (j+2) 0::S.drop (j+3):=by
   rw[List.drop_eq_getElem_cons (by omega),List.drop_eq_getElem_cons (i:=j+1) (by omega),List.drop_eq_getElem_cons (i:=j+1+1) (by omega)]
   rw[List.getD_eq_getElem?_getD,List.getD_eq_getElem?_getD,List.getD_eq_getElem?_getD,List.getElem?_eq_getElem (by omega),List.getElem?_eq_getElem (by omega),List.getElem?_eq_getElem (by omega)]
   rfl
  match i,h with
  | 0,h=>
   rw[threes_zero,d1]
   show[_]++threes 0 _=_
   rw[threes_zero]
   show[((((S.getD j 0).toNat:Nat):Int),((S.getD (j+1) 0).toNat:Int)*256+((S.getD (j+2) 0).toNat:Int))]=[((((S.getD j 0).toNat:Nat):Int),(((S.getD (j+1) 0).toNat*256+(S.getD (j+1+1) 0).toNat:Nat):Int))]
   congr 2
  | i+1,h=>
   have ih:=threes_snoc S i (j+3) (by omega)
   rw[d1]
   show _::threes (i+1) (S.drop (j+3))=(_::threes i (S.drop (j+3)))++_
   rw[ih,List.cons_append,show j+3+3*i=j+3*(i+1) by omega]
/- the worlds between the calls: the answer's block, the reader's, the op's -/
def Z6:Array Value:=#[.int .i64 0,.int .i64 0,.int .i64 0,.string ⟨#[]⟩,.int .i64 0,.slice none 0 0]
structure St (w W:World) (s:ByteArray) (k h4:Nat) (cs:Array Value):Prop where
 rd:Rd W (w.heap.size+1) (s.extract k s.size)
 ob:W.heap[h4]? =some (.cells cs 75 (0,0))
 rb:W.heap[w.heap.size]? =some (.cells Z6 75 (0,0))
 bl:Below w.heap.size w W
 at4:h4=w.heap.size+2
 sz:w.heap.size+3≤W.heap.size
theorem keep_heap {W W':World} {k:Nat} {o:Obj} (hb:Below W.heap.size W W') (h:W.heap[k]? =some o):W'.heap[k]? =some o:=by
 rw[hb.block k (by
  rcases Nat.lt_or_ge k W.heap.size with e | e
  ·exact e
  ·rw[Array.getElem?_eq_none e] at h;cases h)]
 exact h
theorem St.grown {w W W':World} {s:ByteArray} {k k' h4:Nat} {cs:Array Value} (h:St w W s k h4 cs) (g:W.grownBy W' (some (w.heap.size+1))) (hr:Rd W' (w.heap.size+1) (s.extract k' s.size)):St w W' s k' h4 cs:=
 ⟨hr,grown_block g h.ob (by have:=h.at4;omega),grown_block g h.rb (by omega),h.bl.trans (grown_below g (by omega) (by have:=h.sz;omega)),h.at4,Nat.le_trans h.sz g.size⟩
theorem St.only{w W W':World} {s:ByteArray} {k k' h4:Nat} {cs:Array Value} (h:St w W s k h4 cs) (g:Only (w.heap.size+1) W W') (hr:Rd W' (w.heap.size+1) (s.extract k' s.size)):St w W' s k' h4 cs:=h.grown (only_grown g) hr
theorem St.below {w W W':World} {s:ByteArray} {k h4:Nat} {cs:Array Value} (h:St w W s k h4 cs) (hb:Below W.heap.size W W'):St w W' s k h4 cs:=
 ⟨keep_heap hb h.rd,keep_heap hb h.ob,keep_heap hb h.rb,bel h.bl hb,h.at4,Nat.le_trans h.sz hb.size⟩
theorem St.set {w W:World} {s:ByteArray} {k h4:Nat} {cs:Array Value} (h:St w W s k h4 cs) (i:Nat) (v:Value):St w (W.setCell ⟨h4,i,none⟩ v) s k h4 (cs.setIfInBounds i v):=by
 have h4:=h.at4
 refine⟨?_,setCell_heap h.ob, ?_,h.bl.setCell (p:=⟨_,i,none⟩) (by simp;omega) v,h4,by simp only[World.setCell,Array.size_modify];exact h.sz⟩
 ·unfold Rd;rw[set_block _ _ _ _ (by simp;omega)];exact h.rd
 ·rw[set_block _ _ _ _ (by simp;omega)];exact h.rb
/- the first worlds -/
theorem first_worlds (w:World) (s:ByteArray):Rd ((w.alloc (.cells Z6 75)).alloc (.cells #[.string s] 271)) (w.heap.size+1) (s.extract 0 s.size)∧((w.alloc (.cells Z6 75)).alloc (.cells #[.string s] 271)).heap[w.heap.size]? =some (.cells Z6 75 (0,0))∧
  Below w.heap.size w ((w.alloc (.cells Z6 75)).alloc (.cells #[.string s] 271))∧((w.alloc (.cells Z6 75)).alloc (.cells #[.string s] 271)).heap.size=w.heap.size+2:=by
 refine⟨?_, ?_,((Below.refl _ w).alloc (Nat.le_refl _) _).alloc (by simp) _,by simp⟩
 ·rw[ext_all]
  have:=heap_alloc_new (w.alloc (.cells Z6 75)) (.cells #[.string s] 271)
  rwa [show(w.alloc (.cells Z6 75)).heap.size=w.heap.size+1 by simp] at this
 ·have:=heap_alloc_old (w.alloc (.cells Z6 75)) (.cells #[.string s] 271) (show w.heap.size<_ by simp)
  exact this.trans (heap_alloc_new w _)
theorem St.first {w W0 W:World} {s:ByteArray} (h2:W0.heap[w.heap.size]? =some (.cells Z6 75 (0,0))) (h3:Below w.heap.size w W0) (h4:W0.heap.size=w.heap.size+2) (ho:Only (w.heap.size+1) W0 W) {k:Nat} (hr:Rd W (w.heap.size+1) (s.extract k s.size)) (cs:Array Value):
  St w (W.alloc (.cells cs 75)) s k W.heap.size cs:=by
 have hs:W.heap.size=w.heap.size+2:=ho.size.trans h4
 refine⟨?_,heap_alloc_new W _, ?_,(h3.trans (ho.below (by omega))).alloc (by omega) _,hs,by simp;omega⟩
 ·exact(heap_alloc_old W _ (by omega)).trans hr
 ·exact(heap_alloc_old W _ (by omega)).trans ((ho.block _ (by omega)).trans h2)
/- what readOp answers: an op, or the panic of bytes that are none -/
def Post (s:ByteArray) (w:World) (e:Ending) (w':World):Prop:=
 (decB s.toList=none∧e=.panicked SynP∧Below w.heap.size w w')∨∃o u,decB s.toList=some o∧e=.returned u∧Kept w.heap.size w' u o∧Below w.heap.size w w'
theorem Post.no {s:ByteArray} {w w':World} (h:decB s.toList=none) (hb:Below w.heap.size w w'):Post s w (.panicked SynP) w':=Or.inl ⟨h,rfl,hb⟩
theorem Post.yes {s:ByteArray} {w w':World} {o:Ox} {u:Value} (h:decB s.toList=some o) (hk:Kept w.heap.size w' u o) (hb:Below w.heap.size w w'):Post s w (.returned u) w':=Or.inr ⟨o,u,h,rfl,hk,hb⟩
/- a dot more behind a row, at a step of a region that draws -/
theorem step_putD {ops:Array Oper} {o:Oper} {a:Act} {W:World} {K:Act→World→Prop} {Q:Exit→Act→World→Prop} {E:Prop} (hgd:o.guard=none) (sO xO:Operand)
  (ho:o.op=.call { callee:=.builtin .append,args:=#[sO,xO],argTypes:=#[73,73] })
  (B:Nat) (v:Value) (l:List Dt) (x:Dt) (hs:a.eval sO=v) (h0:Nat) (hx:a.eval xO=.slice (some ⟨h0,0,none⟩) 1 1)
  (hlen:l.length+1≤1000000) (hown:W.ownsRow B 72 2 v l.length (flatD l)) (hB:B≤W.heap.size) (hc0:W.cell? ⟨h0,0,none⟩=some (.int .i64 x.1)) (hc1:W.cell? ⟨h0,1,none⟩=some (.int .i64 x.2))
  (h:∀v' w',w'.ownsRow B 72 2 v' (l++[x]).length (flatD (l++[x]))→Grew W w' v v'→K (a.put o.dst v') w'):
  if Region.wanted o (yielded ops a.tmps)=true then Oper.wp Tryz.prog o a W K Q else E:=by
 have hw:Region.wanted o (yielded ops a.tmps)=true:=by simp[Region.wanted,hgd]
 rw[if_pos hw]
 obtain⟨i0,hi,hz0,hz1,hz2⟩:=info_parts infoD
 obtain⟨v',w',hr,h2,h3,_,h5⟩:=run_append_own_at (P:=Tryz.prog) W B 73 o.type 72 i0 (.agg #[.int .i64 0,.int .i64 0]) 2 16 Tryz.underlying73 hi hz0 hz1 hz2 rfl (by decide) v l.length (flatD l) hown ⟨h0,0,none⟩ 1 1 (flatD [x]) rfl (by
  intro j u hu
  have e:flatD [x]=[.int .i64 x.1,.int .i64 x.2]:=rfl
  rw[e] at hu
  rw[addr_zero]
  rcases j with _ | _ | j
  ·rw[hc0];exact hu
  ·rw[hc1];exact hu
  ·simp at hu) (by
  intro u hu
  have e:flatD [x]=[.int .i64 x.1,.int .i64 x.2]:=rfl
  rw[e] at hu
  rcases List.mem_cons.1 hu with rfl | hu
  ·rfl
  ·rcases List.mem_cons.1 hu with rfl | hu
   ·rfl
   ·cases hu) (by unfold maxLen;omega) (by omega) hB
 unfold Oper.wp execOp
 simp only[ho,resolve,invoke,builtin,Sem.run_bind,Sem.run_pure,Result.andThen_ok,List.map_toArray,List.map_cons,List.map_nil,hs,hx,hr]
 refine h v' w' (own_appD rfl rfl h2) ⟨h3, ?_⟩
 rcases h5 with e | e
 ·exact Or.inl e
 ·refine Or.inr fun k hk=> ?_
  rw[e] at hk;injection hk with hk;omega
end Vi
end Go.Proofs.YtlmdchpbpgcfmaaGreatDoor
/- What readOp answers: the op that the bytes are, or the panic of bytes that are none. -/
namespace Go.Proofs.YtlmdchpbpgcfmaaGreatDoor
namespace Vj
open Go.ChangeShapes Go.WideShapes Go.ChangeAt Go.RowKit Cm Ka Kb Na Om Oa Oz Oc Og Oi Ov Va Vb Vc Vd Ve Vf Vg Vh Vi
open La (bel bel_drew errV_zero errV_ne own_ge own_grow own_below)
def six6 (w:World) (g:Nat) (x0 x1 x2 x3 x4 x5:Value):World:=(((((w.setCell ⟨g,0,none⟩ x0).setCell ⟨g,1,none⟩ x1).setCell ⟨g,2,none⟩ x2).setCell ⟨g,3,none⟩ x3).setCell ⟨g,4,none⟩ x4).setCell ⟨g,5,none⟩ x5
theorem six6_block (w:World) (g:Nat) (x0 x1 x2 x3 x4 x5:Value) (k:Nat) (h:k≠g):(six6 w g x0 x1 x2 x3 x4 x5).heap[k]? =w.heap[k]? :=by
 unfold six6
 rw[set_block _ _ _ _ h,set_block _ _ _ _ h,set_block _ _ _ _ h,set_block _ _ _ _ h,set_block _ _ _ _ h,set_block _ _ _ _ h]
theorem six6_size (w:World) (g:Nat) (x0 x1 x2 x3 x4 x5:Value):(six6 w g x0 x1 x2 x3 x4 x5).heap.size=w.heap.size:=by
 simp[six6,World.setCell]
theorem six6_below {w0 w:World} {g B:Nat} (hb:Below B w0 w) (hg:B≤g) (x0 x1 x2 x3 x4 x5:Value):Below B w0 (six6 w g x0 x1 x2 x3 x4 x5):=
 (((((hb.setCell (p:=⟨g,0,none⟩) hg x0).setCell (p:=⟨g,1,none⟩) hg x1).setCell (p:=⟨g,2,none⟩) hg x2).setCell (p:=⟨g,3,none⟩) hg x3).setCell (p:=⟨g,4,none⟩) hg x4).setCell (p:=⟨g,5,none⟩) hg x5
theorem grown_un {w w':World} {row:Option Nat} (h:w.drew.grownBy w' row):w.grownBy w' row:=⟨h.os,h.tape,h.output,h.size,h.block⟩
theorem own_grown {w w':World} {B:Nat} {t:TypeId} {z:Nat} {v:Value} {n:Nat} {xs:List Value} (h:w.ownsRow (B+2) t z v n xs) (hg:w.drew.grownBy w' (some B)):w'.ownsRow (B+2) t z v n xs:=
 own_same h (fun k hk hk2=>hg.block k hk2 (fun e=>by injection e with e;omega))
theorem St.grew {w W W':World} {s:ByteArray} {k h4:Nat} {cs:Array Value} {t:TypeId} {z:Nat} {v v':Value} {n:Nat} {xs:List Value} (h:St w W s k h4 cs) (ho:W.ownsRow (w.heap.size+3) t z v n xs) (hg:Grew W W' v v'):St w W' s k h4 cs:=by
 have key:∀j,j<w.heap.size+3→W'.heap[j]? =W.heap[j]? :=fun j hj=>hg.1.block j (Nat.lt_of_lt_of_le hj h.sz) (fun e=>by have:=(World.ownsRow.lt ho j e.symm).1;omega)
 have h4:=h.at4
 exact⟨(key _ (by omega)).trans h.rd,(key _ (by omega)).trans h.ob,(key _ (by omega)).trans h.rb,h.bl.trans ⟨hg.1.os,hg.1.tape,hg.1.output,hg.1.size,fun j hj=>key j (by omega)⟩,h4,Nat.le_trans h.sz hg.1.size⟩
/- the call of a function, at a step of a region that draws -/
theorem step_call {ops:Array Oper} {o:Oper} {a:Act} {W:World} {K:Act→World→Prop} {Q:Exit→Act→World→Prop} {E:Prop} {R:Value→World→Prop} (hgd:o.guard=none) (F:FuncId) (x:Operand) (T:TypeId)
  (ho:o.op=.call { callee:=.value (.func F),args:=#[x],argTypes:=#[T] }) (v0:Value) (hx:a.eval x=v0) (hcf:∀args W,(callFunc F args).run Tryz.prog W=.ok (.enter F args) W) (hC:Calls Tryz.prog F #[v0] W fun e w'=>∃v,e=.returned v∧R v w')
  (h:∀v w',R v w'→K (a.put o.dst v) w'):
  if Region.wanted o (yielded ops a.tmps)=true then Oper.wp Tryz.prog o a W K Q else E:=by
 have hw:Region.wanted o (yielded ops a.tmps)=true:=by simp[Region.wanted,hgd]
 rw[if_pos hw]
 have hr:(execOp a.eval o).run Tryz.prog W=.ok (.enter F #[v0]) W:=by
  have he:a.eval (.func F)=.func (.func F) #[] #[]:=rfl
  unfold execOp
  simp only[ho,resolve,invoke,List.map_toArray,List.map_cons,List.map_nil,hx,he]
  exact hcf _ _
 unfold Oper.wp
 rw[hr,Oper.upon_enter]
 refine hC.mono ?_
 rintro e w' ⟨v,rfl,hR⟩
 exact h v w' hR
theorem enter_dot (args:Array Value) (W:World):(callFunc 209 args).run Tryz.prog W=.ok (.enter 209 args) W:=by
 first | kernel_rfl | simp[callFunc,go_sem,Tryz.func209]
theorem len_s (s:ByteArray):s.toList.length=s.size:=Om.len_eq s
theorem readOp_any (s : ByteArray) (w : World) (hs : s.size ≤ maxLen) :
  Calls Tryz.prog 192 #[.string s] w (Post s w) := by
 have hm := hs
 unfold maxLen at hm
 obtain ⟨F1, F2, F3, F4⟩ := first_worlds w s
 unfold Z6 at F1 F2 F3 F4
 obtain ⟨W0, hW0⟩ : ∃ W0, W0 = (w.alloc (.cells #[.int .i64 0, .int .i64 0, .int .i64 0, .string ⟨#[]⟩, .int .i64 0, .slice none 0 0] 75)).alloc (.cells #[.string s] 271) := ⟨_, rfl⟩
 rw [← hW0] at F1 F2 F3 F4
 have HW0 := z9 hW0
 have HF2 := z9 F2
 have HF3 := z9 F3
 have HF4 := z9 F4
 have HF1 := z9 F1
 clear F1 F2 F3 F4 hW0
 go_enter Tryz.func192, Tryz.ntmps192
 go_wp2_with fail
 rw [← HW0.out]
 clear HW0
 by_cases h1 : s.size < 0 + 1
 ·refine (one_no _ s 0 W0 HF1.out (by omega) h1 hs).mono ?_
  rintro e w2 ⟨rfl, hw⟩
  have hw2 := hw.symm; subst hw2; clear hw
  have HN : Hid (decB s.toList = none) := dec_lt (Or.inl (by rw [len_s]; omega))
  go_wp2_with fail
  exact ⟨rfl, Post.no HN.out HF3.out⟩
 have h1p : 0 + 1 ≤ s.size := by omega
 obtain ⟨t, ht⟩ : ∃ t : Int, t = ((s.toList.getD 0 0).toNat : Int) := ⟨_, rfl⟩
 have C1 := one_ok _ s 0 W0 HF1.out h1p hs
 rw [← ht] at C1
 have ht0 : 0 ≤ t := by omega
 have ht1 : t < 256 := by rw [ht]; have := UInt8.toNat_lt (s.toList.getD 0 0); omega
 have HT := z9 ht
 clear ht h1 HF1
 refine C1.mono ?_
 rintro e w2 ⟨rfl, hr2, ho2⟩
 have HST : Hid (St w (w2.alloc (.cells #[.int .i64 0, .int .i64 0, .int .i64 t, .string ⟨#[]⟩, .int .i64 0, .slice none 0 0] 75)) s 1 w2.heap.size #[.int .i64 0, .int .i64 0, .int .i64 t, .string ⟨#[]⟩, .int .i64 0, .slice none 0 0]) := St.first HF2.out HF3.out HF4.out ho2 hr2 _
 clear hr2 ho2 C1 HF2 HF3 HF4
 go_wp2_with fail
 obtain ⟨h4, hh4⟩ : ∃ h4, h4 = w2.heap.size := ⟨_, rfl⟩
 obtain ⟨w3, hw3⟩ : ∃ w3, w3 = w2.alloc (.cells #[.int .i64 0, .int .i64 0, .int .i64 t, .string ⟨#[]⟩, .int .i64 0, .slice none 0 0] 75) := ⟨_, rfl⟩
 rw [← hh4, ← hw3] at HST
 rw [← hh4, ← hw3]
 clear hh4 hw3
 by_cases h2 : s.size < 1 + 3
 ·refine (dot_no _ s 1 w3 HST.out.rd (by omega) h2 hs).mono ?_
  rintro e wx ⟨rfl, hg⟩
  have HB := z9 (HST.out.bl.trans (grown_below hg (by omega) (by have := HST.out.sz; omega)))
  have HN : Hid (decB s.toList = none) := dec_lt (Or.inl (by rw [len_s]; omega))
  clear hg
  go_wp2_with fail
  exact ⟨rfl, Post.no HN.out HB.out⟩
 have h2p : 1 + 3 ≤ s.size := by omega
 obtain ⟨a, ha⟩ : ∃ a : Int, a = ((s.toList.getD 1 0).toNat : Int) := ⟨_, rfl⟩
 obtain ⟨b, hb⟩ : ∃ b : Int, b = ((numAt s.toList 2 : Nat) : Int) := ⟨_, rfl⟩
 have C2 := dot_ok _ s 1 w3 HST.out.rd h2p hs
 rw [← ha, ← hb] at C2
 have HAB : Hid (a = ((s.toList.getD 1 0).toNat : Int) ∧ b = ((numAt s.toList 2 : Nat) : Int)) := ⟨ha, hb⟩
 clear ha hb h2
 refine C2.mono ?_
 rintro e w4 ⟨rfl, hr4, hg4⟩
 have HS4 := z9 (HST.out.grown hg4 hr4)
 clear hr4 hg4 C2 HST
 have o0 : w4.cell? ⟨h4, 0, none⟩ = some (.int .i64 0) := cell_of HS4.out.ob rfl
 have o1 : w4.cell? ⟨h4, 1, none⟩ = some (.int .i64 0) := cell_of HS4.out.ob rfl
 have o2 : w4.cell? ⟨h4, 2, none⟩ = some (.int .i64 t) := cell_of HS4.out.ob rfl
 have o3 : w4.cell? ⟨h4, 3, none⟩ = some (.string ⟨#[]⟩) := cell_of HS4.out.ob rfl
 have o4 : w4.cell? ⟨h4, 4, none⟩ = some (.int .i64 0) := cell_of HS4.out.ob rfl
 have o5 : w4.cell? ⟨h4, 5, none⟩ = some (.slice none 0 0) := cell_of HS4.out.ob rfl
 have fo0 : w4.frozen? ⟨h4, 0, none⟩ = false := free_of HS4.out.ob
 have fo1 : w4.frozen? ⟨h4, 1, none⟩ = false := free_of HS4.out.ob
 have fo2 : w4.frozen? ⟨h4, 2, none⟩ = false := free_of HS4.out.ob
 have fo3 : w4.frozen? ⟨h4, 3, none⟩ = false := free_of HS4.out.ob
 have fo4 : w4.frozen? ⟨h4, 4, none⟩ = false := free_of HS4.out.ob
 have fo5 : w4.frozen? ⟨h4, 5, none⟩ = false := free_of HS4.out.ob
 go_wp2_with fail
 have HS5 : Hid (St w ((w4.setCell ⟨h4, 0, none⟩ (.int .i64 a)).setCell ⟨h4, 1, none⟩ (.int .i64 b)) s 4 h4 #[.int .i64 a, .int .i64 b, .int .i64 t, .string ⟨#[]⟩, .int .i64 0, .slice none 0 0]) := (HS4.out.set 0 _).set 1 _
 obtain ⟨w5, hw5⟩ : ∃ w5, w5 = ((w4.setCell ⟨h4, 0, none⟩ (.int .i64 a)).setCell ⟨h4, 1, none⟩ (.int .i64 b)) := ⟨_, rfl⟩
 rw [← hw5] at HS5
 rw [← hw5]
 clear hw5 HS4
 clear o0 o1 o2 o3 o4 o5 fo0 fo1 fo2 fo3 fo4 fo5
 by_cases h3 : s.size < 4 + 1
 ·refine (one_no _ s 4 w5 HS5.out.rd (by omega) h3 hs).mono ?_
  rintro e w6 ⟨rfl, hw⟩
  have hw2 := hw.symm; subst hw2; clear hw
  have HN : Hid (decB s.toList = none) := dec_lt (Or.inl (by rw [len_s]; omega))
  go_wp2_with fail
  exact ⟨rfl, Post.no HN.out HS5.out.bl⟩
 have h3p : 4 + 1 ≤ s.size := by omega
 obtain ⟨L, hL⟩ : ∃ L : Nat, L = (s.toList.getD 4 0).toNat := ⟨_, rfl⟩
 have hL256 : L < 256 := by rw [hL]; exact UInt8.toNat_lt _
 have C3 := one_ok _ s 4 w5 HS5.out.rd h3p hs
 rw [← hL] at C3
 have HL := z9 hL
 clear hL h3
 refine C3.mono ?_
 rintro e w6 ⟨rfl, hr6, ho6⟩
 have HS6 := z9 (HS5.out.only ho6 hr6)
 clear hr6 ho6 C3 HS5
 go_wp2_with fail
 by_cases hE : s.size < 5 + L
 ·refine (take_no _ s 5 L w6 HS6.out.rd (by omega) hE hs).mono ?_
  rintro e w7 ⟨rfl, hw⟩
  have hw2 := hw.symm; subst hw2; clear hw
  have HN : Hid (decB s.toList = none) := dec_lt (Or.inr (by rw [len_s, ← HL.out]; exact hE))
  go_wp2_with fail
  exact ⟨rfl, Post.no HN.out HS6.out.bl⟩
 have hEp : 5 + L ≤ s.size := by omega
 obtain ⟨E, hEe⟩ : ∃ E, E = 5 + L := ⟨_, rfl⟩
 obtain ⟨P, hP⟩ : ∃ P, P = s.extract 5 (5 + L) := ⟨_, rfl⟩
 have hPs : P.size ≤ 255 := by rw [hP, size_extract s 5 (5 + L) hEp]; omega
 have hPm : P.size ≤ maxLen := by unfold maxLen; omega
 have C4 := take_ok _ s 5 L w6 HS6.out.rd hEp hs
 rw [← hP, ← hEe] at C4
 have HRD := readB_at s E (by rw [hEe, HL.out]) (by omega)
 rw [← HT.out, ← HAB.out.1, ← HAB.out.2, show s.extract 5 E = P by rw [hP, hEe]] at HRD
 have HR0 := z9 HRD
 have HEL : Hid (E = 5 + (s.toList.getD 4 0).toNat) := by unfold Hid; rw [hEe, HL.out]
 have hEs : E ≤ s.size := by omega
 clear hP HRD hEp hE
 refine C4.mono ?_
 rintro e w7 ⟨rfl, hr7, ho7⟩
 have HS7 := z9 (HS6.out.only ho7 hr7)
 clear hr7 ho7 C4 HS6 hEe
 go_wp2_with fail
 refine (clone_any P w7 hPs).mono ?_
 rintro e w8 ⟨rfl, hb8⟩
 have HS8 := z9 (HS7.out.below hb8)
 clear hb8 HS7
 have o0 : w8.cell? ⟨h4, 0, none⟩ = some (.int .i64 a) := cell_of HS8.out.ob rfl
 have o1 : w8.cell? ⟨h4, 1, none⟩ = some (.int .i64 b) := cell_of HS8.out.ob rfl
 have o2 : w8.cell? ⟨h4, 2, none⟩ = some (.int .i64 t) := cell_of HS8.out.ob rfl
 have o3 : w8.cell? ⟨h4, 3, none⟩ = some (.string ⟨#[]⟩) := cell_of HS8.out.ob rfl
 have o4 : w8.cell? ⟨h4, 4, none⟩ = some (.int .i64 0) := cell_of HS8.out.ob rfl
 have o5 : w8.cell? ⟨h4, 5, none⟩ = some (.slice none 0 0) := cell_of HS8.out.ob rfl
 have fo0 : w8.frozen? ⟨h4, 0, none⟩ = false := free_of HS8.out.ob
 have fo1 : w8.frozen? ⟨h4, 1, none⟩ = false := free_of HS8.out.ob
 have fo2 : w8.frozen? ⟨h4, 2, none⟩ = false := free_of HS8.out.ob
 have fo3 : w8.frozen? ⟨h4, 3, none⟩ = false := free_of HS8.out.ob
 have fo4 : w8.frozen? ⟨h4, 4, none⟩ = false := free_of HS8.out.ob
 have fo5 : w8.frozen? ⟨h4, 5, none⟩ = false := free_of HS8.out.ob
 by_cases t1 : t = 1
 case pos =>
  subst t1
  go_wp2_with fail
  have HS9 : Hid (St w (w8.setCell ⟨h4, 3, none⟩ (.string P)) s E h4 #[.int .i64 a, .int .i64 b, .int .i64 1, .string P, .int .i64 0, .slice none 0 0]) := HS8.out.set 3 _
  obtain ⟨w9, hw9⟩ : ∃ w9, w9 = w8.setCell ⟨h4, 3, none⟩ (.string P) := ⟨_, rfl⟩
  rw [← hw9] at HS9
  rw [← hw9]
  clear hw9 HS8
  clear o0 o1 o2 o3 o4 o5 fo0 fo1 fo2 fo3 fo4 fo5
  by_cases h5 : s.size < E + 1
  ·refine (one_no _ s E w9 HS9.out.rd hEs h5 hs).mono ?_
   rintro e wx ⟨rfl, hw⟩
   have hw2 := hw.symm; subst hw2; clear hw
   have HN : Hid (decB s.toList = none) := dec_short1 HT.out.symm (by rw [len_s, ← HEL.out]; exact h5)
   go_wp2_with fail
   exact ⟨rfl, Post.no HN.out HS9.out.bl⟩
  obtain ⟨c, hc⟩ : ∃ c : Int, c = ((s.toList.getD E 0).toNat : Int) := ⟨_, rfl⟩
  have C5 := one_ok _ s E w9 HS9.out.rd (by omega) hs
  rw [← hc] at C5
  have HX : Hid (readB s.toList = ((a, b), 1, P, c, [])) := by unfold Hid; rw [HR0.out, letter1, hc]; rfl
  clear hc h5 HR0
  refine C5.mono ?_
  rintro e wp ⟨rfl, hrp, hop'⟩
  have HSP := z9 (HS9.out.only hop' hrp)
  clear hrp hop' C5 HS9
  have o0 : wp.cell? ⟨h4, 0, none⟩ = some (.int .i64 a) := cell_of HSP.out.ob rfl
  have o1 : wp.cell? ⟨h4, 1, none⟩ = some (.int .i64 b) := cell_of HSP.out.ob rfl
  have o2 : wp.cell? ⟨h4, 2, none⟩ = some (.int .i64 1) := cell_of HSP.out.ob rfl
  have o3 : wp.cell? ⟨h4, 3, none⟩ = some (.string P) := cell_of HSP.out.ob rfl
  have o4 : wp.cell? ⟨h4, 4, none⟩ = some (.int .i64 0) := cell_of HSP.out.ob rfl
  have o5 : wp.cell? ⟨h4, 5, none⟩ = some (.slice none 0 0) := cell_of HSP.out.ob rfl
  have fo0 : wp.frozen? ⟨h4, 0, none⟩ = false := free_of HSP.out.ob
  have fo1 : wp.frozen? ⟨h4, 1, none⟩ = false := free_of HSP.out.ob
  have fo2 : wp.frozen? ⟨h4, 2, none⟩ = false := free_of HSP.out.ob
  have fo3 : wp.frozen? ⟨h4, 3, none⟩ = false := free_of HSP.out.ob
  have fo4 : wp.frozen? ⟨h4, 4, none⟩ = false := free_of HSP.out.ob
  have fo5 : wp.frozen? ⟨h4, 5, none⟩ = false := free_of HSP.out.ob
  go_wp2_with fail
  have HSX0 : Hid (St w (wp.setCell ⟨h4, 4, none⟩ (.int .i64 c)) s (E + 1) h4 #[.int .i64 a, .int .i64 b, .int .i64 1, .string P, .int .i64 c, .slice none 0 0]) := HSP.out.set 4 _
  obtain ⟨wq, hwq⟩ : ∃ wq, wq = wp.setCell ⟨h4, 4, none⟩ (.int .i64 c) := ⟨_, rfl⟩
  rw [← hwq] at HSX0
  rw [← hwq]
  have HSX := HSX0
  have HV : Hid (∀ W, (∀ k, w.heap.size + 3 ≤ k → k < wq.heap.size → W.heap[k]? = wq.heap[k]?) → DtsAt W (.slice none 0 0) []) := fun W _ => DtsAt.nil W
  clear hwq HSX0 HSP
  clear o0 o1 o2 o3 o4 o5 fo0 fo1 fo2 fo3 fo4 fo5
  have CE := encode_says a b 1 P c (.slice none 0 0) [] wq (HV.out wq (fun _ _ _ => rfl)) hPm
  by_cases hop : opE ((a, b), 1, P, c, []) = 0
  case neg =>
   obtain ⟨q, hq⟩ : ∃ q, q = opE ((a, b), 1, P, c, []) := ⟨_, rfl⟩
   have hTe : encS ((a, b), 1, P, c, []) = ⟨#[]⟩ := by unfold encS; rw [if_neg hop]
   rw [hTe, errV_ne hop, ← hq] at CE
   have HN : Hid (decB s.toList = none) := dec_none_of HX.out (fun e => hop e.1)
   clear hTe hq hop
   refine CE.mono ?_
   rintro e wy ⟨rfl, hby⟩
   have HBY : Hid (Below w.heap.size w wy) := bel HSX.out.bl hby
   clear hby CE
   go_wp2_with fail
   exact ⟨rfl, Post.no HN.out HBY.out⟩
  obtain ⟨T8, hT8⟩ : ∃ T8, T8 = bytesS ((a, b), 1, P, c, []) := ⟨_, rfl⟩
  have hTe : encS ((a, b), 1, P, c, []) = T8 := by unfold encS; rw [if_pos hop, hT8]
  rw [hTe, hop, errV_zero] at CE
  have HT8 : Hid (T8.toList = bytesB ((a, b), 1, P, c, [])) := by unfold Hid; rw [hT8, bytesS_list]
  have HOP := z9 hop
  clear hTe hT8 hop
  refine CE.mono ?_
  rintro e wy ⟨rfl, hby⟩
  have HSY : Hid (St w wy s (E + 1) h4 #[.int .i64 a, .int .i64 b, .int .i64 1, .string P, .int .i64 c, .slice none 0 0]) := HSX.out.below hby
  have HKY : Hid (∀ k, w.heap.size + 3 ≤ k → k < wq.heap.size → wy.heap[k]? = wq.heap[k]?) := fun k _ hk => hby.block k hk
  have HZY := z9 hby.size
  clear hby CE
  have x0 : wy.cell? ⟨h4, 0, none⟩ = some (.int .i64 a) := cell_of HSY.out.ob rfl
  have x1 : wy.cell? ⟨h4, 1, none⟩ = some (.int .i64 b) := cell_of HSY.out.ob rfl
  have x2 : wy.cell? ⟨h4, 2, none⟩ = some (.int .i64 1) := cell_of HSY.out.ob rfl
  have x3 : wy.cell? ⟨h4, 3, none⟩ = some (.string P) := cell_of HSY.out.ob rfl
  have x4 : wy.cell? ⟨h4, 4, none⟩ = some (.int .i64 c) := cell_of HSY.out.ob rfl
  have x5 : wy.cell? ⟨h4, 5, none⟩ = some (.slice none 0 0) := cell_of HSY.out.ob rfl
  have r0 : wy.cell? ⟨w.heap.size, 0, none⟩ = some (.int .i64 0) := cell_of HSY.out.rb rfl
  have r1 : wy.cell? ⟨w.heap.size, 1, none⟩ = some (.int .i64 0) := cell_of HSY.out.rb rfl
  have r2 : wy.cell? ⟨w.heap.size, 2, none⟩ = some (.int .i64 0) := cell_of HSY.out.rb rfl
  have r3 : wy.cell? ⟨w.heap.size, 3, none⟩ = some (.string ⟨#[]⟩) := cell_of HSY.out.rb rfl
  have r4 : wy.cell? ⟨w.heap.size, 4, none⟩ = some (.int .i64 0) := cell_of HSY.out.rb rfl
  have r5 : wy.cell? ⟨w.heap.size, 5, none⟩ = some (.slice none 0 0) := cell_of HSY.out.rb rfl
  have fr0 : wy.frozen? ⟨w.heap.size, 0, none⟩ = false := free_of HSY.out.rb
  have fr1 : wy.frozen? ⟨w.heap.size, 1, none⟩ = false := free_of HSY.out.rb
  have fr2 : wy.frozen? ⟨w.heap.size, 2, none⟩ = false := free_of HSY.out.rb
  have fr3 : wy.frozen? ⟨w.heap.size, 3, none⟩ = false := free_of HSY.out.rb
  have fr4 : wy.frozen? ⟨w.heap.size, 4, none⟩ = false := free_of HSY.out.rb
  have fr5 : wy.frozen? ⟨w.heap.size, 5, none⟩ = false := free_of HSY.out.rb
  by_cases hes : T8.toList = s.toList
  ·have HE : Hid (decB s.toList = some ((a, b), 1, P, c, [])) := decB_iff.2 ⟨HOP.out, by rw [← HT8.out]; exact hes⟩
   have hesb : (T8.toList == s.toList) = true := by simpa using hes
   have HV9 : Hid (∀ x0 x1 x2 x3 x4 x5 W, (∀ k, w.heap.size ≤ k → k < (six6 wy w.heap.size x0 x1 x2 x3 x4 x5).heap.size → W.heap[k]? = (six6 wy w.heap.size x0 x1 x2 x3 x4 x5).heap[k]?) → DtsAt W (.slice none 0 0) ([])) := fun x0 x1 x2 x3 x4 x5 W hW => HV.out _ (fun k hk1 hk2 => (hW k (by omega) (by rw [six6_size]; exact Nat.lt_of_lt_of_le hk2 HZY.out)).trans ((six6_block _ _ _ _ _ _ _ _ _ (by omega)).trans (HKY.out k hk1 hk2)))
   clear hes
   go_wp2_with fail
   refine bodyPost_ret (v := opV ((a, b), 1, P, c, []) (.slice none 0 0)) ?_ rfl (Post.yes HE.out (fun W hW => ⟨_, rfl, HV9.out _ _ _ _ _ _ W hW⟩) ?_)
   ·simp [results, Tryz.results192, opV, go_sem, asAddr, Result.andThen, r0, r1, r2, r3, r4, r5]
   ·exact six6_below HSY.out.bl (Nat.le_refl _) _ _ _ _ _ _
  ·have HN : Hid (decB s.toList = none) := dec_none_of HX.out (fun e => hes (HT8.out.trans e.2))
   have hesb : (T8.toList == s.toList) = false := by simpa using hes
   clear hes
   go_wp2_with fail
   exact ⟨rfl, Post.no HN.out HSY.out.bl⟩
 by_cases t4 : t = 4
 case neg =>
  have t1b : (t == 1) = false := by simpa using t1
  have t4b : (t == 4) = false := by simpa using t4
  have HX : Hid (readB s.toList = ((a, b), t, P, 0, [])) := by unfold Hid; rw [HR0.out]; unfold letterIn seenIn; rw [if_neg t1, if_neg t4]
  clear t1 t4 HR0
  go_wp2_with fail
  have HS9 : Hid (St w (w8.setCell ⟨h4, 3, none⟩ (.string P)) s E h4 #[.int .i64 a, .int .i64 b, .int .i64 t, .string P, .int .i64 0, .slice none 0 0]) := HS8.out.set 3 _
  obtain ⟨w9, hw9⟩ : ∃ w9, w9 = w8.setCell ⟨h4, 3, none⟩ (.string P) := ⟨_, rfl⟩
  rw [← hw9] at HS9
  rw [← hw9]
  have HSX := HS9
  have HV : Hid (∀ W, (∀ k, w.heap.size + 3 ≤ k → k < w9.heap.size → W.heap[k]? = w9.heap[k]?) → DtsAt W (.slice none 0 0) []) := fun W _ => DtsAt.nil W
  clear hw9 HS8 HS9
  clear o0 o1 o2 o3 o4 o5 fo0 fo1 fo2 fo3 fo4 fo5
  have CE := encode_says a b t P 0 (.slice none 0 0) [] w9 (HV.out w9 (fun _ _ _ => rfl)) hPm
  by_cases hop : opE ((a, b), t, P, 0, []) = 0
  case neg =>
   obtain ⟨q, hq⟩ : ∃ q, q = opE ((a, b), t, P, 0, []) := ⟨_, rfl⟩
   have hTe : encS ((a, b), t, P, 0, []) = ⟨#[]⟩ := by unfold encS; rw [if_neg hop]
   rw [hTe, errV_ne hop, ← hq] at CE
   have HN : Hid (decB s.toList = none) := dec_none_of HX.out (fun e => hop e.1)
   clear hTe hq hop
   refine CE.mono ?_
   rintro e wy ⟨rfl, hby⟩
   have HBY : Hid (Below w.heap.size w wy) := bel HSX.out.bl hby
   clear hby CE
   go_wp2_with fail
   exact ⟨rfl, Post.no HN.out HBY.out⟩
  obtain ⟨T8, hT8⟩ : ∃ T8, T8 = bytesS ((a, b), t, P, 0, []) := ⟨_, rfl⟩
  have hTe : encS ((a, b), t, P, 0, []) = T8 := by unfold encS; rw [if_pos hop, hT8]
  rw [hTe, hop, errV_zero] at CE
  have HT8 : Hid (T8.toList = bytesB ((a, b), t, P, 0, [])) := by unfold Hid; rw [hT8, bytesS_list]
  have HOP := z9 hop
  clear hTe hT8 hop
  refine CE.mono ?_
  rintro e wy ⟨rfl, hby⟩
  have HSY : Hid (St w wy s E h4 #[.int .i64 a, .int .i64 b, .int .i64 t, .string P, .int .i64 0, .slice none 0 0]) := HSX.out.below hby
  have HKY : Hid (∀ k, w.heap.size + 3 ≤ k → k < w9.heap.size → wy.heap[k]? = w9.heap[k]?) := fun k _ hk => hby.block k hk
  have HZY := z9 hby.size
  clear hby CE
  have x0 : wy.cell? ⟨h4, 0, none⟩ = some (.int .i64 a) := cell_of HSY.out.ob rfl
  have x1 : wy.cell? ⟨h4, 1, none⟩ = some (.int .i64 b) := cell_of HSY.out.ob rfl
  have x2 : wy.cell? ⟨h4, 2, none⟩ = some (.int .i64 t) := cell_of HSY.out.ob rfl
  have x3 : wy.cell? ⟨h4, 3, none⟩ = some (.string P) := cell_of HSY.out.ob rfl
  have x4 : wy.cell? ⟨h4, 4, none⟩ = some (.int .i64 0) := cell_of HSY.out.ob rfl
  have x5 : wy.cell? ⟨h4, 5, none⟩ = some (.slice none 0 0) := cell_of HSY.out.ob rfl
  have r0 : wy.cell? ⟨w.heap.size, 0, none⟩ = some (.int .i64 0) := cell_of HSY.out.rb rfl
  have r1 : wy.cell? ⟨w.heap.size, 1, none⟩ = some (.int .i64 0) := cell_of HSY.out.rb rfl
  have r2 : wy.cell? ⟨w.heap.size, 2, none⟩ = some (.int .i64 0) := cell_of HSY.out.rb rfl
  have r3 : wy.cell? ⟨w.heap.size, 3, none⟩ = some (.string ⟨#[]⟩) := cell_of HSY.out.rb rfl
  have r4 : wy.cell? ⟨w.heap.size, 4, none⟩ = some (.int .i64 0) := cell_of HSY.out.rb rfl
  have r5 : wy.cell? ⟨w.heap.size, 5, none⟩ = some (.slice none 0 0) := cell_of HSY.out.rb rfl
  have fr0 : wy.frozen? ⟨w.heap.size, 0, none⟩ = false := free_of HSY.out.rb
  have fr1 : wy.frozen? ⟨w.heap.size, 1, none⟩ = false := free_of HSY.out.rb
  have fr2 : wy.frozen? ⟨w.heap.size, 2, none⟩ = false := free_of HSY.out.rb
  have fr3 : wy.frozen? ⟨w.heap.size, 3, none⟩ = false := free_of HSY.out.rb
  have fr4 : wy.frozen? ⟨w.heap.size, 4, none⟩ = false := free_of HSY.out.rb
  have fr5 : wy.frozen? ⟨w.heap.size, 5, none⟩ = false := free_of HSY.out.rb
  by_cases hes : T8.toList = s.toList
  ·have HE : Hid (decB s.toList = some ((a, b), t, P, 0, [])) := decB_iff.2 ⟨HOP.out, by rw [← HT8.out]; exact hes⟩
   have hesb : (T8.toList == s.toList) = true := by simpa using hes
   have HV9 : Hid (∀ x0 x1 x2 x3 x4 x5 W, (∀ k, w.heap.size ≤ k → k < (six6 wy w.heap.size x0 x1 x2 x3 x4 x5).heap.size → W.heap[k]? = (six6 wy w.heap.size x0 x1 x2 x3 x4 x5).heap[k]?) → DtsAt W (.slice none 0 0) ([])) := fun x0 x1 x2 x3 x4 x5 W hW => HV.out _ (fun k hk1 hk2 => (hW k (by omega) (by rw [six6_size]; exact Nat.lt_of_lt_of_le hk2 HZY.out)).trans ((six6_block _ _ _ _ _ _ _ _ _ (by omega)).trans (HKY.out k hk1 hk2)))
   clear hes
   go_wp2_with fail
   refine bodyPost_ret (v := opV ((a, b), t, P, 0, []) (.slice none 0 0)) ?_ rfl (Post.yes HE.out (fun W hW => ⟨_, rfl, HV9.out _ _ _ _ _ _ W hW⟩) ?_)
   ·simp [results, Tryz.results192, opV, go_sem, asAddr, Result.andThen, r0, r1, r2, r3, r4, r5]
   ·exact six6_below HSY.out.bl (Nat.le_refl _) _ _ _ _ _ _
  ·have HN : Hid (decB s.toList = none) := dec_none_of HX.out (fun e => hes (HT8.out.trans e.2))
   have hesb : (T8.toList == s.toList) = false := by simpa using hes
   clear hes
   go_wp2_with fail
   exact ⟨rfl, Post.no HN.out HSY.out.bl⟩
 subst t4
 go_wp2_with fail
 have HS9 : Hid (St w (w8.setCell ⟨h4, 3, none⟩ (.string P)) s E h4 #[.int .i64 a, .int .i64 b, .int .i64 4, .string P, .int .i64 0, .slice none 0 0]) := HS8.out.set 3 _
 obtain ⟨w9, hw9⟩ : ∃ w9, w9 = w8.setCell ⟨h4, 3, none⟩ (.string P) := ⟨_, rfl⟩
 rw [← hw9] at HS9
 rw [← hw9]
 clear hw9 HS8 t1
 clear o0 o1 o2 o3 o4 o5 fo0 fo1 fo2 fo3 fo4 fo5
 by_cases h5 : s.size < E + 1
 ·refine (one_no _ s E w9 HS9.out.rd hEs h5 hs).mono ?_
  rintro e wx ⟨rfl, hw⟩
  have hw2 := hw.symm; subst hw2; clear hw
  have HN : Hid (decB s.toList = none) := dec_short4 HT.out.symm (by rw [len_s, ← HEL.out]; exact h5)
  go_wp2_with fail
  exact ⟨rfl, Post.no HN.out HS9.out.bl⟩
 have h5p : E + 1 ≤ s.size := by omega
 obtain ⟨n, hn⟩ : ∃ n : Nat, n = (s.toList.getD E 0).toNat := ⟨_, rfl⟩
 have hn256 : n < 256 := by rw [hn]; exact UInt8.toNat_lt _
 have C5 := one_ok _ s E w9 HS9.out.rd h5p hs
 rw [← hn] at C5
 have HX4 : Hid (readB s.toList = ((a, b), 4, P, 0, threes n (s.toList.drop (E + 1)))) := by unfold Hid; rw [HR0.out, seen4, ← hn]; rfl
 have HNN := z9 hn
 have HS0 : Hid (∀ k, k < n → s.size < E + 1 + 3 * k + 3 → decB s.toList = none) := fun k hk h => dec_short4n HEL.out HT.out.symm (by rw [len_s, ← HNN.out]; omega)
 clear hn h5 HR0
 refine C5.mono ?_
 rintro e wp ⟨rfl, hrp, hop'⟩
 have HSP := z9 (HS9.out.only hop' hrp)
 have HRW : Hid (wp.ownsRow (w.heap.size + 3) 72 2 (.slice none 0 0) (threes 0 (s.toList.drop (E + 1))).length (flatD (threes 0 (s.toList.drop (E + 1))))) := by
  unfold Hid; rw [threes_zero]; exact World.ownsRow_nil _ _ _ _
 clear hrp hop' C5 HS9
 go_wp2_with fail
 go_loopw [26] (fun i wr => ∃ (k : Nat) (vs : Value), k ≤ n ∧ i = .int .i64 k ∧ (∃ pv Nv cv, vs = .slice pv Nv cv) ∧ Hid (St w wr s (E + 1 + 3 * k) h4 #[.int .i64 a, .int .i64 b, .int .i64 4, .string P, .int .i64 0, vs]) ∧ Hid (wr.ownsRow (w.heap.size + 3) 72 2 vs (threes k (s.toList.drop (E + 1))).length (flatD (threes k (s.toList.drop (E + 1))))) ∧ Hid (E + 1 + 3 * k ≤ s.size)) (fun i _ => n - (intOf i).toNat)
 case atStart => exact ⟨0, _, by omega, rfl, ⟨_, _, _, rfl⟩, HSP, HRW, h5p⟩
 case round =>
  clear HSP HRW
  obtain ⟨k, vs, hk, rfl, ⟨pv, Nv, cv, rfl⟩, HSP, HRW, HKS⟩ := hrel
  by_cases hlt : k < n
  ·have hltz : (k : Int) < n := by omega
   have q5 : wr.cell? ⟨h4, 5, none⟩ = some (.slice pv Nv cv) := cell_of HSP.out.ob rfl
   have fq5 : wr.frozen? ⟨h4, 5, none⟩ = false := free_of HSP.out.ob
   by_cases hk3 : s.size < E + 1 + 3 * k + 3
   ·have HN : Hid (decB s.toList = none) := HS0.out k hlt hk3
    go_wp2_with fail
    go_region_dies
    all_goals
     go_wp2_with fail
     refine (dot_no _ s (E + 1 + 3 * k) _ ?_ HKS.out hk3 hs).mono ?_
     exact HSP.out.rd
     rintro e w7 ⟨rfl, hg7⟩
     have HB7 := z9 (HSP.out.bl.trans (grown_below (grown_un hg7) (by omega) (by have := HSP.out.sz; omega)))
     clear hg7
     go_wp2_with fail
     exact ⟨rfl, Post.no HN.out HB7.out⟩
   ·have hk3p : E + 1 + 3 * k + 3 ≤ s.size := by omega
    have HKS2 : Hid (E + 1 + 3 * (k + 1) ≤ s.size) := by unfold Hid; omega
    obtain ⟨x, hx⟩ : ∃ x : Int, x = ((s.toList.getD (E + 1 + 3 * k) 0).toNat : Int) := ⟨_, rfl⟩
    obtain ⟨y, hy⟩ : ∃ y : Int, y = ((numAt s.toList (E + 1 + 3 * k + 1) : Nat) : Int) := ⟨_, rfl⟩
    have CD : Hid (∀ W, Rd W (w.heap.size + 1) (s.extract (E + 1 + 3 * k) s.size) → Calls Tryz.prog 209 #[.pointer (some ⟨w.heap.size + 1, 0, none⟩)] W fun e w' => ∃ v, e = .returned v ∧ v = .agg #[.int .i64 x, .int .i64 y] ∧ Rd w' (w.heap.size + 1) (s.extract (E + 1 + 3 * (k + 1)) s.size) ∧ W.grownBy w' (some (w.heap.size + 1))) := by
     intro W h
     have := dot_ok _ s (E + 1 + 3 * k) W h hk3p hs
     rw [← hx, ← hy] at this
     exact this.mono fun e w' ⟨h1, h2⟩ => ⟨_, h1, rfl, h2⟩
    have HTS : Hid (threes (k + 1) (s.toList.drop (E + 1)) = threes k (s.toList.drop (E + 1)) ++ [(x, y)]) := by
     unfold Hid; rw [threes_snoc s.toList k (E + 1) (by rw [len_s]; omega), hx, hy]
    obtain ⟨Q, hQ⟩ : ∃ Q, Q = threes k (s.toList.drop (E + 1)) := ⟨_, rfl⟩
    have HQL : Hid (Q.length + 1 ≤ 1000000) := by unfold Hid; rw [hQ, threes_len]; omega
    rw [← hQ] at HRW HTS
    clear hx hy hQ
    go_wp2_with fail
    go_region_law (first
     | ((refine step_call (by rfl) 209 (.tmp 3) _ (by rfl) _ (by rfl) enter_dot (CD.out _ ?_) ?_; exact HSP.out.rd; rintro v7 w7 ⟨rfl, hr7, hg7⟩; have HS7 := z9 (HSP.out.grown (grown_un hg7) hr7); have HO7 := z9 (own_grown HRW.out hg7); have HA7 : Hid (∀ O, St w (w7.alloc O) s (E + 1 + 3 * (k + 1)) h4 #[.int .i64 a, .int .i64 b, .int .i64 4, .string P, .int .i64 0, .slice pv Nv cv]) := fun O => HS7.out.below ((Below.refl _ w7).alloc (Nat.le_refl _) O); have HOA : Hid (∀ O, (w7.alloc O).ownsRow (w.heap.size + 3) 72 2 (.slice pv Nv cv) Q.length (flatD Q)) := fun O => World.ownsRow.alloc HO7.out O; have q7 : w7.cell? ⟨h4, 5, none⟩ = some (.slice pv Nv cv) := cell_of HS7.out.ob rfl; have q8 : ∀ O, (w7.alloc O).cell? ⟨h4, 5, none⟩ = some (.slice pv Nv cv) := fun O => cell_of (HA7.out O).ob rfl))
     | ((refine step_putD (by rfl) (.tmp 29) (.tmp 31) (by rfl) (w.heap.size + 3) (.slice pv Nv cv) Q (x, y) (by rfl) w7.heap.size (by rfl) HQL.out (HOA.out _) ((HA7.out _).sz) (two_new w7 _ _ _).1 (two_new w7 _ _ _).2 ?_; intro v9 w9 ho9 hg9; obtain ⟨p9, N9, c9, rfl, _⟩ := own_shape ho9; have HS9 : Hid (St w w9 s (E + 1 + 3 * (k + 1)) h4 #[.int .i64 a, .int .i64 b, .int .i64 4, .string P, .int .i64 0, .slice pv Nv cv]) := St.grew (HA7.out _) (HOA.out _) hg9; have HO9 := z9 ho9; have q9 : w9.cell? ⟨h4, 5, none⟩ = some (.slice pv Nv cv) := cell_of HS9.out.ob rfl; have fq9 : w9.frozen? ⟨h4, 5, none⟩ = false := free_of HS9.out.ob)))
    all_goals
     have HSN : Hid (St w (w9.setCell ⟨h4, 5, none⟩ (.slice p9 N9 c9)) s (E + 1 + 3 * (k + 1)) h4 #[.int .i64 a, .int .i64 b, .int .i64 4, .string P, .int .i64 0, .slice p9 N9 c9]) := HS9.out.set 5 _
     have HON : Hid ((w9.setCell ⟨h4, 5, none⟩ (.slice p9 N9 c9)).ownsRow (w.heap.size + 3) 72 2 (.slice p9 N9 c9) (threes (k + 1) (s.toList.drop (E + 1))).length (flatD (threes (k + 1) (s.toList.drop (E + 1))))) := by
      unfold Hid; rw [HTS.out]; exact own_same HO9.out (fun j hj _ => set_block _ _ _ _ (by have := HS9.out.at4; simp; omega))
     clear ho9 hg9 hr7 hg7
     go_wp2_with fail
     go_roundw
     case rel => exact ⟨k + 1, _, by omega, by go_num, ⟨_, _, _, rfl⟩, HSN, HON, HKS2⟩
     case measure => simp [intOf]; omega
  ·obtain rfl : n = k := by omega
   have hltz : ¬ (n : Int) < n := by omega
   have HSX := HSP
   have HX := HX4
   obtain ⟨Q, hQ⟩ : ∃ Q, Q = threes n (s.toList.drop (E + 1)) := ⟨_, rfl⟩
   rw [← hQ] at HX HRW
   have HV : Hid (∀ W, (∀ k, w.heap.size + 3 ≤ k → k < wr.heap.size → W.heap[k]? = wr.heap[k]?) → DtsAt W (.slice pv Nv cv) Q) := fun W h => own_dts (own_same HRW.out h)
   clear hQ HX4 HSP HS0
   have o0 : wr.cell? ⟨h4, 0, none⟩ = some (.int .i64 a) := cell_of HSX.out.ob rfl
   have o1 : wr.cell? ⟨h4, 1, none⟩ = some (.int .i64 b) := cell_of HSX.out.ob rfl
   have o2 : wr.cell? ⟨h4, 2, none⟩ = some (.int .i64 4) := cell_of HSX.out.ob rfl
   have o3 : wr.cell? ⟨h4, 3, none⟩ = some (.string P) := cell_of HSX.out.ob rfl
   have o4 : wr.cell? ⟨h4, 4, none⟩ = some (.int .i64 0) := cell_of HSX.out.ob rfl
   have o5 : wr.cell? ⟨h4, 5, none⟩ = some (.slice pv Nv cv) := cell_of HSX.out.ob rfl
   have fo0 : wr.frozen? ⟨h4, 0, none⟩ = false := free_of HSX.out.ob
   have fo1 : wr.frozen? ⟨h4, 1, none⟩ = false := free_of HSX.out.ob
   have fo2 : wr.frozen? ⟨h4, 2, none⟩ = false := free_of HSX.out.ob
   have fo3 : wr.frozen? ⟨h4, 3, none⟩ = false := free_of HSX.out.ob
   have fo4 : wr.frozen? ⟨h4, 4, none⟩ = false := free_of HSX.out.ob
   have fo5 : wr.frozen? ⟨h4, 5, none⟩ = false := free_of HSX.out.ob
   go_wp2_with fail
   clear o0 o1 o2 o3 o4 o5 fo0 fo1 fo2 fo3 fo4 fo5
   have CE := encode_says a b 4 P 0 (.slice pv Nv cv) Q wr (HV.out wr (fun _ _ _ => rfl)) hPm
   by_cases hop : opE ((a, b), 4, P, 0, Q) = 0
   case neg =>
    obtain ⟨q, hq⟩ : ∃ q, q = opE ((a, b), 4, P, 0, Q) := ⟨_, rfl⟩
    have hTe : encS ((a, b), 4, P, 0, Q) = ⟨#[]⟩ := by unfold encS; rw [if_neg hop]
    rw [hTe, errV_ne hop, ← hq] at CE
    have HN : Hid (decB s.toList = none) := dec_none_of HX.out (fun e => hop e.1)
    clear hTe hq hop
    refine CE.mono ?_
    rintro e wy ⟨rfl, hby⟩
    have HBY : Hid (Below w.heap.size w wy) := bel HSX.out.bl hby
    clear hby CE
    go_wp2_with fail
    exact ⟨rfl, Post.no HN.out HBY.out⟩
   obtain ⟨T8, hT8⟩ : ∃ T8, T8 = bytesS ((a, b), 4, P, 0, Q) := ⟨_, rfl⟩
   have hTe : encS ((a, b), 4, P, 0, Q) = T8 := by unfold encS; rw [if_pos hop, hT8]
   rw [hTe, hop, errV_zero] at CE
   have HT8 : Hid (T8.toList = bytesB ((a, b), 4, P, 0, Q)) := by unfold Hid; rw [hT8, bytesS_list]
   have HOP := z9 hop
   clear hTe hT8 hop
   refine CE.mono ?_
   rintro e wy ⟨rfl, hby⟩
   have HSY : Hid (St w wy s (E + 1 + 3 * n) h4 #[.int .i64 a, .int .i64 b, .int .i64 4, .string P, .int .i64 0, .slice pv Nv cv]) := HSX.out.below hby
   have HKY : Hid (∀ k, w.heap.size + 3 ≤ k → k < wr.heap.size → wy.heap[k]? = wr.heap[k]?) := fun k _ hk => hby.block k hk
   have HZY := z9 hby.size
   clear hby CE
   have x0 : wy.cell? ⟨h4, 0, none⟩ = some (.int .i64 a) := cell_of HSY.out.ob rfl
   have x1 : wy.cell? ⟨h4, 1, none⟩ = some (.int .i64 b) := cell_of HSY.out.ob rfl
   have x2 : wy.cell? ⟨h4, 2, none⟩ = some (.int .i64 4) := cell_of HSY.out.ob rfl
   have x3 : wy.cell? ⟨h4, 3, none⟩ = some (.string P) := cell_of HSY.out.ob rfl
   have x4 : wy.cell? ⟨h4, 4, none⟩ = some (.int .i64 0) := cell_of HSY.out.ob rfl
   have x5 : wy.cell? ⟨h4, 5, none⟩ = some (.slice pv Nv cv) := cell_of HSY.out.ob rfl
   have r0 : wy.cell? ⟨w.heap.size, 0, none⟩ = some (.int .i64 0) := cell_of HSY.out.rb rfl
   have r1 : wy.cell? ⟨w.heap.size, 1, none⟩ = some (.int .i64 0) := cell_of HSY.out.rb rfl
   have r2 : wy.cell? ⟨w.heap.size, 2, none⟩ = some (.int .i64 0) := cell_of HSY.out.rb rfl
   have r3 : wy.cell? ⟨w.heap.size, 3, none⟩ = some (.string ⟨#[]⟩) := cell_of HSY.out.rb rfl
   have r4 : wy.cell? ⟨w.heap.size, 4, none⟩ = some (.int .i64 0) := cell_of HSY.out.rb rfl
   have r5 : wy.cell? ⟨w.heap.size, 5, none⟩ = some (.slice none 0 0) := cell_of HSY.out.rb rfl
   have fr0 : wy.frozen? ⟨w.heap.size, 0, none⟩ = false := free_of HSY.out.rb
   have fr1 : wy.frozen? ⟨w.heap.size, 1, none⟩ = false := free_of HSY.out.rb
   have fr2 : wy.frozen? ⟨w.heap.size, 2, none⟩ = false := free_of HSY.out.rb
   have fr3 : wy.frozen? ⟨w.heap.size, 3, none⟩ = false := free_of HSY.out.rb
   have fr4 : wy.frozen? ⟨w.heap.size, 4, none⟩ = false := free_of HSY.out.rb
   have fr5 : wy.frozen? ⟨w.heap.size, 5, none⟩ = false := free_of HSY.out.rb
   by_cases hes : T8.toList = s.toList
   ·have HE : Hid (decB s.toList = some ((a, b), 4, P, 0, Q)) := decB_iff.2 ⟨HOP.out, by rw [← HT8.out]; exact hes⟩
    have hesb : (T8.toList == s.toList) = true := by simpa using hes
    have HV9 : Hid (∀ x0 x1 x2 x3 x4 x5 W, (∀ k, w.heap.size ≤ k → k < (six6 wy w.heap.size x0 x1 x2 x3 x4 x5).heap.size → W.heap[k]? = (six6 wy w.heap.size x0 x1 x2 x3 x4 x5).heap[k]?) → DtsAt W (.slice pv Nv cv) (Q)) := fun x0 x1 x2 x3 x4 x5 W hW => HV.out _ (fun k hk1 hk2 => (hW k (by omega) (by rw [six6_size]; exact Nat.lt_of_lt_of_le hk2 HZY.out)).trans ((six6_block _ _ _ _ _ _ _ _ _ (by omega)).trans (HKY.out k hk1 hk2)))
    clear hes
    go_wp2_with fail
    refine bodyPost_ret (v := opV ((a, b), 4, P, 0, Q) (.slice pv Nv cv)) ?_ rfl (Post.yes HE.out (fun W hW => ⟨_, rfl, HV9.out _ _ _ _ _ _ W hW⟩) ?_)
    ·simp [results, Tryz.results192, opV, go_sem, asAddr, Result.andThen, r0, r1, r2, r3, r4, r5]
    ·exact six6_below HSY.out.bl (Nat.le_refl _) _ _ _ _ _ _
   ·have HN : Hid (decB s.toList = none) := dec_none_of HX.out (fun e => hes (HT8.out.trans e.2))
    have hesb : (T8.toList == s.toList) = false := by simpa using hes
    clear hes
    go_wp2_with fail
    exact ⟨rfl, Post.no HN.out HSY.out.bl⟩
end Vj
end Go.Proofs.YtlmdchpbpgcfmaaGreatDoor
/- What Decode and Unpack answer: told, their deferred closures, readOps. -/
namespace Go.Proofs.YtlmdchpbpgcfmaaGreatDoor
namespace Vk
open Go.ChangeShapes Go.WideShapes Go.ChangeAt Go.RowKit Cm Ka Kb Na Om Oa Oz Oc Og Oi Ov Va Vb Vc Vd Ve Vf Vg Vh Vi Vj
open La (bel bel_drew errV_zero errV_ne own_ge own_grow own_below)
theorem told_nil (w:World):Calls Tryz.prog 165 #[.nilIface] w fun e w'=>e=.returned .nilIface∧w'=w:=by
 go_enter Tryz.func165,Tryz.ntmps165
 go_wp2_with fail
 go_ret
 exact⟨rfl,rfl⟩
theorem told_err (w:World):Calls Tryz.prog 165 #[.iface 84 (.int .i64 2)] w fun e w'=>e=.returned (.iface 84 (.int .i64 2))∧w'=w:=by
 have hta:∀w,(Instr.typeAssert (.iface 84 (.int .i64 2)) 20 84 true).run Tryz.prog w=.ok (.tuple #[.int .i64 2,.bool true]) w:=fun _=>by kernel_rfl
 go_enter Tryz.func165,Tryz.ntmps165
 go_wp2_with fail
 go_ret
 exact⟨rfl,rfl⟩
theorem store_one (h:Nat) (y v:Value) (w:World) (hh:w.heap[h]? =some (.cells #[y] 25 (0,0))) (hv:v.oneCell'=true):(storeCells ⟨h,0,none⟩ [v]).run Tryz.prog w=.ok () (w.setCell ⟨h,0,none⟩ v):=by
 have ch:w.cell? ⟨h,0,none⟩=some y:=cell_of hh rfl
 have fh:w.frozen? ⟨h,0,none⟩=false:=free_of hh
 have h1:(store ⟨h,0,none⟩ v).run Tryz.prog w=.ok () (w.setCell ⟨h,0,none⟩ v):=by
  rw[run_store _ _ _ _ _ hv,ch];simp only[fh];rfl
 simp[storeCells,Addr.add,h1]
theorem idle_unp (h:Nat) (y:Value) (w:World) (hh:w.heap[h]? =some (.cells #[y] 25 (0,0))):
  CallsD Tryz.prog 164 #[.pointer (some ⟨h,0,none⟩)] .returning w fun e u' w'=>e=.returned (.tuple #[])∧u'=.returning∧w'=w.setCell ⟨h,0,none⟩ .nilIface:=by
 have hst:=store_one h y .nilIface w hh rfl
 refine callsD_of_wpS Tryz.func164 rfl fun c₀ cs hu=> ?_
 apply wpS_region
 simp[wpOpsS,go_sem,recoverD,hu,Tryz.ntmps164]
 refine(told_nil w).mono ?_
 rintro e w2 ⟨rfl,hw⟩
 have hw2:=hw.symm;subst hw2;clear hw
 simp[hst,Oper.upon,Result.andThen]
 refine⟨rfl,.returning, ?_,.tuple #[], ?_,rfl,rfl,rfl⟩
 ·cases c₀;simp_all
 ·simp[results,Tryz.results164]
theorem panics_unp (h:Nat) (y:Value) (older:List PanicEntry) (w:World) (hh:w.heap[h]? =some (.cells #[y] 25 (0,0))):
  CallsD Tryz.prog 164 #[.pointer (some ⟨h,0,none⟩)] (.panicking ({ v:=.iface 84 (.int .i64 2),recovered:=false }::older)) w fun e u' w'=>e=.returned (.tuple #[])∧u'=.panicking ({ v:=.iface 84 (.int .i64 2),recovered:=true }::older)∧w'=w.setCell ⟨h,0,none⟩ (.iface 84 (.int .i64 2)):=by
 have hst:=store_one h y (.iface 84 (.int .i64 2)) w hh rfl
 refine callsD_of_wpS Tryz.func164 rfl fun c₀ cs hu=> ?_
 apply wpS_region
 simp[wpOpsS,go_sem,recoverD,hu,Tryz.ntmps164]
 refine(told_err w).mono ?_
 rintro e w2 ⟨rfl,hw⟩
 have hw2:=hw.symm;subst hw2;clear hw
 simp[hst,Oper.upon,Result.andThen]
 refine⟨rfl,.panicking ({ v:=.iface 84 (.int .i64 2),recovered:=true }::older), ?_,.tuple #[], ?_,rfl,rfl,rfl⟩
 ·cases c₀;simp_all
 ·simp[results,Tryz.results164]
end Vk
end Go.Proofs.YtlmdchpbpgcfmaaGreatDoor
/- What Decode answers. -/
namespace Go.Proofs.YtlmdchpbpgcfmaaGreatDoor
namespace Vl
open Go.ChangeShapes Go.WideShapes Go.ChangeAt Go.RowKit Cm Ka Kb Na Om Oa Oz Oc Og Oi Ov Va Vb Vc Vd Ve Vf Vg Vh Vi Vj Vk
open La (bel bel_drew errV_zero errV_ne own_ge own_grow own_below)
theorem read_no {s:ByteArray} {W:World} (hn:decB s.toList=none) (hs:s.size≤maxLen):Calls Tryz.prog 192 #[.string s] W fun e w'=>e=.panicked SynP∧Below W.heap.size W w':=by
 refine(readOp_any s W hs).mono ?_
 rintro e w' (⟨_,h2,h3⟩ | ⟨o,u,h1,_⟩)
 ·exact⟨h2,h3⟩
 ·rw[hn] at h1;cases h1
theorem read_yes {s:ByteArray} {W:World} {o:Ox} (hn:decB s.toList=some o) (hs:s.size≤maxLen):Calls Tryz.prog 192 #[.string s] W fun e w'=>∃p n c,e=.returned (opV o (.slice p n c))∧Kept W.heap.size w' (opV o (.slice p n c)) o∧Below W.heap.size W w':=by
 refine(readOp_any s W hs).mono ?_
 rintro e w' (⟨h1,_⟩ | ⟨o2,u,h1,h2,h3,h4⟩)
 ·rw[hn] at h1;cases h1
 ·rw[hn] at h1
  injection h1 with h1
  subst h1
  obtain⟨v,hv,hd⟩:=h3.now
  obtain⟨p,c,hv2,_⟩:=hd
  subst hv2
  subst hv
  exact⟨_,_,_,h2,h3,h4⟩
end Vl
end Go.Proofs.YtlmdchpbpgcfmaaGreatDoor
/- What readOps answers: the ops that the bytes are, or the panic of bytes that are none. -/
namespace Go.Proofs.YtlmdchpbpgcfmaaGreatDoor
namespace Vm
open Go.ChangeShapes Go.WideShapes Go.ChangeAt Go.RowKit Cm Ka Kb Na Om Oa Oz Oc Og Oi Ov Va Vb Vc Vd Ve Vf Vg Vh Vi Vj Vk Vl
open La (bel bel_drew errV_zero errV_ne own_ge own_grow own_below)
theorem infoO:(Tryz.prog.info? 75).map (fun i=>(i.zero,i.size,i.bytes))=some (some (.agg #[.int .i64 0,.int .i64 0,.int .i64 0,.string ⟨#[]⟩,.int .i64 0,.slice none 0 0]),6,72):=by kernel_rfl
/- what an op of a row saw, apart from the row, in blocks from L on -/
def Apart (L:Nat) (w:World) (v:Value) (y:Ox × Value):Prop:=
 ∃a b,L≤a∧(∀W:World,(∀k,a≤k→k<b→W.heap[k]? =w.heap[k]?)→DtsAt W y.2 y.1.2.2.2.2)∧b≤w.heap.size∧∀g,v.ownBlock=some g→¬(a≤g∧g<b)
theorem Apart.at{L:Nat} {w W:World} {v:Value} {y:Ox × Value} (h:Apart L w v y) (hW:∀k,L≤k→k<w.heap.size→W.heap[k]? =w.heap[k]?):DtsAt W y.2 y.1.2.2.2.2:=by
 obtain⟨a,b,h0,h1,h2,_⟩:=h
 exact h1 W (fun k hk1 hk2=>hW k (by omega) (by omega))
theorem Apart.same {L:Nat} {w w2:World} {v:Value} {y:Ox × Value} (h:Apart L w v y) (hs:w.heap.size≤w2.heap.size) (hb:∀k,L≤k→k<w.heap.size→w2.heap[k]? =w.heap[k]?):Apart L w2 v y:=by
 obtain⟨a,b,h0,h1,h2,h3⟩:=h
 exact⟨a,b,h0,fun W hW=>h1 W (fun k hk1 hk2=>(hW k hk1 hk2).trans (hb k (by omega) (by omega))),Nat.le_trans h2 hs,h3⟩
theorem Apart.grown {L:Nat} {w w2:World} {v v2:Value} {y:Ox × Value} (h:Apart L w v y) (hg:w.grownBy w2 v.ownBlock) (hat:v2.ownBlock=v.ownBlock∨v2.ownBlock=some w.heap.size):Apart L w2 v2 y:=by
 obtain⟨a,b,h0,h1,h2,h3⟩:=h
 refine⟨a,b,h0,fun W hW=>h1 W (fun k hk1 hk2=>(hW k hk1 hk2).trans (hg.block k (by omega) (fun e=>h3 k e.symm ⟨hk1,hk2⟩))),Nat.le_trans h2 hg.size, ?_⟩
 intro g hg2
 rcases hat with e | e
 ·exact h3 g (by rw[←e];exact hg2)
 ·rw[e] at hg2
  injection hg2 with hg2
  omega
theorem apart_new {L:Nat} {w w2:World} {v u:Value} {x:Ox} (hL:L≤w.heap.size) (hk:Kept w.heap.size w2 (opV x u) x) (hv:∀g,v.ownBlock=some g→g<w.heap.size):Apart L w2 v (x,u):=by
 refine⟨w.heap.size,w2.heap.size,hL,fun W hW=> ?_,Nat.le_refl _,fun g hg=>by have:=hv g hg;omega⟩
 obtain⟨u2,e,hd⟩:=hk W hW
 unfold opV at e
 injection e with e
 simp only[Array.mk.injEq,List.cons.injEq,and_true] at e
 rw[e.2.2.2.2.2];exact hd
theorem many_step {k:Nat} {L:List UInt8}:manyB (k+1) L=if L.length<2∨L.length<2+numAt L 0 then none else match decB ((L.drop 2).take (numAt L 0)) with
  | none=>none
  | some o=>(manyB k (L.drop (2+numAt L 0))).map fun q=>(o::q.1,q.2):=by
 conv=>lhs;unfold manyB
 unfold numAt
 simp only[Nat.zero_add]
 split
 ·rfl
 ·split
  ·rename_i h9
   rw[h9]
  ·rename_i o ho
   rw[ho]
   cases manyB k (L.drop (2+((L.getD 0 0).toNat*256+(L.getD 1 0).toNat))) with
   | none=>rfl
   | some q=>rfl
theorem num_drop (L:List UInt8) (A:Nat):numAt (L.drop A) 0=numAt L A:=by
 unfold numAt
 simp only[List.getD_eq_getElem?_getD,List.getElem?_drop,Nat.add_zero,Nat.zero_add]
theorem num_zero (L:List UInt8):numAt L 0=(L.getD 0 0).toNat*256+(L.getD 1 0).toNat:=rfl
theorem own_appO {w:World} {base:Nat} {t:TypeId} {v:Value} {n m:Nat} {a b:List (Ox × Value)} (hn:a.length=n) (hm:b.length=m) (h:w.ownsRow base t 6 v (n+m) (flatO a++flatO b)):w.ownsRow base t 6 v (a++b).length (flatO (a++b)):=by
 rw[List.length_append,flatO_append,hn,hm];exact h
theorem op_new (w:World) (x:Ox) (u:Value) (t:TypeId):∀j y,(flatO [(x,u)])[j]? =some y→(w.alloc (.cells #[.int .i64 x.1.1,.int .i64 x.1.2,.int .i64 x.2.1,.string x.2.2.1,.int .i64 x.2.2.2.1,u] t)).cell? ((⟨w.heap.size,0,none⟩:Addr).add j)=some y:=by
 intro j y hu
 have h2:=heap_alloc_new w (.cells #[.int .i64 x.1.1,.int .i64 x.1.2,.int .i64 x.2.1,.string x.2.2.1,.int .i64 x.2.2.2.1,u] t)
 have e:flatO [(x,u)]=[.int .i64 x.1.1,.int .i64 x.1.2,.int .i64 x.2.1,.string x.2.2.1,.int .i64 x.2.2.2.1,u]:=rfl
 rw[e] at hu
 rw[Addr.add_lit,Nat.zero_add]
 simp only[World.cell?,h2]
 simpa using hu
theorem flatO_one (x:Ox) (u:Value) (hu:u.oneCell'=true):∀y ∈ flatO [(x,u)],y.oneCell'=true:=by
 intro y hy
 have e:flatO [(x,u)]=[.int .i64 x.1.1,.int .i64 x.1.2,.int .i64 x.2.1,.string x.2.2.1,.int .i64 x.2.2.2.1,u]:=rfl
 rw[e] at hy
 simp only[List.mem_cons,List.not_mem_nil,or_false] at hy
 rcases hy with rfl | rfl | rfl | rfl | rfl | rfl
 all_goals first | rfl | exact hu
def PostU (s:ByteArray) (w:World) (e:Ending) (w':World):Prop:=
 (unpB s.toList=none∧e=.panicked SynP∧Below w.heap.size w w')∨∃l p n c,unpB s.toList=some l∧e=.returned (.slice p n c)∧(∀W:World,(∀k,w.heap.size≤k→k<w'.heap.size→W.heap[k]? =w'.heap[k]?)→OpsAt W (.slice p n c) l)∧Below w.heap.size w w'
theorem PostU.no {s:ByteArray} {w w':World} (h:unpB s.toList=none) (hb:Below w.heap.size w w'):PostU s w (.panicked SynP) w':=Or.inl ⟨h,rfl,hb⟩
theorem PostU.yes {s:ByteArray} {w w':World} {l:List Ox} {p:Option Addr} {n c:Nat} (h:unpB s.toList=some l) (hk:∀W:World,(∀k,w.heap.size≤k→k<w'.heap.size→W.heap[k]? =w'.heap[k]?)→OpsAt W (.slice p n c) l) (hb:Below w.heap.size w w'):PostU s w (.returned (.slice p n c)) w':=Or.inr ⟨l,p,n,c,h,rfl,hk,hb⟩
theorem row_grow {w w5 w9:World} {O:Obj} {t:TypeId} {z:Nat} {v:Value} {n:Nat} {xs:List Value} (h:w5.ownsRow (w.heap.size+1) t z v n xs) (hb:Below w.heap.size w w5) (hg:(w5.alloc O).grownBy w9 v.ownBlock):Below w.heap.size w w9:=
 (hb.alloc hb.size O).trans ⟨hg.os,hg.tape,hg.output,hg.size,fun k hk=>hg.block k (by have:=hb.size;simp;omega) (fun e=>by have:=(World.ownsRow.lt h k e.symm).1;omega)⟩
theorem row_rd {w w5 w9:World} {O:Obj} {t:TypeId} {z:Nat} {v:Value} {n:Nat} {xs:List Value} {r:ByteArray} (h:w5.ownsRow (w.heap.size+1) t z v n xs) (hr:Rd w5 w.heap.size r) (hg:(w5.alloc O).grownBy w9 v.ownBlock):Rd w9 w.heap.size r:=by
 have hlt:w.heap.size<w5.heap.size:=by
  rcases Nat.lt_or_ge w.heap.size w5.heap.size with e | e
  ·exact e
  ·unfold Rd at hr;rw[Array.getElem?_eq_none e] at hr;cases hr
 exact(hg.block _ (by simp;omega) (fun e=>by have:=(World.ownsRow.lt h _ e.symm).1;omega)).trans ((heap_alloc_old w5 O hlt).trans hr)
theorem readOps_any (s : ByteArray) (w : World) (hs : s.size ≤ maxLen) : Calls Tryz.prog 166 #[.string s] w (PostU s w) := by
 have hm := hs
 unfold maxLen at hm
 have HA0 : Hid (Rd (w.alloc (.cells #[.string s] 271)) w.heap.size (s.extract 0 s.size) ∧ Below w.heap.size w (w.alloc (.cells #[.string s] 271)) ∧ (w.alloc (.cells #[.string s] 271)).heap.size = w.heap.size + 1) :=
  ⟨by rw [ext_all]; exact heap_alloc_new w _, (Below.refl _ w).alloc (Nat.le_refl _) _, by simp⟩
 obtain ⟨W0, hW0⟩ : ∃ W0, W0 = w.alloc (.cells #[.string s] 271) := ⟨_, rfl⟩
 have HW0 := z9 hW0
 rw [← hW0] at HA0
 clear hW0
 go_enter Tryz.func166, Tryz.ntmps166
 go_wp2_with fail
 rw [← HW0.out]
 clear HW0
 by_cases h2 : s.size < 0 + 2
 ·have HN : Hid (unpB s.toList = none) := by unfold Hid unpB; rw [if_pos (Or.inl (by rw [Om.len_eq]; omega))]
  refine (two_no _ s 0 W0 HA0.out.1 (by omega) h2 hs).mono ?_
  rintro e w2 ⟨rfl, hg2⟩
  have HB2 : Hid (Below w.heap.size w w2) := HA0.out.2.1.trans (grown_below hg2 (Nat.le_refl _) (by have := HA0.out.2.2; omega))
  clear hg2
  go_wp2_with fail
  exact ⟨rfl, PostU.no HN.out HB2.out⟩
 have h2p : 0 + 2 ≤ s.size := by omega
 have CN := two_ok _ s 0 W0 HA0.out.1 h2p hs
 obtain ⟨n, hn⟩ : ∃ n, n = numAt s.toList 0 := ⟨_, rfl⟩
 rw [← hn] at CN
 by_cases h4 : 400 < n
 ·have HN : Hid (unpB s.toList = none) := by unfold Hid unpB; rw [if_pos (Or.inr (by rw [← num_zero, ← hn]; exact h4))]
  have h4z : (400 : Int) < n := by omega
  clear hn
  refine CN.mono ?_
  rintro e w2 ⟨rfl, hr2, ho2⟩
  have HB2 : Hid (Below w.heap.size w w2) := HA0.out.2.1.trans (ho2.below (Nat.le_refl _))
  clear hr2 ho2 CN
  go_wp2_with fail
  exact ⟨rfl, PostU.no HN.out HB2.out⟩
 have h4z : ¬ (400 : Int) < n := by omega
 have HU : Hid (unpB s.toList = match manyB n (s.toList.drop 2) with | some (l, []) => some l | _ => none) := by
  unfold Hid unpB; rw [if_neg (by rw [← num_zero, ← hn, Om.len_eq]; omega), ← num_zero, ← hn]
  rfl
 clear hn
 refine CN.mono ?_
 rintro e w2 ⟨rfl, hr2, ho2⟩
 have K2 : Hid (Below w.heap.size w w2) := HA0.out.2.1.trans (ho2.below (Nat.le_refl _))
 have R2 := z9 hr2
 have Z2 : Hid (w.heap.size + 1 ≤ w2.heap.size) := by unfold Hid; have := ho2.size; have := HA0.out.2.2; omega
 clear hr2 ho2 CN HA0
 obtain ⟨i0, hi, hz0, hz1, hzz2⟩ := info_parts infoO
 go_wp2_with fail
 go_loopw [5, 13] (fun v i wr => ∃ (k A : Nat) (done : List (Ox × Value)), k ≤ n ∧ i = .int .i64 k ∧ (∃ P N C, v = .slice P N C) ∧ Hid (A ≤ s.size) ∧ Hid (done.length = k) ∧ Hid (wr.ownsRow (w.heap.size + 1) 75 6 v done.length (flatO done)) ∧ Hid (∀ y ∈ done, Apart (w.heap.size + 1) wr v y) ∧ Hid (manyB n (s.toList.drop 2) = (manyB (n - k) (s.toList.drop A)).map fun q => (done.map (·.1) ++ q.1, q.2)) ∧ Hid (Below w.heap.size w wr) ∧ Hid (Rd wr w.heap.size (s.extract A s.size)) ∧ Hid (w.heap.size + 1 ≤ wr.heap.size)) (fun _ i _ => n - (intOf i).toNat)
 case atStart => exact ⟨0, 2, [], by omega, rfl, ⟨_, _, _, rfl⟩, h2p, rfl, World.ownsRow_nil _ _ _ _, fun y hy => by simp at hy, by unfold Hid; cases manyB (n - 0) (s.toList.drop 2) <;> simp_all, K2, R2, Z2⟩
 case round =>
  clear K2 R2 Z2
  obtain ⟨k, A, done, hk, rfl, ⟨p0, n0, c0, rfl⟩, HAs, HDL, KW, KA, KM, K, KR, KZ⟩ := hrel
  by_cases hlt : k < n
  ·have hltz : (k : Int) < n := by omega
   obtain ⟨j, hj⟩ : ∃ j, n - k = j + 1 := ⟨n - k - 1, by omega⟩
   rw [hj] at KM
   have hst := @many_step j (s.toList.drop A)
   rw [List.length_drop, Om.len_eq, num_drop] at hst
   have HJ : Hid (n - (k + 1) = j) := by unfold Hid; omega
   have hAs := HAs.out
   have HST := hst
   rw [← num_drop] at HST
   have HST1 : Hid (manyB (j + 1) (s.toList.drop A) = if s.size - A < 2 ∨ s.size - A < 2 + numAt s.toList A then none else match decB (((s.toList.drop A).drop 2).take (numAt s.toList A)) with
    | none => none
    | some o => (manyB j ((s.toList.drop A).drop (2 + numAt s.toList A))).map fun q => (o :: q.1, q.2)) := hst
   clear hst hj HST
   go_wp2_with fail
   by_cases c1 : s.size < A + 2
   ·have HN : Hid (unpB s.toList = none) := by
     unfold Hid; rw [HU.out, KM.out, HST1.out, if_pos (Or.inl (by omega))]; rfl
    clear HST1 HJ
    refine (two_no _ s A wr KR.out hAs c1 hs).mono ?_
    rintro e w3 ⟨rfl, hg3⟩
    have HB3 : Hid (Below w.heap.size w w3) := K.out.trans (grown_below hg3 (Nat.le_refl _) (by have := KZ.out; omega))
    clear hg3
    go_wp2_with fail
    exact ⟨rfl, PostU.no HN.out HB3.out⟩
   have c1p : A + 2 ≤ s.size := by omega
   have CN := two_ok _ s A wr KR.out c1p hs
   have hd := numAt_le s.toList A
   obtain ⟨d, hde⟩ : ∃ d, d = numAt s.toList A := ⟨_, rfl⟩
   rw [← hde] at CN hd HST1
   clear hde
   refine CN.mono ?_
   rintro e w3 ⟨rfl, hr3, ho3⟩
   have K3 : Hid (Below w.heap.size w w3) := K.out.trans (ho3.below (Nat.le_refl _))
   have R3 := z9 hr3
   have O3 := z9 ho3
   clear hr3 ho3 CN
   go_wp2_with fail
   by_cases c2 : s.size < A + 2 + d
   ·have HN : Hid (unpB s.toList = none) := by
     unfold Hid; rw [HU.out, KM.out, HST1.out, if_pos (Or.inr (by omega))]; rfl
    clear HST1 HJ
    refine (take_no _ s (A + 2) d w3 R3.out c1p c2 hs).mono ?_
    rintro e w4 ⟨rfl, hw⟩
    have hw2 := hw.symm; subst hw2; clear hw
    go_wp2_with fail
    exact ⟨rfl, PostU.no HN.out K3.out⟩
   have c2p : A + 2 + d ≤ s.size := by omega
   have CT := take_ok _ s (A + 2) d w3 R3.out c2p hs
   obtain ⟨Y, hY⟩ : ∃ Y, s.extract (A + 2) (A + 2 + d) = Y := ⟨_, rfl⟩
   rw [hY] at CT
   have hYm : Y.size ≤ maxLen := by rw [← hY, size_extract s (A + 2) (A + 2 + d) c2p]; omega
   have hYl : (List.drop 2 (s.toList.drop A)).take d = Y.toList := by
    rw [← hY, list_extract, List.drop_drop, List.drop_take, show A + 2 + d - (A + 2) = d by omega]
   have hDE : (s.toList.drop A).drop (2 + d) = s.toList.drop (A + 2 + d) := by rw [List.drop_drop, show A + (2 + d) = A + 2 + d by omega]
   have hst2 := HST1.out
   rw [if_neg (by omega), hYl, hDE] at hst2
   have HST : Hid (manyB (j + 1) (s.toList.drop A) = match decB Y.toList with
    | none => none
    | some o => (manyB j (s.toList.drop (A + 2 + d))).map fun q => (o :: q.1, q.2)) := hst2
   clear hst2 HST1 hYl hDE hY
   have HDL2 : Hid (done.length ≤ 400) := by unfold Hid; have := HDL.out; omega
   refine CT.mono ?_
   rintro e w4 ⟨rfl, hr4, ho4⟩
   have K4 : Hid (Below w.heap.size w w4) := K3.out.trans (ho4.below (Nat.le_refl _))
   have R4 := z9 hr4
   have O4 := z9 (Vg.Only.trans O3.out ho4)
   clear hr4 ho4 CT K3 R3 O3
   go_wp2_with fail
   cases hdb : decB Y.toList with
   | none =>
    have HN : Hid (unpB s.toList = none) := by
     unfold Hid; rw [HU.out, KM.out, HST.out, hdb]; rfl
    refine (read_no hdb hYm).mono ?_
    rintro e w5 ⟨rfl, hb5⟩
    have K5 := z9 (bel K4.out hb5)
    clear hb5 HST HJ hdb
    go_wp2_with fail
    exact ⟨rfl, PostU.no HN.out K5.out⟩
   | some x =>
    have KM2 : Hid (∀ u : Value, manyB n (s.toList.drop 2) = (manyB (n - (k + 1)) (s.toList.drop (A + 2 + d))).map fun q => ((done ++ [(x, u)]).map (·.1) ++ q.1, q.2)) := by
     intro u
     rw [KM.out, HST.out, hdb, HJ.out]
     cases manyB j (s.toList.drop (A + 2 + d)) with
     | none => rfl
     | some q => simp
    have CD := read_yes (W := w4) hdb hYm
    clear HST HJ hdb KM
    refine CD.mono ?_
    rintro e w5 ⟨pv, nv, cv, rfl, hu, hb5⟩
    have K5 := z9 (bel K4.out hb5)
    have R5 := z9 (keep_heap hb5 R4.out)
    have KX5 : Hid (∀ k, w.heap.size + 1 ≤ k → k < wr.heap.size → w5.heap[k]? = wr.heap[k]?) := fun k h1 h2 => (hb5.block k (by have := O4.out.size; omega)).trans (O4.out.block k (by omega))
    have KS5 : Hid (wr.heap.size ≤ w5.heap.size) := by unfold Hid; have := O4.out.size; have := hb5.size; omega
    have HAP : Hid (Apart (w.heap.size + 1) w5 (.slice p0 n0 c0) (x, .slice pv nv cv)) := apart_new (by have := O4.out.size; have := KZ.out; omega) hu (fun g hg => by have := (KW.out.lt g hg).2; have := O4.out.size; omega)
    have KA5 : Hid (∀ y ∈ done, Apart (w.heap.size + 1) w5 (.slice p0 n0 c0) y) := fun y hy => (KA.out y hy).same KS5.out KX5.out
    have KW5 := z9 (own_same KW.out KX5.out)
    obtain ⟨⟨xa, xb⟩, xt, xp, xc, xs⟩ := x
    unfold opV
    simp only
    have HBX : Hid (∀ O1, Below w5.heap.size w5 (w5.alloc O1)) := fun O1 => (Below.refl _ _).alloc (Nat.le_refl _) O1
    have HN6 := z9 (op_new w5 ((xa, xb), xt, xp, xc, xs) (.slice pv nv cv) 75)
    have HSZ : Hid (∀ O1, w.heap.size + 1 ≤ (w5.alloc O1).heap.size) := fun O1 => by have := KS5.out; have := KZ.out; simp; omega
    have hcap1 : done.length + 1 ≤ maxLen := by have := HDL2.out; unfold maxLen; omega
    have hcap2 : (done.length + 1) * 72 ≤ 140737488355328 := by have := HDL2.out; omega
    clear hb5 CD hu
    go_wp2_with (at_builtin; refine wpList_append_own_at _ rfl (.tmp 15) (.tmp 19) 55 rfl (w.heap.size + 1) 75 i0 (.agg #[.int .i64 0, .int .i64 0, .int .i64 0, .string ⟨#[]⟩, .int .i64 0, .slice none 0 0]) 6 72 Tryz.underlying55 hi hz0 hz1 hzz2 rfl (by decide) (.slice p0 n0 c0) done.length (flatO done) rfl (KW5.out.alloc _) ⟨w5.heap.size, 0, none⟩ 1 1 (flatO [(((xa, xb), xt, xp, xc, xs), Value.slice pv nv cv)]) rfl rfl HN6.out (flatO_one _ _ rfl) hcap1 hcap2 (HSZ.out _) ?_; intro v9 w9 hown9 hgrow9 _ hat9; have KW9 := z9 (own_appO rfl rfl hown9); have K9 := z9 (row_grow KW5.out K5.out hgrow9); have R9 := z9 (row_rd KW5.out R5.out hgrow9); have Z9 : Hid (w.heap.size + 1 ≤ w9.heap.size) := Nat.le_trans (HSZ.out _) hgrow9.size; have KA9 : Hid (∀ y ∈ done ++ [(((xa, xb), xt, xp, xc, xs), Value.slice pv nv cv)], Apart (w.heap.size + 1) w9 v9 y) := (fun y hy => by (rcases List.mem_append.1 hy with hy | hy); (exact ((KA5.out y hy).same (HBX.out _).size (fun k _ hk => (HBX.out _).block k hk)).grown hgrow9 hat9); (rw [List.mem_singleton.1 hy]; exact (HAP.out.same (HBX.out _).size (fun k _ hk => (HBX.out _).block k hk)).grown hgrow9 hat9)); obtain ⟨p9, N9, c9, hv9, _⟩ := own_shape KW9.out; subst hv9; clear hown9 hgrow9 hat9)
    go_roundw
    case rel => exact ⟨k + 1, A + 2 + d, done ++ [(((xa, xb), xt, xp, xc, xs), Value.slice pv nv cv)], by omega, by go_num, ⟨_, _, _, rfl⟩, c2p, by unfold Hid; rw [List.length_append, HDL.out]; rfl, KW9, KA9, KM2.out _, K9, R9, Z9⟩
    case measure => simp [intOf]; omega
  ·obtain rfl : n = k := by omega
   have hltz : ¬ (n : Int) < n := by omega
   have HM : Hid (manyB n (s.toList.drop 2) = some (done.map (·.1), s.toList.drop A)) := by
    have h9 := KM.out
    rw [Nat.sub_self] at h9
    unfold Hid; rw [h9]; unfold manyB; simp
   have hAs := HAs.out
   have q0 : wr.cell? ⟨w.heap.size, 0, none⟩ = some (.string (s.extract A s.size)) := cell_of KR.out rfl
   obtain ⟨r, hr⟩ : ∃ r, r = s.extract A s.size := ⟨_, rfl⟩
   rw [← hr] at q0
   have hrl : r.toList = s.toList.drop A := by rw [hr, list_rest]
   cases hdr : s.toList.drop A with
   | nil =>
    have HE : Hid (unpB s.toList = some (done.map (·.1))) := by
     unfold Hid; rw [HU.out, HM.out, hdr]
    have hrb : (r.toList == []) = true := by rw [hrl, hdr]; rfl
    have KO : Hid (∀ W : World, (∀ k, w.heap.size ≤ k → k < wr.heap.size → W.heap[k]? = wr.heap[k]?) → OpsAt W (.slice p0 n0 c0) (done.map (·.1))) := fun W hW => own_ops (own_same KW.out (fun k h1 h2 => hW k (by omega) h2)) (fun y hy => (KA.out y hy).at (fun k h1 h2 => hW k (by omega) h2))
    have hre : r = ⟨#[]⟩ := by
     apply mk_eq; rw [hrl, hdr]; exact (toList_mk []).symm
    subst hre
    clear hr hrl hdr hrb
    go_wp2_with fail
    go_ret
    exact PostU.yes HE.out KO.out K.out
   | cons y rr =>
    have HN : Hid (unpB s.toList = none) := by
     unfold Hid; rw [HU.out, HM.out, hdr]
    have hrb : (r.toList == []) = false := by rw [hrl, hdr]; rfl
    clear hr hrl hdr
    go_wp2_with fail
    exact ⟨rfl, PostU.no HN.out K.out⟩
end Vm
end Go.Proofs.YtlmdchpbpgcfmaaGreatDoor
/- What Unpack answers. -/
namespace Go.Proofs.YtlmdchpbpgcfmaaGreatDoor
namespace Vn
open Go.ChangeShapes Go.WideShapes Go.ChangeAt Go.RowKit Cm Ka Kb Na Om Oa Oz Oc Og Oi Ov Va Vb Vc Vd Ve Vf Vg Vh Vi Vj Vk Vl Vm
open La (bel bel_drew errV_zero errV_ne own_ge own_grow own_below)
theorem one_block {w w2:World} {A:Array Value} {t:TypeId} (hb:Below (w.alloc (.cells A t)).heap.size (w.alloc (.cells A t)) w2):
  w2.heap[w.heap.size]? =some (.cells A t (0,0))∧Below w.heap.size w w2∧(w.alloc (.cells A t)).heap.size=w.heap.size+1:=by
 refine⟨?_,bel ((Below.refl _ w).alloc (Nat.le_refl _) _) hb,by simp⟩
 rw[hb.block _ (by simp)]
 exact heap_alloc_new w _
theorem reads_no {s:ByteArray} {W:World} (hn:unpB s.toList=none) (hs:s.size≤maxLen):Calls Tryz.prog 166 #[.string s] W fun e w'=>e=.panicked SynP∧Below W.heap.size W w':=by
 refine(readOps_any s W hs).mono ?_
 rintro e w' (⟨_,h2,h3⟩ | ⟨l,p,n,c,h1,_⟩)
 ·exact⟨h2,h3⟩
 ·rw[hn] at h1;cases h1
theorem reads_yes {s:ByteArray} {W:World} {l:List Ox} (hn:unpB s.toList=some l) (hs:s.size≤maxLen):Calls Tryz.prog 166 #[.string s] W fun e w'=>∃p n c,e=.returned (.slice p n c)∧(∀W2:World,(∀k,W.heap.size≤k→k<w'.heap.size→W2.heap[k]? =w'.heap[k]?)→OpsAt W2 (.slice p n c) l)∧Below W.heap.size W w':=by
 refine(readOps_any s W hs).mono ?_
 rintro e w' (⟨h1,_⟩ | ⟨l2,p,n,c,h1,h2,h3,h4⟩)
 ·rw[hn] at h1;cases h1
 ·rw[hn] at h1
  injection h1 with h1
  subst h1
  exact⟨_,_,_,h2,h3,h4⟩
theorem unpack_none (s:ByteArray) (w:World) (hs:s.size≤maxLen) (hn:unpB s.toList=none):
  Calls Tryz.prog 128 #[.string s] w fun e w'=>∃v,e=.returned (.tuple #[v,errV 2])∧OpsAt w' v []∧Below w.heap.size w w':=by
 have hmf:∀(fn:Fn) (first cap:Array Value) (w:World),(Instr.makeFunc fn first cap).run Tryz.prog w=.ok (.func fn first cap) w:=fun _ _ _ _=>rfl
 have C:=fun W=>reads_no (W:=W) hn hs
 clear hn
 go_enter_defers Tryz.func128,Tryz.ntmps128
 go_wp2_with fail
 refine(C _).mono ?_
 rintro e w2 ⟨rfl,hb2⟩
 obtain⟨he,hbw,_⟩:=one_block hb2
 clear hb2 C
 go_wp2_with fail
 refine leaves_cons (f:=164) (args:=#[.pointer (some ⟨w.heap.size,0,none⟩)]) (by simp) (by simp[go_sem]) ?_
 refine(panics_unp w.heap.size _ [] w2 he).mono ?_
 rintro e u' w3 ⟨rfl,rfl,hw3⟩
 have h2:w3.heap[w.heap.size]? =some (.cells #[.iface 84 (.int .i64 2)] 25 (0,0)):=by
  rw[hw3];exact setCell_heap (cur:=#[.nilIface]) he
 have hb3:Below w.heap.size w w3:=by
  rw[hw3];exact hbw.setCell (p:=⟨w.heap.size,0,none⟩) (by simp) _
 have r6:w3.cell? ⟨w.heap.size,0,none⟩=some (.iface 84 (.int .i64 2)):=cell_of h2 rfl
 clear hw3
 refine⟨.tuple #[.slice none 0 0,errV 2], ?_,_,rfl,OpsAt.nil _,hb3⟩
 simp[results,Tryz.results128,go_sem,asAddr,Result.andThen,r6]
 rfl
theorem unpack_kept (s:ByteArray) (w:World) (l:List Ox) (hs:s.size≤maxLen) (hn:unpB s.toList=some l):
  Calls Tryz.prog 128 #[.string s] w fun e w'=>∃v,e=.returned (.tuple #[v,errV 0])∧(∀W:World,(∀k,w.heap.size≤k→k<w'.heap.size→W.heap[k]? =w'.heap[k]?)→OpsAt W v l)∧Below w.heap.size w w':=by
 have hmf:∀(fn:Fn) (first cap:Array Value) (w:World),(Instr.makeFunc fn first cap).run Tryz.prog w=.ok (.func fn first cap) w:=fun _ _ _ _=>rfl
 have C:=fun W=>reads_yes (W:=W) hn hs
 clear hn
 go_enter_defers Tryz.func128,Tryz.ntmps128
 go_wp2_with fail
 refine(C _).mono ?_
 rintro e w2 ⟨p,n,cc,rfl,hk,hb2⟩
 obtain⟨he,hbw,hsz⟩:=one_block hb2
 have HK:Hid (∀W:World,(∀k,w.heap.size+1≤k→k<w2.heap.size→W.heap[k]? =w2.heap[k]?)→OpsAt W (.slice p n cc) l):=by
  intro W hW
  refine hk W (fun k h1 h2=>hW k ?_ h2)
  simp at h1;omega
 have HE:=z9 he
 have HB:=z9 hbw
 have r6:w2.cell? ⟨w.heap.size,0,none⟩=some .nilIface:=cell_of he rfl
 have f6:w2.frozen? ⟨w.heap.size,0,none⟩=false:=free_of he
 clear hb2 C hk he hbw hsz
 go_wp2_with fail
 obtain⟨w4,hw4⟩:∃w4,w4=w2.setCell ⟨w.heap.size,0,none⟩ .nilIface:=⟨_,rfl⟩
 have k2:w4.heap[w.heap.size]? =some (.cells #[.nilIface] 25 (0,0)):=by
  rw[hw4];exact setCell_heap (cur:=#[.nilIface]) HE.out
 have k3:Below w.heap.size w w4:=by
  rw[hw4];exact HB.out.setCell (p:=⟨w.heap.size,0,none⟩) (by simp) _
 have k4:∀k,w.heap.size+1≤k→w4.heap[k]? =w2.heap[k]? :=by
  intro k hk
  rw[hw4,set_block _ _ _ _ (by simp;omega)]
 rw[←hw4]
 clear hw4 r6 f6
 refine leaves_cons (f:=164) (args:=#[.pointer (some ⟨w.heap.size,0,none⟩)]) (by simp) (by simp[go_sem]) ?_
 refine(idle_unp w.heap.size _ w4 k2).mono ?_
 rintro e u' w5 ⟨rfl,rfl,hw5⟩
 have h2:w5.heap[w.heap.size]? =some (.cells #[.nilIface] 25 (0,0)):=by
  rw[hw5];exact setCell_heap (cur:=#[.nilIface]) k2
 have h3:Below w.heap.size w w5:=by
  rw[hw5];exact k3.setCell (p:=⟨w.heap.size,0,none⟩) (by simp) _
 have h4:∀W:World,(∀k,w.heap.size≤k→k<w5.heap.size→W.heap[k]? =w5.heap[k]?)→OpsAt W (.slice p n cc) l:=by
  intro W hW
  refine HK.out W (fun k hk hk2=> ?_)
  have h9:w5.heap[k]? =w2.heap[k]? :=by
   rw[hw5,set_block _ _ _ _ (by simp;omega)]
   exact k4 k hk
  have h10:k<w5.heap.size:=by
   have h11:w2.heap[k]? =some w2.heap[k]:=Array.getElem?_eq_getElem hk2
   rw[←h9] at h11
   exact(Array.getElem?_eq_some_iff.1 h11).1
  rw[hW k (by omega) h10];exact h9
 have r6:w5.cell? ⟨w.heap.size,0,none⟩=some .nilIface:=cell_of h2 rfl
 clear hw5
 refine⟨.tuple #[.slice p n cc,errV 0], ?_,_,rfl,h4,h3⟩
 simp[results,Tryz.results128,go_sem,asAddr,Result.andThen,r6]
 rfl
end Vn
end Go.Proofs.YtlmdchpbpgcfmaaGreatDoor
