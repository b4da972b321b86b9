import Derived.Test.YtiamefgoeibhhaaGreatDoorJ14
import Derived.Test.YtiamefgoeibhhaaGreatDoorSh
import Derived.Test.YtiamefgoeibhhaaGreatDoorZ1
import Derived.Lib.AtoiErrMem
import Derived.Lib.AppendIntMem
import Derived.Lib.AtoiBound
import Derived.Test.YtiamefgoeibhhaaGreatDoorJ7
set_option linter.unusedVariables false
set_option maxRecDepth 100000
set_option maxHeartbeats 8000000
namespace Go.Proofs.YtiamefgoeibhhaaGreatDoor
namespace Di
open Go.ChangeShapes Go.WideShapes Go.ChangeAt Go.RowKit Za Db Dg
def tabName:String:=(Rows.runBeginsRow.laid.map (fun x=>x.1)).getD 2 (String.ofList [])
def Lib3 (w:World):Prop:=Lib.TabIs Tryz.prog w tabName .u64 Lib.pow10Tab∧(∃m,w.cell? ⟨1,0,none⟩=some (.int .i64 m))∧(∃tp p,w.var? Tryz.prog "strconv.ErrSyntax" =some #[.iface tp p])
theorem itoa_any (n:Int) (h0: -9223372036854775808≤n) (h1:n≤9223372036854775807) (w:World) (h:Lib3 w):
  Calls Tryz.prog 67 #[.int .i64 n] w fun e w'=>e=.returned (.string ⟨(Lib.itoa n).toArray⟩)∧Below w.heap.size w w':=by
 refine(Any.strconv_Itoa Tryz.laysM171 n h0 h1 w h.1).mono ?_
 rintro e w' ⟨rfl,k,os,rfl⟩
 exact⟨rfl,Lib.below_grow _ w (Nat.le_refl _) k os⟩
theorem atoi_yes (s:ByteArray) (n:Int) (hl:s.size≤9) (h:Lib.atoi s.data.toList=some n) (w:World):
  Calls Tryz.prog 66 #[.string s] w fun e w'=>e=.returned (.tuple #[.int .i64 n,.nilIface])∧Below w.heap.size w w':=by
 refine(Tryz.strconv_Atoi s n (by omega) h w).mono ?_
 rintro e w' ⟨rfl,t,rfl⟩
 exact⟨rfl,Lib.bytesWorld_below w _ t⟩
theorem atoi_no (s:ByteArray) (hl:s.size≤9) (h:Lib.atoi s.data.toList=none) (w:World) (hL:Lib3 w):
  Calls Tryz.prog 66 #[.string s] w fun e w'=>∃T N,e=.returned (.tuple #[.int .i64 0,.iface T (.pointer (some ⟨N,0,none⟩))])∧Below w.heap.size w w':=by
 obtain⟨tp,p,hv⟩:=hL.2.2
 refine(Tryz.strconv_Atoi_err_var s (by omega) h tp p w hv).mono ?_
 rintro e w' ⟨N,rfl,_,_,hb⟩
 exact⟨_,N,rfl,hb⟩
theorem var_below {w w':World} (hb:Below w.heap.size w w') {nm:String} {cs:Array Value} (hc:0<cs.size) (h:w.var? Tryz.prog nm=some cs):w'.var? Tryz.prog nm=some cs:=by
 unfold World.var? at h ⊢
 cases hg:Tryz.prog.globalNamed nm with
 | none=>rw[hg] at h;cases h
 | some g=>
  rw[hg] at h
  have hlt:g<w.heap.size:=by
   rcases Nat.lt_or_ge g w.heap.size with h2 | h2
   ·exact h2
   ·simp[Array.getElem?_eq_none h2] at h
  simp only[Option.bind_some] at h ⊢
  rw[hb.block g hlt];exact h
theorem Lib3.below {w w':World} (h:Lib3 w) (hb:Below w.heap.size w w'):Lib3 w':=by
 obtain⟨h1,⟨m,h2⟩,tp,p,h3⟩:=h
 refine⟨var_below hb (by decide) h1,⟨m, ?_⟩,tp,p,var_below hb (by simp) h3⟩
 rw[hb.cell (p:=⟨1,0,none⟩) (World.block_lt_of_cell? _ _ h2)];exact h2
def numD (D:Nat) (l:List UInt8):Option Int:=
 if D<l.length then none else match Lib.atoi l with
  | none=>none
  | some n=>if n<0 then none else if Lib.itoa n=l then some n else none
theorem numD_low {D:Nat} (hD:D≤9) {l:List UInt8} (h:l.length≤D):numD D l=Dm.numO l:=by
 unfold numD Dm.numO;rw[if_neg (by omega),if_neg (by omega)];rfl
theorem numD_parts {D:Nat} {l:List UInt8} {n:Int} (h:numD D l=some n):l.length≤D∧Lib.atoi l=some n∧0≤n∧Lib.itoa n=l:=by
 unfold numD at h
 by_cases h9:D<l.length
 ·rw[if_pos h9] at h;cases h
 ·rw[if_neg h9] at h
  cases ha:Lib.atoi l with
  | none=>rw[ha] at h;cases h
  | some k=>
   rw[ha] at h
   simp only at h
   by_cases hk:k<0
   ·rw[if_pos hk] at h;cases h
   ·rw[if_neg hk] at h
    by_cases hi:Lib.itoa k=l
    ·rw[if_pos hi] at h;injection h with h;subst h
     exact⟨by omega,rfl,by omega,hi⟩
    ·rw[if_neg hi] at h;cases h
theorem number_yes (D:Nat) (d:Int) (hD:D≤9) (hd:d=(D:Int)) (s:ByteArray) (n:Int) (w:World) (hL:Lib3 w) (h:numD D s.data.toList=some n):
  Calls Tryz.prog 45 #[.string s,.int .i64 d] w fun e w'=>e=.returned (.tuple #[.int .i64 n,.bool true])∧Below w.heap.size w w':=by
 obtain⟨h9,ha,h0,hi⟩:=numD_parts h
 have hsD:s.size≤D:=h9
 have hs9:s.size≤9:=by omega
 have hsd:(s.size:Int)≤d:=by omega
 have hbd:=Lib.atoi_bound ha (show s.data.toList.length≤18 from Nat.le_trans (show s.data.toList.length≤9 from hs9) (by decide))
 have hst:(⟨(Lib.itoa n).toArray⟩:ByteArray)=s:=by rw[hi]
 have C:=atoi_yes s n hs9 ha w
 have HI:Hid (∀w2,Below w.heap.size w w2→Calls Tryz.prog 67 #[.int .i64 n] w2 fun e w'=>e=.returned (.string s)∧Below w2.heap.size w2 w'):=by
  intro w2 hb
  have:=itoa_any n (by omega) (by omega) w2 (hL.below hb)
  rw[hst] at this;exact this
 clear h h9 ha hi hst hL hbd hd hD hsD
 go_enter Tryz.func45,Tryz.ntmps45
 go_wp2_with fail
 refine C.mono ?_
 rintro e w2 ⟨rfl,hb2⟩
 have C2:=HI.out w2 hb2
 have HB2:=z9 hb2
 clear C HI hb2
 go_wp2_with fail
 refine C2.mono ?_
 rintro e w3 ⟨rfl,hb3⟩
 have HB3:=z9 (bel HB2.out hb3)
 clear C2 hb3
 go_wp2_with fail
 go_ret2
 exact⟨rfl,HB3.out⟩
theorem number_no (D:Nat) (d:Int) (hD:D≤9) (hd:d=(D:Int)) (s:ByteArray) (w:World) (hL:Lib3 w) (h:numD D s.data.toList=none):
  Calls Tryz.prog 45 #[.string s,.int .i64 d] w fun e w'=>e=.returned (.tuple #[.int .i64 0,.bool false])∧Below w.heap.size w w':=by
 by_cases h9':s.size≤D
 ·have h9:s.size≤9:=by omega
  have hsd:(s.size:Int)≤d:=by omega
  have hl9:¬D<s.data.toList.length:=by
   have:s.data.toList.length=s.size:=rfl
   omega
  unfold numD at h
  rw[if_neg hl9] at h
  clear hD hd h9'
  cases ha:Lib.atoi s.data.toList with
  | none=>
   have C:=atoi_no s h9 ha w hL
   clear h ha hL hl9
   go_enter Tryz.func45,Tryz.ntmps45
   go_wp2_with fail
   refine C.mono ?_
   rintro e w2 ⟨T,N,rfl,hb2⟩
   have HB2:=z9 hb2
   clear C hb2
   go_wp2_with fail
   go_ret2
   exact⟨rfl,HB2.out⟩
  | some n=>
   rw[ha] at h
   simp only at h
   have C:=atoi_yes s n h9 ha w
   have hbd:=Lib.atoi_bound ha (show s.data.toList.length≤18 from Nat.le_trans (show s.data.toList.length≤9 from h9) (by decide))
   by_cases hn:n<0
   ·clear h ha hL hl9 hbd
    go_enter Tryz.func45,Tryz.ntmps45
    go_wp2_with fail
    refine C.mono ?_
    rintro e w2 ⟨rfl,hb2⟩
    have HB2:=z9 hb2
    clear C hb2
    go_wp2_with fail
    go_ret2
    exact⟨rfl,HB2.out⟩
   ·rw[if_neg hn] at h
    have hne:Lib.itoa n≠s.data.toList:=by
     intro e;rw[if_pos e] at h;cases h
    obtain⟨t,ht⟩:∃t:ByteArray,t=⟨(Lib.itoa n).toArray⟩:=⟨_,rfl⟩
    have htl:t.toList=Lib.itoa n:=by rw[ht,ByteArray.toList_eq]
    have hb1:(t.toList==s.toList)=false:=by
     rw[htl,ByteArray.toList_eq];simpa using hne
    have HI:Hid (∀w2,Below w.heap.size w w2→Calls Tryz.prog 67 #[.int .i64 n] w2 fun e w'=>e=.returned (.string t)∧Below w2.heap.size w2 w'):=by
     intro w2 hb
     have:=itoa_any n (by omega) (by omega) w2 (hL.below hb)
     rw[←ht] at this;exact this
    have hn0:0≤n:=by omega
    clear h ha hL hl9 hbd hne ht htl hn
    go_enter Tryz.func45,Tryz.ntmps45
    go_wp2_with fail
    refine C.mono ?_
    rintro e w2 ⟨rfl,hb2⟩
    have C2:=HI.out w2 hb2
    have HB2:=z9 hb2
    clear C HI hb2
    go_wp2_with fail
    refine C2.mono ?_
    rintro e w3 ⟨rfl,hb3⟩
    have HB3:=z9 (bel HB2.out hb3)
    clear C2 hb3
    go_wp2_with fail
    go_ret2
    exact⟨rfl,HB3.out⟩
 ·have hsd:d<(s.size:Int):=by omega
  clear h hL h9' hd hD
  go_enter Tryz.func45,Tryz.ntmps45
  go_wp2_with fail
  go_ret2
  exact⟨rfl,Below.refl _ _⟩
end Di
namespace Rx2
open Go.ChangeShapes Go.WideShapes Go.ChangeAt Go.RowKit Za Db Dg Di Rz1 Rx1
def formB (b1 b2 b3 b4 b5 b6 b7 b8 b9:Bool):Option Fm:=
 if b1 then some (true,true) else if b2||b3||b4||b5 then some (true,false) else if b6||b7||b8 then some (false,true) else if b9 then some (false,false) else none
theorem formB_eq (s:Tx):form s=formB (s==[116,121,112,101]) (s==[101,114,97,115,101]) (s==[99,117,116]) (s==[102,117,115,101]) (s==[115,101,110,100]) (s==[115,104,111,119]) (s==[112,97,114,116,115]) (s==[119,104,111]) (s==[115,97,109,101]):=by
 unfold form formB
 simp only[Bool.or_eq_true,beq_iff_eq,or_assoc]
 rfl
def fmV:Option Fm→Value
 | some (true,true)=> .agg #[.int .i64 2,.bool true]
 | some (true,false)=> .agg #[.int .i64 2,.bool false]
 | some (false,true)=> .agg #[.int .i64 1,.bool false]
 | some (false,false)=> .agg #[.int .i64 0,.bool false]
 | none=> .agg #[.int .i64 0,.bool false]
theorem form_any (s:ByteArray) (w:World):
  Calls Tryz.prog 43 #[.string s] w fun e w'=>e=.returned (.tuple #[fmV (form s.toList),.bool (form s.toList).isSome])∧Below w.heap.size w w':=by
 rw[formB_eq]
 obtain⟨b1,h1⟩:∃b,(s.toList==[116,121,112,101])=b:=⟨_,rfl⟩
 obtain⟨b2,h2⟩:∃b,(s.toList==[101,114,97,115,101])=b:=⟨_,rfl⟩
 obtain⟨b3,h3⟩:∃b,(s.toList==[99,117,116])=b:=⟨_,rfl⟩
 obtain⟨b4,h4⟩:∃b,(s.toList==[102,117,115,101])=b:=⟨_,rfl⟩
 obtain⟨b5,h5⟩:∃b,(s.toList==[115,101,110,100])=b:=⟨_,rfl⟩
 obtain⟨b6,h6⟩:∃b,(s.toList==[115,104,111,119])=b:=⟨_,rfl⟩
 obtain⟨b7,h7⟩:∃b,(s.toList==[112,97,114,116,115])=b:=⟨_,rfl⟩
 obtain⟨b8,h8⟩:∃b,(s.toList==[119,104,111])=b:=⟨_,rfl⟩
 obtain⟨b9,h9⟩:∃b,(s.toList==[115,97,109,101])=b:=⟨_,rfl⟩
 rw[h1,h2,h3,h4,h5,h6,h7,h8,h9]
 cases b1
 cases b2
 cases b3
 cases b4
 cases b5
 cases b6
 cases b7
 cases b8
 cases b9
 all_goals
  go_enter Tryz.func43,Tryz.ntmps43
  go_wp2
  first
   | (refine bodyPost_ret (v:=.tuple #[.agg #[.int .i64 2,.bool true],.bool true]) ?_ rfl ⟨rfl, ?_⟩;simp[results,Tryz.results43,go_sem,asAddr,Result.andThen];exact(Below.refl _ w).alloc (Nat.le_refl _) _)
   | (refine bodyPost_ret (v:=.tuple #[.agg #[.int .i64 2,.bool false],.bool true]) ?_ rfl ⟨rfl, ?_⟩;simp[results,Tryz.results43,go_sem,asAddr,Result.andThen];exact(Below.refl _ w).alloc (Nat.le_refl _) _)
   | (refine bodyPost_ret (v:=.tuple #[.agg #[.int .i64 1,.bool false],.bool true]) ?_ rfl ⟨rfl, ?_⟩;simp[results,Tryz.results43,go_sem,asAddr,Result.andThen];exact(Below.refl _ w).alloc (Nat.le_refl _) _)
   | (refine bodyPost_ret (v:=.tuple #[.agg #[.int .i64 0,.bool false],.bool true]) ?_ rfl ⟨rfl, ?_⟩;simp[results,Tryz.results43,go_sem,asAddr,Result.andThen];exact(Below.refl _ w).alloc (Nat.le_refl _) _)
   | (refine bodyPost_ret (v:=.tuple #[.agg #[.int .i64 0,.bool false],.bool false]) ?_ rfl ⟨rfl, ?_⟩;simp[results,Tryz.results43,go_sem,asAddr,Result.andThen];exact(Below.refl _ w).alloc (Nat.le_refl _) _)
def sp:ByteArray:=⟨#[32]⟩
def PcsAt (w:World) (g:Nat) (P:List Tx):Prop:=∀j,j<P.length→w.cell? ⟨g,j,none⟩=some (.string ⟨(P.getD j []).toArray⟩)
theorem PcsAt.below {w w':World} {g:Nat} {P:List Tx} (h:PcsAt w g P) (hb:Below w.heap.size w w'):PcsAt w' g P:=fun j hj=>by
 rw[hb.cell (p:=⟨g,j,none⟩) (World.block_lt_of_cell? _ _ (h j hj))];exact h j hj
theorem pcs_at {ws:List ByteArray} {P:List Tx} (h:ws.map (fun b=>b.data.toList)=P) {w:World} {t:TypeId} {N:Nat}:PcsAt (w.alloc (.cells (Lib.cellsOf ws N) t)) w.heap.size P:=by
 intro j hj
 have hl:ws.length=P.length:=by rw[←h,List.length_map]
 have hjw:j<ws.length:=by omega
 rw[World.cell?_alloc_new,Lib.cellsOf,List.getElem?_toArray,List.getElem?_append_left (by simpa using hjw),List.getElem?_map,List.getElem?_eq_getElem hjw,List.getD_eq_getElem?_getD,←h,List.getElem?_map,List.getElem?_eq_getElem hjw]
 rfl
theorem info9:(Tryz.prog.info? 9).map (fun i=>(i.zero,i.size,i.bytes))=some (some (.string ByteArray.empty),1,16):=by kernel_rfl
theorem sp_list:sp.data.toList=[32]:=rfl
theorem split_all (s:ByteArray) (w:World) (hs:s.size<4294967281) (hL:Lib3 w):
  Calls Tryz.prog 65 #[.string s,.string ⟨#[32]⟩,.int .i64 (-1)] w fun e w'=>∃c,e=.returned (.slice (some ⟨w.heap.size,0,none⟩) (alls s.toList).length c)∧PcsAt w' w.heap.size (alls s.toList)∧Below w.heap.size w w':=by
 obtain⟨m,hm⟩:=hL.2.1
 have h1:1≤sp.size:=Nat.le_refl 1
 have hle:=Lib.countB_le sp h1 s.size s (Nat.le_refl _)
 have hlen:=Lib.splitB_all sp h1 0 _ s rfl
 have c:Calls Tryz.prog 97 #[.string s,.string sp,.int .i64 0,.int .i64 (-1)] w _:=Any.strings_genSplit (ρ :=Tryz.lays147_ren) { Tryz.lays147 with } info9 s sp 0 (-1) (Lib.countB s sp+1) m w hs hm h1 (Nat.zero_le _) (by decide) (by decide) (by rw[if_pos (by decide)];omega)
 rw[Nat.add_sub_cancel] at c
 have hP:(Lib.splitB sp 0 (Lib.countB s sp) s).map (fun b=>b.data.toList)=alls s.toList:=by
  rw[Lib.splitB_data,sp_list,split_pcs]
  unfold alls
  rw[ByteArray.toList_eq];rfl
 have hl:(Lib.splitB sp 0 (Lib.countB s sp) s).length=(alls s.toList).length:=by rw[←hP,List.length_map]
 rw[hl] at c
 have HP:=z9 hP
 unfold sp at c
 clear hP hl hlen hle h1 hm hL hs
 go_enter Tryz.func65,Tryz.ntmps65
 go_wp2_with fail
 refine c.mono ?_
 rintro e w' ⟨rfl,hw⟩
 have HW:=z9 hw
 clear hw c
 go_wp2_with fail
 go_ret
 refine⟨_,rfl, ?_, ?_⟩
 ·rw[HW.out];exact pcs_at HP.out
 ·rw[HW.out];exact(Below.refl _ w).alloc (Nat.le_refl _) _
theorem split_four (s:ByteArray) (w:World) (hs:s.size<4294967281) (hL:Lib3 w):
  Calls Tryz.prog 65 #[.string s,.string ⟨#[32]⟩,.int .i64 4] w fun e w'=>∃c,e=.returned (.slice (some ⟨w.heap.size,0,none⟩) (pcs 3 s.toList).length c)∧PcsAt w' w.heap.size (pcs 3 s.toList)∧Below w.heap.size w w':=by
 obtain⟨m,hm⟩:=hL.2.1
 have c:=Tryz.strings_SplitN s sp 4 m w hs hm (Nat.le_refl 1) (by decide) (by decide)
 have hP:(Lib.splitB sp 0 (min 4 (s.size+1)-1) s).map (fun b=>b.data.toList)=pcs 3 s.toList:=by
  rw[Lib.splitB_data,sp_list,←splitN_pcs 3,Om.len_eq,ByteArray.toList_eq]
 have hl:(Lib.splitB sp 0 (min 4 (s.size+1)-1) s).length=(pcs 3 s.toList).length:=by rw[←hP,List.length_map]
 refine c.mono ?_
 rintro e w' ⟨rfl,rfl⟩
 refine⟨min 4 (s.size+1),by rw[hl],pcs_at hP,(Below.refl _ w).alloc (Nat.le_refl _) _⟩
theorem cut_txt (s:ByteArray) (w:World) (hs:s.size<4294967281) (hL:Lib3 w):
  Calls Tryz.prog 44 #[.agg #[.int .i64 2,.bool true],.string s] w fun e w'=>∃(g c n:Nat),e=.returned (.tuple #[.slice (some ⟨g,0,none⟩) n c,.bool ((n:Int)==4)])∧Hid (n=(pcs 3 s.toList).length)∧Hid (PcsAt w' g (pcs 3 s.toList))∧Below w.heap.size w w'∧w.heap.size≤g:=by
 have HB0:Hid (Below w.heap.size w (w.alloc (.cells #[.int .i64 2,.bool true] 115))):=(Below.refl _ w).alloc (Nat.le_refl _) _
 have C:=split_four s (w.alloc (.cells #[.int .i64 2,.bool true] 115)) hs (hL.below HB0.out)
 obtain⟨n,hn⟩:∃n,n=(pcs 3 s.toList).length:=⟨_,rfl⟩
 rw[←hn] at C
 have HN:=z9 hn
 clear hL hs hn
 go_enter Tryz.func44,Tryz.ntmps44
 go_wp2_with fail
 refine C.mono ?_
 rintro e w1 ⟨c,rfl,hp,hb1⟩
 have HP:=z9 hp
 have HB1:=z9 (La.bel HB0.out hb1)
 clear C hp hb1
 go_wp2_with fail
 go_ret2
 exact⟨_,c,n,rfl,HN,by have h9:=HP.out;rw[World.size_alloc] at h9;exact h9,HB1.out,Nat.le_succ _⟩
theorem cut_all (k:Int) (hk0:0≤k) (hk2:k≤2) (s:ByteArray) (w:World) (hs:s.size<4294967281) (hL:Lib3 w):
  Calls Tryz.prog 44 #[.agg #[.int .i64 k,.bool false],.string s] w fun e w'=>∃(g c n:Nat),e=.returned (.tuple #[.slice (some ⟨g,0,none⟩) n c,.bool ((n:Int)==1+k)])∧Hid (n=(alls s.toList).length)∧Hid (PcsAt w' g (alls s.toList))∧Below w.heap.size w w'∧w.heap.size≤g:=by
 have HB0:Hid (Below w.heap.size w (w.alloc (.cells #[.int .i64 k,.bool false] 115))):=(Below.refl _ w).alloc (Nat.le_refl _) _
 have C:=split_all s (w.alloc (.cells #[.int .i64 k,.bool false] 115)) hs (hL.below HB0.out)
 obtain⟨n,hn⟩:∃n,n=(alls s.toList).length:=⟨_,rfl⟩
 rw[←hn] at C
 have HN:=z9 hn
 clear hL hs hn
 go_enter Tryz.func44,Tryz.ntmps44
 go_wp2_with fail
 refine C.mono ?_
 rintro e w1 ⟨c,rfl,hp,hb1⟩
 have HP:=z9 hp
 have HB1:=z9 (La.bel HB0.out hb1)
 clear C hp hb1
 go_wp2_with fail
 go_ret2
 exact⟨_,c,n,rfl,HN,by have h9:=HP.out;rw[World.size_alloc] at h9;exact h9,HB1.out,Nat.le_succ _⟩
end Rx2
end Go.Proofs.YtiamefgoeibhhaaGreatDoor
