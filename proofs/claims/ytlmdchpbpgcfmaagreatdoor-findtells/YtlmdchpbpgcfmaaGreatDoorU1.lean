import Derived.Test.YtlmdchpbpgcfmaaGreatDoorJ13
import Derived.Test.YtlmdchpbpgcfmaaGreatDoorU0
set_option linter.unusedVariables false
set_option maxRecDepth 100000
set_option maxHeartbeats 8000000
/- Ops that lie in blocks of a kind; what edit.Do answers. -/
namespace Go.Proofs.YtlmdchpbpgcfmaaGreatDoor
namespace Ua
open Go.ChangeShapes Go.WideShapes Go.ChangeAt Go.RowKit Cm Ka Kb Na Om Oa Oz Oc Og Oi Hm Ia Ib Ic Idc Ie If Ig Ih Ii Ij Ik Il Im Um
open La (bel bel_drew errV_zero errV_ne own_ge own_grow own_below Lies)
open Lj (BookAt BookNew)
/- op j of a row at b, o; its list lies in blocks of G -/
def OSt (G:Nat→Prop) (w:World) (b o j:Nat) (x:Ox):Prop:=∃v,(w.cell? ⟨b,o+j*6,none⟩=some (.int .i64 x.1.1)∧w.cell? ⟨b,o+j*6+1,none⟩=some (.int .i64 x.1.2)∧w.cell? ⟨b,o+j*6+2,none⟩=some (.int .i64 x.2.1)∧w.cell? ⟨b,o+j*6+3,none⟩=some (.string x.2.2.1)∧w.cell? ⟨b,o+j*6+4,none⟩=some (.int .i64 x.2.2.2.1)∧w.cell? ⟨b,o+j*6+5,none⟩=some v)∧DtsAt w v x.2.2.2.2∧In G v
def OpsI (G:Nat→Prop) (w:World) (p:Option Addr) (l:List Ox):Prop:=l=[]∨∃b o,p=some ⟨b,o,none⟩∧G b∧∀j,j<l.length→OSt G w b o j (l.getD j oz)
def OpsG (G:Nat→Prop) (w:World) (v:Value) (l:List Ox):Prop:=∃p c,v=.slice p l.length c∧OpsI G w p l∧l.length≤c∧c≤maxLen∧(p=none→c=0)
theorem OpsI.stay {G:Nat→Prop} {w w':World} {p:Option Addr} {l:List Ox} (h:OpsI G w p l) (hs:Stay G w w'):OpsI G w' p l:=by
 rcases h with e | ⟨b,o,hp,hG,hc⟩
 ·exact Or.inl e
 ·refine Or.inr ⟨b,o,hp,hG,fun j hj=> ?_⟩
  obtain⟨v,⟨h0,h1,h2,h3,h4,h5⟩,hd,hi⟩:=hc j hj
  have hg:=hs b hG
  exact⟨v,⟨(cell_stay hg).trans h0,(cell_stay hg).trans h1,(cell_stay hg).trans h2,(cell_stay hg).trans h3,(cell_stay hg).trans h4,(cell_stay hg).trans h5⟩,dots_stay hd hi hs,hi⟩
theorem OpsG.stay {G:Nat→Prop} {w w':World} {v:Value} {l:List Ox} (h:OpsG G w v l) (hs:Stay G w w'):OpsG G w' v l:=by
 obtain⟨p,c,h1,h2,h3⟩:=h
 exact⟨p,c,h1,h2.stay hs,h3⟩
theorem OpsI.some {G:Nat→Prop} {w:World} {p:Option Addr} {l:List Ox} (h:OpsI G w p l) (hl:l≠[]):∃b o,p=some ⟨b,o,none⟩∧G b∧∀j,j<l.length→OSt G w b o j (l.getD j oz):=by
 rcases h with h | h
 ·exact absurd h hl
 ·exact h
theorem OpsG.at{G:Nat→Prop} {w:World} {v:Value} {l:List Ox} (h:OpsG G w v l):OpsAt w v l:=by
 obtain⟨p,c,h1,h2,h3⟩:=h
 refine⟨p,c,h1, ?_,h3⟩
 rcases h2 with e | ⟨b,o,hp,_,hc⟩
 ·exact Or.inl e
 ·refine Or.inr ⟨b,o,hp,fun j hj=> ?_⟩
  obtain⟨v,h6,hd,_⟩:=hc j hj
  exact⟨v,h6,hd⟩
theorem OpsG.nil (G:Nat→Prop) (w:World):OpsG G w (.slice none 0 0) []:=⟨none,0,rfl,Or.inl rfl,Nat.le_refl _,by unfold maxLen;omega,fun _=>rfl⟩
theorem OpsG.mono {G H:Nat→Prop} {w:World} {v:Value} {l:List Ox} (h:OpsG G w v l) (hs:∀g,G g→H g):OpsG H w v l:=by
 obtain⟨p,c,h1,h2,h3⟩:=h
 refine⟨p,c,h1, ?_,h3⟩
 rcases h2 with e | ⟨b,o,hp,hG,hc⟩
 ·exact Or.inl e
 ·refine Or.inr ⟨b,o,hp,hs b hG,fun j hj=> ?_⟩
  obtain⟨v,h6,hd,hi⟩:=hc j hj
  exact⟨v,h6,hd,hi.mono hs⟩
theorem dts_in {w:World} {v:Value} {l:List Dt} (h:DtsAt w v l):In (fun g=>g<w.heap.size) v:=fun a n c e hn=>by
 obtain⟨q,c2,hv,hin,_⟩:=h
 rw[e] at hv
 injection hv with e1 e2 e3
 rcases hin with e0 | ⟨bb,oo,hp9,hcs⟩
 ·rw[e0] at e2;simp at e2;omega
 ·rw[hp9] at e1
  injection e1 with e1
  rw[e1]
  exact(hcs 0 (by omega)).lt
/- ops that came in -/
theorem OpsG.old {w:World} {v:Value} {l:List Ox} (h:OpsAt w v l):OpsG (fun g=>g<w.heap.size) w v l:=by
 obtain⟨p,c,h1,h2,h3⟩:=h
 refine⟨p,c,h1, ?_,h3⟩
 rcases h2 with e | ⟨b,o,hp,hc⟩
 ·exact Or.inl e
 ·by_cases e0:l=[]
  ·exact Or.inl e0
  ·refine Or.inr ⟨b,o,hp,(hc 0 (List.length_pos_iff.2 e0)).lt,fun j hj=> ?_⟩
   obtain⟨v,h6,hd⟩:=hc j hj
   exact⟨v,h6,hd,dts_in hd⟩
/- ops that were made -/
theorem OpsG.new {B:Nat} {w:World} {v:Value} {l:List Ox} (h:OpsNew B w v l):OpsG (fun g=>B≤g∧g<w.heap.size) w v l:=by
 have hat:=h.at
 obtain⟨g,L,rfl,hg,hL,hr,hl,ho⟩:=h
 have hgl:g<w.heap.size:=by obtain⟨cur,h1,_⟩:=hr;exact(Array.getElem?_eq_some_iff.1 h1).1
 obtain⟨p,c,e,hin,h3⟩:=hat
 injection e with e1 e2 e3
 refine⟨some ⟨g,0,none⟩,l.length,rfl,Or.inr ⟨g,0,rfl,⟨hg,hgl⟩,fun j hj=> ?_⟩,Nat.le_refl _,by unfold maxLen;omega,fun e=>by cases e⟩
 have hj2:j<L.length:=by rw[←hL,List.length_map] at hj;exact hj
 have hy:=List.getElem?_eq_getElem hj2
 have e9:l.getD j oz=L[j].1:=by rw[←hL,List.getD_eq_getElem?_getD,List.getElem?_map,hy];rfl
 rw[e9]
 have key:=hr.at hy
 have hw:=ho _ (List.getElem_mem hj2)
 refine⟨L[j].2,⟨?_, ?_, ?_, ?_, ?_, ?_⟩,own_dts hw,fun a n c e hn=> ?_⟩
 ·have:=key 0 _ rfl;rwa [show j*6+0=0+j*6 by omega] at this
 ·have:=key 1 _ rfl;rwa [show j*6+1=0+j*6+1 by omega] at this
 ·have:=key 2 _ rfl;rwa [show j*6+2=0+j*6+2 by omega] at this
 ·have:=key 3 _ rfl;rwa [show j*6+3=0+j*6+3 by omega] at this
 ·have:=key 4 _ rfl;rwa [show j*6+4=0+j*6+4 by omega] at this
 ·have:=key 5 _ rfl;rwa [show j*6+5=0+j*6+5 by omega] at this
 ·exact⟨Lies.own hw a n c e hn,(own_lt hw a.block (by rw[e];rfl)).1⟩
def DoPost (w:World) (D:Nat) (S:Dq) (F:Nat→Prop) (L:List Ox) (e:Ending) (w':World):Prop:=
 e=.returned (errV (runE S L))∧∃F',DocAt w' D (runS S L) F'∧Chg F w w'∧∀g,F' g→F g∨w.heap.size≤g
theorem do_any (D:Nat) (S:Dq) (F G:Nat→Prop) (v:Value) (L:List Ox) (w:World) (h:DocAt w D S F) (ho:OpsG G w v L) (hG:∀g,G g→g<w.heap.size∧¬F g) (hsz:∀x ∈ L,x.2.2.1.size≤maxLen):
  Calls Tryz.prog 46 #[.pointer (some ⟨D,0,none⟩),v] w (DoPost w D S F L):=by
 obtain⟨q,c,rfl,hin,hlc,hcm,_⟩:=ho
 obtain⟨n,hn⟩:∃n,n=L.length:=⟨_,rfl⟩
 have hnm:n≤maxLen:=by omega
 have hnz:(n:Int)≤9223372036854775807:=by unfold maxLen at hnm;omega
 rw[←hn]
 have HN:=z9 hn.symm
 have HI:=z9 hin
 have HG:=z9 hG
 have HSZ:=z9 hsz
 have HD0:=z9 h
 clear h hin hG hsz hn hlc hcm
 go_enter Tryz.func46,Tryz.ntmps46
 go_wp2_with fail
 go_loopw [11] (fun vi wr=>∃(k:Nat) (Fk:Nat→Prop),k≤n∧vi=.int .i64 k∧Hid (DocAt wr D (runS S (L.take k)) Fk)∧Hid (∀g,Fk g→F g∨w.heap.size≤g)∧Hid (Chg F w wr)∧Hid (runE S (L.take k)=0)) (fun vi _=>n-(intOf vi).toNat)
 case atStart=>exact⟨0,F,by omega,rfl,HD0,fun g hg=>Or.inl hg,Chg.refl _ _,rfl⟩
 case round=>
  clear HD0
  obtain⟨k,Fk,hk,rfl,HDk,HFk,HCk,HEk⟩:=hrel
  by_cases hlt:k<n
  ·have hltz:(k:Int)<n:=by omega
   have hkl:k<L.length:=by rw[HN.out];exact hlt
   obtain⟨bo,oo,rfl,_,hc⟩:=(HI.out.stay (HCk.out.stay HG.out)).some (by intro e;rw[e] at hkl;simp at hkl)
   have ha:=hc k hkl
   have hxm:=HSZ.out _ (getO_mem hkl)
   obtain⟨hr1,hr2⟩:=run_go (S:=S) hkl HEk.out
   have hst:=run_stop (S:=S) hkl HEk.out
   obtain⟨x,hx⟩:∃x,x=L.getD k oz:=⟨_,rfl⟩
   rw[←hx] at ha hxm hr1 hr2 hst
   have HR1:=z9 hr1
   have HR2:=z9 hr2
   have HST:=z9 hst
   obtain⟨⟨xa,xb⟩,xt,xp,xc,xs⟩:=x
   obtain⟨vx,⟨a0,a1,a2,a3,a4,a5⟩,hdx,hix⟩:=ha
   simp only at a0 a1 a2 a3 a4 a5 hdx hxm
   obtain⟨pv,nv,cv,rfl⟩:∃pv nv cv,vx=.slice pv nv cv:=by obtain⟨_,_,e9,_⟩:=hdx;exact⟨_,_,_,e9⟩
   have hoff:In (fun g=>¬Fk g) (.slice pv nv cv):=hix.mono fun g hg hf=>by
    obtain⟨q1,q2⟩:=HG.out g hg
    rcases HFk.out g hf with e | e
    ·exact q2 e
    ·omega
   have HBX:Hid (Below wr.heap.size wr (wr.alloc (.cells #[.int .i64 xa,.int .i64 xb,.int .i64 xt,.string xp,.int .i64 xc,.slice pv nv cv] 75))):=(Below.refl _ _).alloc (Nat.le_refl _) _
   obtain⟨Sk,hSk⟩:∃Sk,Sk=runS S (L.take k):=⟨_,rfl⟩
   rw[←hSk] at HR1 HR2 HST HDk
   have C:=apply_any D Sk Fk xa xb xt xp xc (.slice pv nv cv) xs _ (HDk.out.below HBX.out) (hdx.below HBX.out) hoff hxm
   obtain⟨e0,e1,e2,e3,e4,e5⟩:=six_new wr xa xb xt xp xc (.slice pv nv cv) 75
   clear hc hx hkl hdx hxm hr1 hr2 hst hoff hix hSk
   go_wp2_with fail
   refine C.mono ?_
   rintro e w7 ⟨he,_,F7,hd7,hc7,hf7⟩
   have HC7:Hid (Chg F w w7):=(HCk.out.trans (Chg.ofBelow HBX.out F)).next hc7 HFk.out
   have HF7:Hid (∀g,F7 g→F g∨w.heap.size≤g):=fun g hg=>by
    rcases hf7 g hg with e | e
    ·exact HFk.out g e
    ·exact Or.inr (Nat.le_trans HCk.out.size (Nat.le_trans HBX.out.size e))
   obtain⟨bn,hbn⟩:∃bn,bn=isNew Sk ((xa,xb),xt,xp,xc,xs):=⟨_,rfl⟩
   rw[←hbn] at he
   by_cases hz:apE Sk ((xa,xb),xt,xp,xc,xs)=0
   ·rw[hz,errV_zero] at he
    subst he
    have HD7:Hid (DocAt w7 D (runS S (L.take (k+1))) F7):=by unfold Hid;rw[HR2.out hz];exact hd7
    have HE7:Hid (runE S (L.take (k+1))=0):=by unfold Hid;rw[HR1.out,hz]
    clear hd7 hc7 hf7 hbn hz C a0 a1 a2 a3 a4 a5 e0 e1 e2 e3 e4 e5
    go_wp2_with fail
    go_roundw
    case rel=>exact⟨k+1,F7,by omega,by go_num,HD7,HF7,HC7,HE7⟩
    case measure=>simp[intOf];omega
   ·obtain⟨z1,z2⟩:=HST.out hz
    rw[errV_ne hz] at he
    have HEE:Hid (errV (runE S L)=.iface 84 (.int .i64 (apE Sk ((xa,xb),xt,xp,xc,xs)))):=by unfold Hid;rw[z1,errV_ne hz]
    have HD7:Hid (DocAt w7 D (runS S L) F7):=by unfold Hid;rw[stay_wrong hz] at hd7;rw[z2];exact hd7
    obtain⟨ez,hez⟩:∃ez,ez=apE Sk ((xa,xb),xt,xp,xc,xs):=⟨_,rfl⟩
    rw[←hez] at he HEE
    subst he
    clear hd7 hc7 hf7 hbn hz C a0 a1 a2 a3 a4 a5 e0 e1 e2 e3 e4 e5 z1 z2 hez HR1 HR2 HST
    go_wp2_with fail
    go_ret
    exact⟨by rw[HEE.out];rfl,F7,HD7.out,HC7.out,HF7.out⟩
  ·obtain rfl:n=k:=by omega
   have hltz:¬(n:Int)<n:=by omega
   have htk:Hid (L.take n=L):=by unfold Hid;rw[←HN.out,List.take_length]
   go_wp2_with fail
   go_ret
   rw[htk.out] at HDk HEk
   exact⟨by rw[HEk.out];rfl,Fk,HDk.out,HCk.out,HFk.out⟩
end Ua
end Go.Proofs.YtlmdchpbpgcfmaaGreatDoor
/- Package edit: checkWho, seenPlaces, around, placeAt, checkText. -/
namespace Go.Proofs.YtlmdchpbpgcfmaaGreatDoor
namespace Ub
open Go.ChangeShapes Go.WideShapes Go.ChangeAt Go.RowKit Cm Ka Kb Na Om Oa Oz Oc Og Oi Hm Ia Ib Ic Idc Ie If Ig Ih Ii Ij Ik Il Im Um Ua
open La (bel bel_drew errV_zero errV_ne own_ge own_grow own_below Lies LeafsIn)
open Lj (BookAt BookNew)
theorem who_ok (n:Int) (w:World) (h1:1≤n) (h8:n≤8):Calls Tryz.prog 88 #[.int .i64 n] w fun e w'=>e=.returned .nilIface∧w'=w:=by
 go_enter Tryz.func88,Tryz.ntmps88
 go_wp2
 go_ret
 exact⟨rfl,rfl⟩
theorem who_no (n:Int) (w:World) (h:n<1∨8<n):Calls Tryz.prog 88 #[.int .i64 n] w fun e w'=>e=.returned (.iface 84 (.int .i64 1))∧w'=w:=by
 rcases h with h | h
 ·go_enter Tryz.func88,Tryz.ntmps88
  go_wp2
  go_ret
  exact⟨rfl,rfl⟩
 ·have h2:¬n<1:=by omega
  go_enter Tryz.func88,Tryz.ntmps88
  go_wp2
  go_ret
  exact⟨rfl,rfl⟩
theorem isWho_iff {n:Int}:Pm.isWho n=true↔1≤n∧n≤8:=by unfold Pm.isWho;simp
theorem isWho_no {n:Int}:Pm.isWho n=false↔n<1∨8<n:=by
 cases h:Pm.isWho n with
 | true=>have:=isWho_iff.1 h;simp;omega
 | false=>
  simp
  by_cases h1:1≤n∧n≤8
  ·rw[isWho_iff.2 h1] at h;cases h
  ·omega
theorem infoStr:(Tryz.prog.info? 9).map (fun i=>(i.zero,i.size,i.bytes))=some (some (.string ByteArray.empty),1,16):=by kernel_rfl
/- places in memory -/
def TxAt (B:Nat) (w:World) (v:Value) (l:List ByteArray):Prop:=w.ownsRow B 9 1 v l.length (l.map Value.string)
theorem TxAt.below {B:Nat} {w w':World} {v:Value} {l:List ByteArray} (h:TxAt B w v l) (hb:Below w.heap.size w w'):TxAt B w' v l:=own_below h hb
theorem TxAt.row {B:Nat} {w:World} {v:Value} {l:List ByteArray} (h:TxAt B w v l):w.ownsRow B 9 1 v l.length (l.map Value.string):=h
theorem TxAt.cells {B:Nat} {w:World} {v:Value} {l:List ByteArray} (h:TxAt B w v l) (hn:0<l.length):∃g c,v=.slice (some ⟨g,0,none⟩) l.length c∧B≤g∧l.length≤c∧c≤maxLen∧∀j,j<l.length→w.cell? ⟨g,j,none⟩=some (.string (l.getD j ⟨#[]⟩)):=by
 have h':=h.row
 rcases h.2 with⟨e,e0⟩ | ⟨g,cap,cur,rfl,h1,h2,h3,h4,h5,h6⟩
 ·omega
 ·refine⟨g,cap,rfl,h1,h3,h4,fun j hj=> ?_⟩
  have:=h'.cells (g:=g) rfl j (.string (l.getD j ⟨#[]⟩)) (by rw[List.getElem?_map,List.getElem?_eq_getElem hj,List.getD_eq_getElem?_getD,List.getElem?_eq_getElem hj];rfl)
  rw[Addr.add_lit,Nat.zero_add] at this
  exact this
theorem TxAt.shape {B:Nat} {w:World} {v:Value} {l:List ByteArray} (h:TxAt B w v l):∃p c,v=.slice p l.length c∧l.length≤maxLen:=by
 rcases h.2 with⟨e,e0⟩ | ⟨g,cap,cur,e,h1,h2,h3,h4,_⟩
 ·exact⟨none,0,by rw[e,e0],by rw[e0];unfold maxLen;omega⟩
 ·exact⟨_,_,e,by omega⟩
theorem own_str {w:World} {B:Nat} {t:TypeId} {v:Value} {tx:List ByteArray} {s:ByteArray} (h:w.ownsRow B t 1 v (tx.length+1) (tx.map Value.string++[.string s])):w.ownsRow B t 1 v (tx++[s]).length ((tx++[s]).map Value.string):=by
 rw[List.length_append,List.map_append];exact h
theorem places_any (v:Value) (l:List Bm.Leaf) (w:World) (h:BookAt w v l) (hn3:l.length≤1000):
  Calls Tryz.prog 120 #[v] w fun e w'=>∃v',e=.returned v'∧TxAt w.heap.size w' v' (seenP l)∧Below w.heap.size w w':=by
 obtain⟨q,c,rfl,hin,_⟩:=h
 obtain⟨n,hn⟩:∃n,n=l.length:=⟨_,rfl⟩
 rw[←hn]
 have hn4:n≤1000:=by omega
 have HL:=z9 hn.symm
 have HI:=z9 hin
 obtain⟨i0,hi,hz0,hz1,hz2⟩:=info_parts infoStr
 clear hin hn hn3
 go_enter Tryz.func120,Tryz.ntmps120
 go_wp2
 go_loopw [3,8] (fun v i wr=>∃(k:Nat),k≤n∧i=.int .i64 k∧Hid (TxAt w.heap.size wr v (seenP (l.take k)))∧Hid (Below w.heap.size w wr)) (fun _ i _=>n-(intOf i).toNat)
 case atStart=>exact⟨0,by omega,rfl,World.ownsRow_nil _ _ _ _,Below.refl _ _⟩
 case round=>
  obtain⟨k,hk,rfl,HW,HB⟩:=hrel
  by_cases hlt:k<n
  ·have hltz:(k:Int)<n:=by omega
   obtain⟨b,o,rfl,hc⟩:=HI.out.some (by intro e;have:=HL.out;rw[e] at this;simp at this;omega)
   have hkl:k<l.length:=by rw[HL.out];exact hlt
   have ha:=(hc k hkl).below HB.out (hc k hkl).lt
   have hy1:=seenP_yes hkl
   have hy2:=seenP_no hkl
   have htl:(seenP (l.take k)).length≤1000:=by
    have h1:=seenP_le (l.take k)
    rw[List.length_take] at h1
    omega
   obtain⟨x,hx⟩:∃x,x=l.getD k Bm.none0:=⟨_,rfl⟩
   rw[←hx] at ha hy1 hy2
   have HY1:=z9 hy1
   have HY2:=z9 hy2
   obtain⟨sx,nx,bx⟩:=x
   obtain⟨a1,a2,a3⟩:=ha
   clear hc hx hy1 hy2
   simp only at a1 a2 a3
   have C:=Lb.isSeen_any sx nx bx (wr.alloc (.cells #[.string sx,.int .i64 nx,.bool bx] 53))
   obtain⟨tx,htx⟩:∃tx,tx=seenP (l.take k):=⟨_,rfl⟩
   rw[←htx] at HW HY1 HY2 htl
   cases hse:Bm.isS (sx,nx,bx)
   ·rw[hse] at C
    have HW2:Hid (TxAt w.heap.size wr u3 (seenP (l.take (k+1)))):=by
     unfold Hid;rw[HY2.out hse];exact HW.out
    clear hse htx HY1 HY2
    go_wp2_with fail
    refine C.mono ?_
    rintro e w2 ⟨rfl,hb2⟩
    have HB2:=z9 (Lc.bel_new HB.out hb2)
    have HW3:Hid (TxAt w.heap.size w2 u3 (seenP (l.take (k+1)))):=own_below (HW2.out.alloc _) hb2
    clear hb2 C a1 a2 a3
    go_wp2_with fail
    go_roundw
    case rel=>exact⟨k+1,by omega,by go_num,HW3,HB2⟩
    case measure=>simp[intOf];omega
   ·rw[hse] at C
    have HT:=z9 (HY1.out hse)
    clear hse htx HY1 HY2
    go_wp2_with fail
    refine C.mono ?_
    rintro e w2 ⟨rfl,hb2⟩
    have HB2:=z9 (Lc.bel_new HB.out hb2)
    have d1:=(Lc.new_cell (x:=(sx,nx,bx)) hb2).1
    simp only at d1
    have HW3:Hid (w2.ownsRow w.heap.size 9 1 u3 tx.length (tx.map Value.string)):=own_below (HW.out.alloc _) hb2
    clear hb2 C a1 a2 a3
    go_wp2_with (at_builtin;refine wpList_append_own_at _ rfl (.tmp 14) (.tmp 17) 35 rfl w.heap.size 9 i0 (.string ByteArray.empty) 1 16 Tryz.underlying35 hi hz0 hz1 hz2 rfl (by decide) u3 _ _ rfl (HW3.out.alloc _) ⟨w2.heap.size,0,none⟩ 1 1 [.string sx] rfl rfl (cell_one_new _ _ _) (by intro u hu;simp at hu;subst hu;rfl) (by unfold maxLen;omega) (by omega) (by have:=HB2.out.size;simp;omega) ?_;intro v' w3 hown' hgrow _ hat;have HB3:Hid (Below w.heap.size w w3):=(own_grow HW3.out (HB2.out.alloc HB2.out.size _) hgrow (by have:=HB2.out.size;simp;omega));have HW4:Hid (TxAt w.heap.size w3 v' (seenP (l.take (k+1)))):=(by unfold Hid;rw[HT.out];exact own_str hown');clear hown' hgrow hat)
    go_roundw
    case rel=>exact⟨k+1,by omega,by go_num,HW4,HB3⟩
    case measure=>simp[intOf];omega
  ·obtain rfl:k=n:=by omega
   have HW2:Hid (TxAt w.heap.size wr u3 (seenP l)):=by
    have:=HW.out
    rwa [List.take_of_length_le (by rw[HL.out];exact Nat.le_refl _)] at this
   go_wp2_with fail
   go_ret
   exact⟨_,rfl,HW2.out,HB.out⟩
/- the letter ahead of an offset is found where it stands -/
theorem find_left {l:List Bm.Leaf} (hb:Bm.bookE l=0) {off:Nat} (h:off≤(seenP l).length) (h0:0<off):Bm.ahd l (leftP l off).toList+1=nxt l off:=by
 obtain⟨_,_,hr⟩:=Bm.bookE_zero.1 hb
 obtain⟨c1,c2,c3⟩:=cut_off h
 obtain⟨d1,d2,_⟩:=c3 h0
 have hi:nxt l off-1<l.length:=by omega
 have:Bm.ahd l (leftP l off).toList=nxt l off-1:=by
  refine Bm.ahead_eq hr (by omega) (fun j hj=> ?_) (fun j hj hl=> ?_)
  ·rw[←d2];exact Bm.rise_lt hr hj hi
  ·rw[←d2]
   rcases Nat.lt_or_eq_of_le hj with e | e
   ·exact Bm.less_asymm (Bm.rise_lt hr e hl)
   ·rw[←e];exact Bm.less_irrefl _
 omega
theorem left_at {l:List Bm.Leaf} {off:Nat} (h0:0<off):leftP l off=(seenP l).getD (off-1) ⟨#[]⟩:=by unfold leftP;rw[if_neg (by omega)]
theorem around_no (v:Value) (l:List Bm.Leaf) (off:Int) (w:World) (h:BookAt w v l) (hb:Bm.bookE l=0) (ho:aroundE l off≠0):
  Calls Tryz.prog 90 #[v,.int .i64 off] w fun e w'=>e=.returned (.tuple #[.string ⟨#[]⟩,.string ⟨#[]⟩,.iface 84 (.int .i64 1)])∧Below w.heap.size w w':=by
 have hl3:=(Bm.bookE_zero.1 hb).1
 have C:=places_any v l w h (by omega)
 have hor:off<0∨(¬off<0∧((seenP l).length:Int)<off):=by
  by_cases h1:off<0
  ·exact Or.inl h1
  ·by_cases h2:((seenP l).length:Int)<off
   ·exact Or.inr ⟨h1,h2⟩
   ·exact absurd (aroundE_zero.2 ⟨by omega,by omega⟩) ho
 obtain⟨q,n,c,rfl⟩:∃q n c,v=.slice q n c:=by obtain⟨p,c,e,_⟩:=h;exact⟨_,_,_,e⟩
 obtain⟨m,hm⟩:∃m,m=(seenP l).length:=⟨_,rfl⟩
 rw[←hm] at hor
 have HM:=z9 hm
 clear h hb ho hl3 hm
 rcases hor with h1 | ⟨h1,h2⟩
 all_goals
  go_enter Tryz.func90,Tryz.ntmps90
  go_wp2_with fail
  refine C.mono ?_
  rintro e w1 ⟨v1,rfl,ht1,hb1⟩
  obtain⟨p1,c1,rfl,hmx⟩:=ht1.shape
  rw[←HM.out] at hmx ⊢
  have HB1:=z9 hb1
  clear ht1 hb1 C
  go_wp2_with fail
  go_ret3
  exact⟨rfl,HB1.out⟩
theorem around_ok (v:Value) (l:List Bm.Leaf) (off:Nat) (w:World) (h:BookAt w v l) (hb:Bm.bookE l=0) (ho:off≤(seenP l).length):
  Calls Tryz.prog 90 #[v,.int .i64 off] w fun e w'=>e=.returned (.tuple #[.string (leftP l off),.string (rightP l off),.nilIface])∧Below w.heap.size w w':=by
 have hl3:=(Bm.bookE_zero.1 hb).1
 have C:=places_any v l w h (by omega)
 have HBK:=z9 hb
 obtain⟨q,c,rfl,hin,_⟩:=h
 obtain⟨n,hn⟩:∃n,n=l.length:=⟨_,rfl⟩
 rw[←hn] at C ⊢
 have hn3:n≤300:=by omega
 have HN:=z9 hn.symm
 have HI:=z9 hin
 obtain⟨m,hm⟩:∃m,m=(seenP l).length:=⟨_,rfl⟩
 have HM:=z9 hm
 have hom:off≤m:=by omega
 have homz:¬(m:Int)<off:=by omega
 have ho0:¬(off:Int)<0:=by omega
 have HC:=z9 (cut_off ho)
 have hm3:m≤300:=by have:=seenP_le l;omega
 obtain⟨x,hx⟩:∃x,x=nxt l off:=⟨_,rfl⟩
 have HX:=z9 hx
 have hxn:x≤n:=by rw[hx,hn];exact HC.out.le
 obtain⟨R,hR⟩:∃R,R=rightP l off:=⟨_,rfl⟩
 obtain⟨Lf,hLf⟩:∃Lf,Lf=leftP l off:=⟨_,rfl⟩
 rw[←hR,←hLf]
 have HR1:Hid (x<n→R=(l.getD x Bm.none0).1):=fun hlt=>by rw[hR];unfold rightP;rw[←hx,←hn,if_pos hlt]
 have HR2:Hid (¬x<n→R=⟨#[]⟩):=fun hlt=>by rw[hR];unfold rightP;rw[←hx,←hn,if_neg hlt]
 have HL1:Hid (0<off→Lf=(seenP l).getD (off-1) ⟨#[]⟩∧Bm.ahd l Lf.toList+1=x):=fun h0=>by rw[hLf,hx];exact⟨left_at h0,find_left hb ho h0⟩
 have HL2:Hid (off=0→Lf=⟨#[]⟩∧x=0):=fun h0=>by rw[hLf,hx];unfold leftP nxt;rw[if_pos h0,if_pos h0];exact⟨rfl,rfl⟩
 clear hb hin hn hm ho hx hR hLf hl3
 go_enter Tryz.func90,Tryz.ntmps90
 go_wp2_with fail
 refine C.mono ?_
 rintro e w1 ⟨v1,rfl,ht1,hb1⟩
 have HB1:=z9 hb1
 by_cases h0:off=0
 ·obtain⟨e1,e2⟩:=HL2.out h0
  subst e1 e2 h0
  obtain⟨p1,c1,rfl,hmx⟩:=ht1.shape
  rw[←HM.out] at hmx ⊢
  clear ht1 hb1 C
  by_cases hlt:0<n
  ·have hltz:(0:Int)<n:=by omega
   have hkl:0<l.length:=by rw[HN.out];exact hlt
   obtain⟨b,o,rfl,hc⟩:=HI.out.some (by intro e;rw[e] at hkl;simp at hkl)
   have ha:=((hc 0 hkl).below HB1.out (hc 0 hkl).lt).1
   rw[←HR1.out hlt] at ha
   rw[Nat.zero_mul,Nat.add_zero] at ha
   clear hc hkl
   go_wp2_with fail
   go_ret3
   exact⟨rfl,HB1.out⟩
  ·have hltz:¬(0:Int)<n:=by omega
   have e3:=HR2.out hlt
   subst e3
   go_wp2_with fail
   go_ret3
   exact⟨rfl,HB1.out⟩
 ·have h0p:0<off:=by omega
  have h0z:(0:Int)<off:=by omega
  obtain⟨e1,e2⟩:=HL1.out h0p
  obtain⟨g1,cg,e9,_,hgc,hgm,hcs⟩:=ht1.cells (by rw[←HM.out];omega)
  rw[←HM.out] at e9 hgc
  subst e9
  have hcell:=hcs (off-1) (by rw[←HM.out];omega)
  rw[←e1] at hcell
  obtain⟨r,hr⟩:∃r,off=r+1:=⟨off-1,by omega⟩
  subst hr
  rw[Nat.add_sub_cancel] at hcell
  have hrz:((r+1:Nat):Int)=(r:Int)+1:=by omega
  have HE1:=z9 e2
  have CF:=Ld.find_any q n c l Lf w1 HN.out (HI.out.below HB1.out) (Bm.bookE_zero.1 HBK.out).2.2 (by omega)
  obtain⟨ax,hax⟩:∃ax,ax=Bm.ahd l Lf.toList:=⟨_,rfl⟩
  obtain⟨hx2,hhx⟩:∃hx2,hx2=Bm.has l Lf.toList:=⟨_,rfl⟩
  rw[←hax] at e2 CF
  rw[←hhx] at CF
  subst e2
  rw[hrz] at h0z ho0 homz ⊢
  clear ht1 hb1 C hcs e1 hax hhx HE1
  go_wp2_with fail
  refine CF.mono ?_
  rintro e w2 ⟨rfl,hb2⟩
  have HB2:=z9 (bel HB1.out hb2)
  clear CF hb2 hcell
  by_cases hlt:ax+1<n
  ·have hltz:(ax:Int)+1<n:=by omega
   have hkl:ax+1<l.length:=by rw[HN.out];exact hlt
   obtain⟨b,o,rfl,hc⟩:=HI.out.some (by intro e;rw[e] at hkl;simp at hkl)
   have ha:=((hc (ax+1) hkl).below HB2.out (hc (ax+1) hkl).lt).1
   rw[←HR1.out hlt] at ha
   clear hc hkl
   go_wp2_with fail
   go_ret3
   exact⟨rfl,HB2.out⟩
  ·have hltz:¬(ax:Int)+1<n:=by omega
   have e3:=HR2.out hlt
   subst e3
   go_wp2_with fail
   go_ret3
   exact⟨rfl,HB2.out⟩
end Ub
end Go.Proofs.YtlmdchpbpgcfmaaGreatDoor
/- Package edit: checkText, placeAt. -/
namespace Go.Proofs.YtlmdchpbpgcfmaaGreatDoor
namespace Uc
open Go.ChangeShapes Go.WideShapes Go.ChangeAt Go.RowKit Cm Ka Kb Na Om Oa Oz Oc Og Oi Hm Ia Ib Ic Idc Ie If Ig Ih Ii Ij Ik Il Im Um Ua Ub
open La (bel bel_drew errV_zero errV_ne own_ge own_grow own_below Lies LeafsIn)
open Lj (BookAt BookNew)
theorem letter_no (c:Int) (w:World) (h0:0≤c) (h1:c≤255):Calls Tryz.prog 135 #[.int .u8 c] w fun e w'=>e=.returned (.bool (!Bm.isL c))∧w'=w:=by
 have C:=fun w=>Lb.isLetter_any c w
 obtain⟨b,hb⟩:∃b,b=Bm.isL c:=⟨_,rfl⟩
 rw[←hb] at C ⊢
 clear hb
 go_enter Tryz.func135,Tryz.ntmps135
 go_wp2_with fail
 refine(C _).mono ?_
 rintro e w2 ⟨rfl,hw⟩
 have hw2:=hw.symm
 subst hw2
 clear hw C
 go_wp2_with fail
 go_ret
 exact⟨rfl,rfl⟩
theorem ok_take {t:ByteArray} {k:Nat} (hk:k<t.size) (h:(t.toList.take k).all (fun c=>Bm.isL (c.toNat:Int))=true) (hb:Bm.isL ((t.toList.getD k 0).toNat:Int)=true):(t.toList.take (k+1)).all (fun c=>Bm.isL (c.toNat:Int))=true:=by
 have hk2:k<t.toList.length:=by rw[Om.len_eq];exact hk
 rw[List.take_add_one,List.getElem?_eq_getElem hk2,List.all_append,h]
 rw[List.getD_eq_getElem?_getD,List.getElem?_eq_getElem hk2] at hb
 simpa using hb
theorem ok_no {t:ByteArray} {k:Nat} (hk:k<t.size) (hb:Bm.isL ((t.toList.getD k 0).toNat:Int)=false):okText t=false:=by
 cases h:okText t with
 | false=>rfl
 | true=>rw[let_at h hk] at hb;cases hb
theorem index_bytes (g c n:Nat) (t:ByteArray) (w:World) (hn:t.size=n) (hs:n≤200) (hc:∀j,j<n→w.cell? ⟨g,j,none⟩=some (.int .u8 ((t.toList.getD j 0).toNat:Int))):
  Calls Tryz.prog 170 #[.slice (some ⟨g,0,none⟩) n c,.func (.func 135) #[] #[]] w fun e w'=>(∃r:Int,e=.returned (.int .i64 r)∧okText t=decide (r<0))∧w'=w:=by
 have HN:=z9 hn
 have HC:=z9 hc
 clear hn hc
 go_enter Tryz.func170,Tryz.ntmps170
 go_wp2
 go_loopw [8] (fun i wr=>∃(k:Nat),k≤n∧i=.int .i64 k∧Hid ((t.toList.take k).all (fun c=>Bm.isL (c.toNat:Int))=true)∧Hid (wr=w)) (fun i _=>n-(intOf i).toNat)
 case atStart=>exact⟨0,by omega,rfl,rfl,rfl⟩
 case round=>
  obtain⟨k,hk,rfl,HT,HW⟩:=hrel
  by_cases hlt:k<n
  ·have hltz:(k:Int)<n:=by omega
   have hcl:=HC.out k hlt
   rw[←HW.out] at hcl
   have hkt:k<t.size:=by rw[HN.out];exact hlt
   have HY:=z9 (ok_take hkt HT.out)
   have HNO:=z9 (ok_no hkt)
   have hx0:(0:Int)≤((t.toList.getD k 0).toNat:Int):=by omega
   have hx1:((t.toList.getD k 0).toNat:Int)≤255:=by have:=(t.toList.getD k 0).toNat_lt;omega
   obtain⟨x,hx⟩:∃x,x=((t.toList.getD k 0).toNat:Int):=⟨_,rfl⟩
   rw[←hx] at hcl HY HNO hx0 hx1
   have C:=letter_no x wr hx0 hx1
   clear hkt hx
   cases hb:Bm.isL x with
   | true=>
    rw[hb] at C
    have HY2:=z9 (HY.out hb)
    clear hb HY HNO
    go_wp2_with fail
    refine C.mono ?_
    rintro e w2 ⟨rfl,hw⟩
    have HW2:=z9 (hw.trans HW.out)
    clear hw C hcl
    go_wp2_with fail
    go_roundw
    case rel=>exact⟨k+1,by omega,by go_num,HY2,HW2⟩
    case measure=>simp[intOf];omega
   | false=>
    rw[hb] at C
    have HY2:=z9 (HNO.out hb)
    clear hb HY HNO
    go_wp2_with fail
    refine C.mono ?_
    rintro e w2 ⟨rfl,hw⟩
    have HW2:=z9 (hw.trans HW.out)
    clear hw C hcl
    go_wp2_with fail
    go_ret
    exact⟨⟨_,rfl,by rw[HY2.out,decide_eq_false (by omega)]⟩,HW2.out⟩
  ·obtain rfl:k=n:=by omega
   have HY2:Hid (okText t=true):=by
    have:=HT.out
    rw[List.take_of_length_le (by rw[Om.len_eq,HN.out];exact Nat.le_refl _)] at this
    exact this
   go_wp2_with fail
   go_ret
   exact⟨⟨_,rfl,by rw[HY2.out];rfl⟩,HW.out⟩
theorem contains_bytes (g c n:Nat) (t:ByteArray) (w:World) (hn:t.size=n) (hs:n≤200) (hc:∀j,j<n→w.cell? ⟨g,j,none⟩=some (.int .u8 ((t.toList.getD j 0).toNat:Int))):
  Calls Tryz.prog 134 #[.slice (some ⟨g,0,none⟩) n c,.func (.func 135) #[] #[]] w fun e w'=>e=.returned (.bool (!okText t))∧w'=w:=by
 have C:=index_bytes g c n t w hn hs hc
 obtain⟨b,hb⟩:∃b,b=okText t:=⟨_,rfl⟩
 rw[←hb] at C ⊢
 clear hn hs hc hb
 go_enter Tryz.func134,Tryz.ntmps134
 go_wp2_with fail
 refine C.mono ?_
 rintro e w2 ⟨⟨r,rfl,hr⟩,hw⟩
 have hw2:=hw.symm
 subst hw2
 have HR:=z9 hr
 clear hw C hr
 go_wp2_with fail
 go_ret
 refine⟨ret_bool ?_,rfl⟩
 rw[HR.out]
 by_cases h:r<0
 ·rw[decide_eq_true h,decide_eq_false (by omega)];rfl
 ·rw[decide_eq_false h,decide_eq_true (by omega)];rfl
theorem text_ok (t:ByteArray) (w:World) (hm:t.size≤maxLen):Calls Tryz.prog 89 #[.string t] w fun e w'=>e=.returned (errV (textE t))∧Below w.heap.size w w':=by
 by_cases h:200<t.size
 ·have HE:Hid (errV (textE t)=.iface 84 (.int .i64 4)):=by unfold Hid textE;rw[if_pos h];rfl
  go_enter Tryz.func89,Tryz.ntmps89
  go_wp2
  go_ret
  exact⟨by rw[HE.out];rfl,Below.refl _ _⟩
 ·have HE:Hid (errV (textE t)=if okText t=false then .iface 84 (.int .i64 1) else .nilIface):=by unfold Hid textE;rw[if_neg h];cases okText t<;>rfl
  have hcv:=fun w=>run_bytes_of_string (P:=Tryz.prog) w 9 178 5 t Tryz.underlying9 Tryz.underlying178 Tryz.underlying5
  have hle:t.size≤200:=by omega
  have hnz:¬(200:Int)<t.size:=by omega
  clear h
  go_enter Tryz.func89,Tryz.ntmps89
  go_wp2_with fail
  refine(contains_bytes _ _ t.size t _ rfl hle (fun j hj=> ?_)).mono ?_
  ·first
    | exact text_new w.drew t _ _ j (by rw[Om.len_eq];exact hj)
    | (rw[World.cell?_drew];exact text_new w t _ _ j (by rw[Om.len_eq];exact hj))
  ·rintro e w2 ⟨rfl,hw⟩
   have HB:Hid (Below w.heap.size w w2):=by
    unfold Hid;rw[hw]
    first
     | exact((Below.refl _ w).drew).alloc (Nat.le_refl _) _
     | exact((Below.refl _ w).alloc (Nat.le_refl _) _).drew
   clear hw hcv
   cases hb:okText t with
   | true=>
    rw[hb] at HE
    go_wp2_with fail
    go_ret
    exact⟨by rw[HE.out];rfl,HB.out⟩
   | false=>
    rw[hb] at HE
    go_wp2_with fail
    go_ret
    exact⟨by rw[HE.out];rfl,HB.out⟩
end Uc
end Go.Proofs.YtlmdchpbpgcfmaaGreatDoor
/- Package edit: withDots; rows of ops that are made. -/
namespace Go.Proofs.YtlmdchpbpgcfmaaGreatDoor
namespace Ud
open Go.ChangeShapes Go.WideShapes Go.ChangeAt Go.RowKit Cm Ka Kb Na Om Oa Oz Oc Og Oi Hm Ia Ib Ic Idc Ie If Ig Ih Ii Ij Ik Il Im Um Ua Ub Uc
open La (bel bel_drew errV_zero errV_ne own_ge own_grow own_below Lies LeafsIn)
open Lj (BookAt BookNew)
def z0:Ox × Value:=(oz,.slice none 0 0)
theorem flatO_cons (y:Ox × Value) (M:List (Ox × Value)):flatO (y::M)=six y.1 y.2++flatO M:=rfl
theorem flatO_dot:∀{L:List (Ox × Value)} {k:Nat} {x:Ox} {v:Value} (a b:Int),L[k]? =some (x,v)→flatO (L.set k (((a,b),x.2),v))=((flatO L).set (k*6) (.int .i64 a)).set (k*6+1) (.int .i64 b)
 | [],k,x,v,a,b,h=>by simp at h
 | y::L,0,x,v,a,b,h=>by
  simp only[List.getElem?_cons_zero,Option.some.injEq] at h
  subst h
  rw[List.set_cons_zero,flatO_cons,flatO_cons]
  rfl
 | y::L,k+1,x,v,a,b,h=>by
  have ih:=flatO_dot a b (L:=L) (k:=k) (x:=x) (v:=v) (by simpa using h)
  have hl:(six y.1 y.2).length=6:=rfl
  rw[List.set_cons_succ,flatO_cons,flatO_cons,ih,List.set_append_right _ _ (by rw[hl];omega),List.set_append_right _ _ (by rw[hl];omega),hl,show(k+1)*6-6=k*6 by omega,show(k+1)*6+1-6=k*6+1 by omega]
theorem rowO_dot {w:World} {g n:Nat} {L:List (Ox × Value)} {k:Nat} {x:Ox} {v:Value} (a b:Int) (h:RowO w g n L) (hk:L[k]? =some (x,v)):RowO ((w.setCell ⟨g,k*6,none⟩ (.int .i64 a)).setCell ⟨g,k*6+1,none⟩ (.int .i64 b)) g n (L.set k (((a,b),x.2),v)):=by
 obtain⟨cur,h1,h2,h3⟩:=h
 refine⟨_,set_heap (set_heap h1),by simp[h2], ?_⟩
 rw[List.length_set,flatO_dot a b hk,←h3]
 simp only[Array.toList_setIfInBounds,List.take_set]
def dotk (who n:Int) (L:List (Ox × Value)):Nat→List (Ox × Value)
 | 0=>L
 | k+1=>(dotk who n L k).set k (((who,n+1+k),(L.getD k z0).1.2),(L.getD k z0).2)
theorem dotk_len (who n:Int) (L:List (Ox × Value)):∀k,(dotk who n L k).length=L.length
 | 0=>rfl
 | k+1=>by rw[dotk,List.length_set,dotk_len who n L k]
theorem dotk_late (who n:Int) (L:List (Ox × Value)):∀k j,k≤j→(dotk who n L k)[j]? =L[j]?
 | 0,j,_=>rfl
 | k+1,j,h=>by rw[dotk,List.getElem?_set_ne (by omega)];exact dotk_late who n L k j (by omega)
theorem dotk_early (who n:Int) (L:List (Ox × Value)):∀k j,j<k→j<L.length→(dotk who n L k)[j]? =some (((who,n+1+j),(L.getD j z0).1.2),(L.getD j z0).2)
 | 0,j,h,_=>absurd h (by omega)
 | k+1,j,h,hl=>by
  rw[dotk]
  rcases Nat.lt_or_eq_of_le (show j≤k by omega) with e | e
  ·rw[List.getElem?_set_ne (by omega)];exact dotk_early who n L k j e hl
  ·rw[e,List.getElem?_set_self (by rw[dotk_len];omega)]
def redot (who n:Int) (Q:List Ox):List Ox:=(List.range Q.length).map fun (k:Nat)=>((who,n+1+(k:Int)),(Q.getD k oz).2)
theorem redot_len (who n:Int) (Q:List Ox):(redot who n Q).length=Q.length:=by unfold redot;simp
theorem dotk_map (who n:Int) (L:List (Ox × Value)):(dotk who n L L.length).map (·.1)=redot who n (L.map (·.1)):=by
 apply List.ext_getElem?
 intro j
 unfold redot
 rw[List.getElem?_map,List.getElem?_map,List.length_map]
 by_cases hj:j<L.length
 ·rw[dotk_early who n L L.length j hj hj,List.getElem?_range hj]
  simp only[Option.map_some,List.getD_eq_getElem?_getD,List.getElem?_map,List.getElem?_eq_getElem hj,Option.getD_some]
 ·rw[List.getElem?_eq_none (by rw[dotk_len];omega),List.getElem?_eq_none (by simp;omega)];rfl
theorem dotk_own {who n:Int} {L:List (Ox × Value)} {y:Ox × Value} (h:y ∈ dotk who n L L.length):∃z ∈ L,y.2=z.2∧y.1.2.2.2.2=z.1.2.2.2.2:=by
 obtain⟨j,hj,e⟩:=List.getElem_of_mem h
 have hj2:j<L.length:=by rw[dotk_len] at hj;exact hj
 have h1:=dotk_early who n L L.length j hj2 hj2
 rw[List.getElem?_eq_getElem hj,e] at h1
 injection h1 with h1
 refine⟨L[j],List.getElem_mem hj2, ?_⟩
 rw[h1,List.getD_eq_getElem?_getD,List.getElem?_eq_getElem hj2]
 exact⟨rfl,rfl⟩
/- withDots under way -/
structure DotSt (B:Nat) (w:World) (who n:Int) (L:List (Ox × Value)) (g k:Nat) (wr:World):Prop where
 bl:Below B w wr
 row:RowO wr g L.length (dotk who n L k)
 own:∀y ∈ L,wr.ownsRow B 72 2 y.2 y.1.2.2.2.2.length (flatD y.1.2.2.2.2)
theorem DotSt.put {B:Nat} {w:World} {who n:Int} {L:List (Ox × Value)} {g k:Nat} {wr:World} (h:DotSt B w who n L g k wr) (hg:B≤g) (hk:k<L.length):DotSt B w who n L g (k+1) ((wr.setCell ⟨g,k*6,none⟩ (.int .i64 who)).setCell ⟨g,k*6+1,none⟩ (.int .i64 (n+1+k))):=by
 have hy:(dotk who n L k)[k]? =some ((L.getD k z0).1,(L.getD k z0).2):=by
  rw[dotk_late who n L k k (Nat.le_refl _),List.getD_eq_getElem?_getD,List.getElem?_eq_getElem hk];rfl
 have hr:=rowO_dot who (n+1+k) h.row hy
 refine⟨(h.bl.setCell (p:=⟨g,k*6,none⟩) hg _).setCell (p:=⟨g,k*6+1,none⟩) hg _,hr,fun y hy=> ?_⟩
 have hne:∀q,y.2.ownBlock=some q→q≠g:=fun q hq e=>by
  obtain⟨_,cur,hc⟩:=own_lt (h.own y hy) q hq
  obtain⟨cur2,c1,_⟩:=h.row
  rw[e,c1] at hc
  injection hc with hc
  injection hc with _ hc _
  exact absurd hc (by decide)
 refine own_stay (h.own y hy) fun q hq=> ?_
 rw[set_block _ _ _ _ (hne q hq),set_block _ _ _ _ (hne q hq)]
theorem dots_any (D:Nat) (S:Dq) (F:Nat→Prop) (who:Int) (B:Nat) (Q:List Ox) (v:Value) (w:World) (h:DocAt w D S F) (h1:1≤who) (h8:who≤8) (hq:OpsNew B w v Q) (hB:B≤w.heap.size) (hQ:Q.length≤1000):
  Calls Tryz.prog 92 #[.pointer (some ⟨D,0,none⟩),.int .i64 who,v] w fun e w'=>e=.returned v∧OpsNew B w' v (redot who (kn S who) Q)∧Below B w w':=by
 have C:=known_get D S F w h
 have I:=h.inv
 obtain⟨n0,n1⟩:=kn_le I h1 h8
 have hf:=I.few
 have hl8:=I.klen
 obtain⟨g,L,rfl,hg,hL,hr,hl,ho⟩:=hq
 have hLl:L.length=Q.length:=by rw[←hL,List.length_map]
 obtain⟨n,hn⟩:∃n,n=Q.length:=⟨_,rfl⟩
 obtain⟨kk,hkk⟩:∃kk,kk=kn S who:=⟨_,rfl⟩
 obtain⟨r,hrw⟩:∃r:Nat,who=(r:Int)+1:=⟨(who-1).toNat,by omega⟩
 have HKV:Hid (S.known.getD r 0=kk):=by unfold Hid;rw[hkk,hrw];unfold kn;rw[show((r:Int)+1-1).toNat=r by omega]
 have hr8:r<8:=by omega
 have hkk0:0≤kk:=by omega
 have hkk4:kk≤400:=by omega
 have hn1:n≤1000:=by omega
 rw[←hn,←hkk]
 have HLN:Hid (L.length=n):=by unfold Hid;omega
 have HQN:=z9 hn.symm
 have HLM:=z9 hL
 have HL8:=z9 hl8
 have HS0:Hid (DotSt B w who kk L g 0 w):=⟨Below.refl _ _,by rw[hLl];exact hr,ho⟩
 have HG:=z9 hg
 clear h I n0 n1 hf hl8 hL hr hl ho hLl hn hkk hg h1 h8 hQ
 subst hrw
 go_enter Tryz.func92,Tryz.ntmps92
 go_wp2_with fail
 refine C.mono ?_
 rintro e w1 ⟨vk,rfl,hk1,_,hb1⟩
 obtain⟨qk,ck,rfl,hin⟩:=hk1
 obtain⟨bk,ok,rfl,hcs⟩:=hin.some (by intro e;have:=HL8.out;rw[e] at this;simp at this)
 have hc1:=hcs r (by rw[HL8.out];exact hr8)
 rw[HKV.out] at hc1
 rw[HL8.out]
 have HS1:Hid (DotSt B w ((r:Int)+1) kk L g 0 w1):=⟨HS0.out.bl.trans (hb1.mono hB),HS0.out.row.below hb1,fun y hy=>own_below (HS0.out.own y hy) hb1⟩
 clear hb1 hin hcs C HS0
 go_wp2_with fail
 go_loopw [17] (fun vi wr=>∃(k:Nat),k≤n∧vi=.int .i64 k∧Hid (DotSt B w ((r:Int)+1) kk L g k wr)) (fun vi _=>n-(intOf vi).toNat)
 case atStart=>exact⟨0,by omega,rfl,HS1⟩
 case round=>
  clear HS1 hc1
  obtain⟨k,hk,rfl,HST⟩:=hrel
  by_cases hlt:k<n
  ·have hltz:(k:Int)<n:=by omega
   have hkl:k<L.length:=by rw[HLN.out];exact hlt
   obtain⟨⟨y0,z0⟩,g0⟩:=HST.out.row.cell6 hkl 0 (by omega)
   obtain⟨⟨y1,z1⟩,g1⟩:=HST.out.row.cell6 hkl 1 (by omega)
   rw[Nat.add_zero] at z0 g0
   have HP:=z9 (HST.out.put HG.out hkl)
   clear hkl
   go_wp2_with fail
   go_roundw
   case rel=>exact⟨k+1,by omega,by go_num,HP⟩
   case measure=>simp[intOf];omega
  ·obtain rfl:n=k:=by omega
   have hltz:¬(n:Int)<n:=by omega
   go_wp2_with fail
   go_ret
   have hrow:=HST.out.row
   have hLn:=HLN.out
   refine⟨rfl,⟨g,dotk ((r:Int)+1) kk L L.length,by rw[redot_len,HQN.out],HG.out,by rw[dotk_map,HLM.out],by rw[redot_len,HQN.out,←hLn];rw[←hLn] at hrow;exact hrow,by rw[redot_len,HQN.out];omega,fun y hy=> ?_⟩,HST.out.bl⟩
   obtain⟨z,hz,e1,e2⟩:=dotk_own hy
   rw[e1,e2]
   exact HST.out.own z hz
end Ud
end Go.Proofs.YtlmdchpbpgcfmaaGreatDoor
