import Derived.Test.YtjcemlmlfoilmaaGreatDoorJ14
import Derived.Test.YtjcemlmlfoilmaaGreatDoorU2
import Derived.Test.YtjcemlmlfoilmaaGreatDoorX2
import Derived.Test.YtjcemlmlfoilmaaGreatDoorAc
import Derived.Test.YtjcemlmlfoilmaaGreatDoorQ1
import Derived.Deep.DeepCutAuto
set_option linter.unusedSimpArgs false
set_option linter.unusedVariables false
set_option maxRecDepth 100000
set_option maxHeartbeats 8000000
namespace Go.Proofs.YtjcemlmlfoilmaaGreatDoor
open Go.RowKit Na Oa Oi Hm Ia Ic Iq Xp Cm Om Ac Kb Um Ue
open Go.Proofs.Tryz (prog)
namespace Xt
open Lj (BookAt)
structure Parts (w:World) (E:Nat) (S:Dq) (pb:Option Addr) (nb cb:Nat) (pm:Option Addr) (nm cm gk:Nat) (po:Option Addr) (no co:Nat):Prop where
 c0:∀W,Below w.heap.size w W→W.cell? ⟨E,0,none⟩=some (.slice pb nb cb)
 c1:∀W,Below w.heap.size w W→W.cell? ⟨E,1,none⟩=some (.slice pm nm cm)
 c2:∀W,Below w.heap.size w W→W.cell? ⟨E,2,none⟩=some (.slice (some ⟨gk,0,none⟩) 8 8)
 c3:∀W,Below w.heap.size w W→W.cell? ⟨E,3,none⟩=some (.slice po no co)
 book:∀W,Below w.heap.size w W→BookAt W (.slice pb nb cb) S.book
 marks:∀W,Below w.heap.size w W→MksAt W (.slice pm nm cm) S.marks
 known:∀W,Below w.heap.size w W→Za.IntsIn W (some ⟨gk,0,none⟩) S.known
 ops:∀W,Below w.heap.size w W→OpsAt W (.slice po no co) S.ops
theorem RefAt.parts{B:Nat->Prop}{w:World}{E:Nat}{S:Dq}{F:Nat->Prop}(h:RefAt B w E S F):∃pb nb cb pm nm cm gk po no co,Parts w E S pb nb cb pm nm cm gk po no co:=by
 obtain⟨I,gk,o,q,r,a⟩:=h;obtain⟨po,no,co,i⟩:∃p n c,r=.slice p n c:=by obtain⟨L,_,e,_⟩:=a.ops;obtain⟨p,n,c,s,_⟩:=aG e;exact⟨p,n,c,s⟩
 obtain⟨pb,nb,cb,l⟩:∃p n c,o=.slice p n c:=by obtain⟨p,c,e,_⟩:=a.book;exact⟨_,_,_,e⟩
 obtain⟨pm,nm,cm,m⟩:∃p n c,q=.slice p n c:=by obtain⟨p,c,e,_⟩:=a.marks;exact⟨_,_,_,e⟩
 subst i l m;refine⟨pb,nb,cb,pm,nm,cm,gk,po,no,co,fun W hb=>aB (a.below hb).blk rfl,fun W hb=>aB (a.below hb).blk rfl,fun W hb=>aB (a.below hb).blk rfl,fun W hb=>aB (a.below hb).blk rfl,fun W hb=>(a.below hb).book,fun W hb=>(a.below hb).marks,fun W hb=> ?_,fun W hb=>(a.below hb).ops.at⟩;obtain⟨y,t,v⟩:=(a.below hb).kn;refine qF ⟨gk,0,rfl,fun j hj=> ?_⟩;rw[qY];refine aB t ?_;rw[<-kJ,v,qT,qB hj,qA,qB hj];rfl
end Xt
namespace Usp
open Oz Ie Ii Ud
open La (own_below)
open Xr (bJ eZ)
structure MkAt (B:Nat) (w:World) (M:Nat) (who n:Int) (v:Value) (L:List (Ox × Value)):Prop where
 blk:w.heap[M]? =some (.cells #[.int .i64 who,.int .i64 n,v] 147)
 row:w.ownsRow 0 97 6 v L.length (flatO L)
 loc:∀g,v.ownBlock=some g→B≤g
 seen:∀y ∈ L,w.ownsRow B 80 2 y.2 y.1.2.2.2.2.length (flatD y.1.2.2.2.2)
 hM:B≤M
variable {B M:Nat}{w w':World}{who n:Int}{v:Value}{L:List (Ox × Value)}
theorem aDc{n':Int}(h:MkAt B w M who n v L)(hs:∀g,g<w.heap.size->g≠M->w'.heap[g]? =w.heap[g]?)(hM:w'.heap[M]? =some (.cells #[.int .i64 who,.int .i64 n',v] 147)):MkAt B w' M who n' v L:=by
 refine⟨hM,aP h.row fun g hg=> ?_,h.loc,fun y hy=>aP (h.seen y hy) fun g hg=> ?_,h.hM⟩
 ·obtain⟨a,c,b⟩:=aL h.row g hg;exact hs g a (blk_ne b h.blk (by decide))
 ·obtain⟨a,c,b⟩:=aL (h.seen y hy) g hg;exact hs g a (blk_ne b h.blk (by decide))
theorem MkAt.below(h:MkAt B w M who n v L)(hb:zB w w'):MkAt B w' M who n v L:=
 aDc h (fun g hg _=>hb.block g hg) (by rw[hb.block M (qG.1 h.blk).1];exact h.blk)
theorem MkAt.lt(h:MkAt B w M who n v L):M<w.heap.size:=(qG.1 h.blk).1
theorem MkAt.ops(h:MkAt B w M who n v L):OpsAt w v (L.map (·.1)):=oD h.row fun y hy=>gO (h.seen y hy)
theorem MkAt.aJs(h:MkAt B w M who n v L):RowL B w v L:=by
 refine⟨h.row.1, ?_⟩;rcases h.row.2 with h0 | ⟨g,cap,cur,h1,h2,h3⟩
 ·exact qH h0
 ·exact qF ⟨g,cap,cur,h1,h.loc g (by rw[h1];rfl),h3⟩
theorem aF5{t:TypeId}{z:Nat}{n:Nat}{xs:List Value}(h:w.ownsRow B t z v n xs):In (New B w) v:=fun a m c e _=>⟨(h.lt a.block (by rw[e];rfl)).1,(h.lt a.block (by rw[e];rfl)).2⟩
theorem MkAt.aHV(h:MkAt B w M who n v L):OpsJ (New B w) (New B w) w v (L.map (·.1)):=OpsJ.own h.aJs fun y hy=>⟨gO (h.seen y hy),aF5 (h.seen y hy)⟩
theorem aIO{W w9:World}{v9:Value}{x:Ox}{vs:Value}(h:MkAt B w M who n v L)(hb:zB w W)(hvs:w.ownsRow B 80 2 vs x.2.2.2.2.length (flatD x.2.2.2.2))(hg:W.grownBy w9 v.ownBlock)(hr:w9.ownsRow 0 97 6 v9 (L.length+1) (flatO (L++[(x,vs)])))(hl:v9.ownBlock=v.ownBlock\/v9.ownBlock=some W.heap.size)(hB:B<=w.heap.size):
  MkAt B (w9.setCell ⟨M,2,none⟩ v9) M who n v9 (L++[(x,vs)])/\Below B w (w9.setCell ⟨M,2,none⟩ v9):=by
 have d:=h.below hb;have f:=aL d.row;have l:∀g,v.ownBlock=some g->g≠M:=fun g hgg=>by obtain⟨_,i,c⟩:=f g hgg;exact blk_ne c d.blk (by decide)
 have j:w9.heap[M]? =some (.cells #[zI who,zI n,v] 147):=by
  rw[hg.block _ d.lt (fun e=>l M e.symm rfl)];exact d.blk
 have k:∀g,v9.ownBlock=some g->g≠M:=fun g hgg=>by obtain⟨_,i,c⟩:=aL hr g hgg;exact blk_ne c j (by decide)
 have b:∀(u:Value) (xs:List Dt),w.ownsRow B 80 2 u xs.length (flatD xs)->(w9.setCell ⟨M,2,none⟩ v9).ownsRow B 80 2 u xs.length (flatD xs):=fun u xs ho=>by
  refine aP (own_below ho hb) fun g hgg=> ?_
  obtain⟨m,i,c⟩:=aL (own_below ho hb) g hgg;rw[set_block _ _ _ _ (blk_ne c d.blk (by decide))];refine hg.block g m fun e=> ?_
  obtain⟨_,s,o⟩:=f g e.symm;exact blk_ne c o (by decide) rfl
 refine⟨⟨?_, ?_,fun g hgg=> ?_,fun y hy=> ?_,h.hM⟩, ?_⟩
 ·rw[set_heap j];rfl
 ·rw[qE];exact aP hr fun g hgg=>set_block _ _ _ _ (k g hgg)
 ·rcases hl with e | e
  ·exact h.loc g (e▸hgg)
  ·rw[hgg] at e;injection e with e;rw[e];exact qO hB hb.size
 ·rcases jB.1 hy with q | q
  ·exact b _ _ (h.seen y q)
  ·rw[qP.1 q];exact b _ _ hvs
 ·have r:=(hb.mono hB).trans ⟨hg.os,hg.tape,hg.output,hg.size,fun g hgl=>hg.block g (jE hgl (qO hB hb.size)) (fun e=>by have:=h.loc g e.symm;omega)⟩;exact r.setCell (p:=⟨M,2,none⟩) h.hM _
theorem nV(B M:Nat)(who n:Int)(v:Value)(L:List (Ox × Value))(t:Int)(p:ByteArray)(c:Int)(vs:Value)(s:List Dt)(w:World)(h:MkAt B w M who n v L)(hvs:w.ownsRow B 80 2 vs s.length (flatD s))(hB:B<=w.heap.size)(hn0:0<=n)(hn1:n<=10000)(hL:L.length<=1000):
  Calls prog 70 #[.pointer (some ⟨M,0,none⟩),.agg #[.int .i64 0,.int .i64 0,.int .i64 t,.string p,.int .i64 c,vs]] w fun e w'=>e=.returned (.tuple #[])/\∃v',MkAt B w' M who (n+1) v' (L++[(((who,n+1),t,p,c,s),vs)])/\Below B w w':=by
 obtain⟨o,q,r,rfl,_⟩:=aG hvs;obtain⟨l,d,m,rfl,I⟩:=aG h.row;have y:=z9 h;have J:=z9 hvs;have D:=z9 hB;have ag:=h.lt;have j:M≠w.heap.size:=by omega
 have ay:w.heap.size≠M:=by omega
 have az:d<=1000:=by rw[I.out];exact hL
 have K:zB w (w.alloc (.cells #[zI 0,zI 0,zI t,.string p,zI c,.slice o q r] 97)):=(qD _ _).alloc (qC _) _;have E:=(h.below K).blk;have S:(w.alloc (.cells #[zI 0,zI 0,zI t,.string p,zI c,.slice o q r] 97)).heap[w.heap.size]? =some (.cells #[zI 0,zI 0,zI t,.string p,zI c,.slice o q r] 97):=heap_alloc_new w _;have ah:=Hid.mk' E;have ai:=Hid.mk' S;have aj:=Hid.mk' K;have a1:=aB E (i:=1) (u:=zI n) rfl;have f1:=aF E (i:=1);have a0:IntKind.i64.wrap (n+1)=n+1:=bG (by omega) (by omega);clear E S K h hvs hB hL;go_in;go_wp2_with fail;generalize N:World.alloc _ _=w2;have P:(w.setCell ⟨M,1,none⟩ (zI (n+1))).heap.size=w.heap.size:=set_size _ _ _;have F:Below w.heap.size (w.setCell ⟨M,1,none⟩ (zI (n+1))) w2:=by rw[<-N];exact(qD _ _).alloc (by rw[P];exact qC _) _
 have G:w2.heap[M]? =some (.cells #[zI who,zI (n+1),.slice l d m] 147):=by rw[F.block M ag,set_heap y.out.blk];rfl
 have b:w2.heap[w.heap.size]? =some (.cells #[zI 0,zI 0,zI t,.string p,zI c,.slice o q r] 97):=by
  have z:=heap_alloc_new (w.setCell ⟨M,1,none⟩ (zI (n+1))) (.cells #[zI 0,zI 0,zI t,.string p,zI c,.slice o q r] 97);rw[P] at z;rw[<-N];exact z
 have T:Hid (∀g,g<w.heap.size->g≠M->w2.heap[g]? =w.heap[g]?):=fun g hg hne=>by rw[F.block g hg,set_block _ _ _ _ hne]
 have ak:Hid (Below B w w2):=((qD B w).setCell (p:=⟨M,1,none⟩) y.out.hM _).trans (F.mono D.out);have a2:w.heap.size<w2.heap.size:=(qG.1 b).1;have U:=Hid.mk' G;have V:=Hid.mk' b;have b0:=aB G (i:=0) (u:=zI who) rfl;have b1:=aB G (i:=1) (u:=zI (n+1)) rfl;have o0:w2.drew.cell? (zW w)=some z0:=aB b (i:=0) rfl;have o1:w2.drew.cell? ⟨w.heap.size,1,none⟩=some z0:=aB b (i:=1) rfl;have al:w2.drew.frozen? (zW w)=false:=aF b (i:=0);have o1':w2.cell? ⟨w.heap.size,1,none⟩=some z0:=aB b (i:=1) rfl;have fo1':w2.frozen? ⟨w.heap.size,1,none⟩=false:=aF b (i:=1);have fo1:w2.drew.frozen? ⟨w.heap.size,1,none⟩=false:=aF b (i:=1);clear N G b a1 f1 ah ai F P aj;go_region_held3 (fun W=>W.cell? (zA M)=some (zI who)/\W.cell? ⟨M,1,none⟩=some (zI (n+1))) (first | (refine⟨(bJ j).trans ((bJ j).trans ?_),(bJ j).trans ((bJ j).trans ?_)⟩<;>(go_split_ands;assumption)) | (go_keep;done) | (refine⟨?_, ?_⟩<;>(rw[World.cell?_drew,bJ j,bJ j];assumption))) (fail)
 generalize Q:World.drew _=w3;have H:w3.heap=((w2.setCell (zW w) (zI who)).setCell ⟨w.heap.size,1,none⟩ (zI (n+1))).heap:=by rw[<-Q];rfl
 have X:w3.heap[M]? =some (.cells #[zI who,zI (n+1),.slice l d m] 147):=by rw[H,set_block _ _ _ _ j,set_block _ _ _ _ j];exact U.out
 have k:w3.heap[w.heap.size]? =some (.cells #[zI who,zI (n+1),zI t,.string p,zI c,.slice o q r] 97):=by
  rw[H,set_heap (set_heap V.out)];rfl
 have A:∀g,g<w.heap.size->g≠M->w3.heap[g]? =w.heap[g]? :=fun g hg hne=>by rw[H,set_block _ _ _ _ (by simp;omega),set_block _ _ _ _ (by simp;omega)];exact T.out g hg hne
 have f:=z9 (aDc y.out A X)
 have ad:Hid (w3.ownsRow B 80 2 (.slice o q r) s.length (flatD s)):=aP J.out fun g hg=>by
  obtain⟨am,a3,hc⟩:=aL J.out g hg;exact A g am (blk_ne hc y.out.blk (by decide))
 have Y:Hid (Below B w w3):=by
  unfold Hid;rw[<-Q];exact((ak.out.setCell (p:=(zW w)) D.out _).setCell (p:=⟨w.heap.size,1,none⟩) D.out _).drew
 have an:Hid (Six w3 w.heap.size who (n+1) t p c (.slice o q r)):=⟨aB k (i:=0) rfl,aB k (i:=1) rfl,aB k (i:=2) rfl,aB k (i:=3) rfl,aB k (i:=4) rfl,aB k (i:=5) rfl⟩;clear Q H X k A b0 b1 o0 o1 al fo1 o1' fo1' U V T y J;have R:Hid (∀O,zB w3 (w3.alloc O).drew):=fun O=>((qD _ w3).alloc (qC _) O).drew
 have ao:Hid (∀O,(w3.alloc O).drew.ownsRow 0 97 6 (.slice l d m) d (flatO L)):=fun O=>own_below (by have z:=f.out.row;rw[<-I.out] at z;exact z) (R.out O)
 have Z:Hid (∀O,(w3.alloc O).drew.heap[M]? =some (.cells #[zI who,zI (n+1),.slice l d m] 147)):=fun O=>(f.out.below (R.out O)).blk
 have q8:=fun O=>aB (Z.out O) (i:=2) (u:=.slice l d m) rfl
 have q7:∀O,(w3.alloc O).cell? ⟨M,2,none⟩=some (.slice l d m):=q8
 have af:Hid (∀g,(Value.slice l d m).ownBlock=some g->g=M->False):=fun g hg e=>by
  obtain⟨_,ax,hc⟩:=aL f.out.row g hg;exact blk_ne hc f.out.blk (by decide) e
 have z3:=aB f.out.blk (i:=2) (u:=.slice l d m) rfl;obtain⟨s0,s1,s2,s3,s4,s5⟩:=an.out;go_wp2_with fail
 go_region_law (
  (refine eQ (by rfl) (.tmp 25) (.tmp 27) (by rfl) (.slice l d m) d L ((who,n+1),t,p,c,s) o q r (by rfl) w3.heap.size (by rfl) (by omega) (ao.out _) (heap_alloc_new w3 _) ?_;intro v9 w9 hr9 hg9 hl9;obtain⟨p9,n9,c9,rfl,_⟩:=aG hr9;have C:=(eZ (Z.out _) hg9 (fun e=>af.out M e rfl));have q9:=aB C (i:=2) (u:=.slice l d m) rfl;have a4:=aF C (i:=2);have aa:=Hid.mk' hr9;have ab:=Hid.mk' hg9;have ac:=Hid.mk' hl9;clear hr9 hg9 hl9 C))
 all_goals
  have HP:=Hid.mk' (aIO (x:=((who,n+1),t,p,c,s)) f.out (R.out _) ad.out ab.out (by have z:=aa.out;rw[I.out] at z;exact z) ac.out (qO D.out Y.out.size));clear aa ab ac;go_wp2_with fail;go_end0;exact⟨rfl,_,HP.out.1,Y.out.trans HP.out.2⟩
end Usp
namespace Utp
open Uc Usp
theorem tK(E:Nat)(who:Int)(w:World)(hw:who<1\/8<who):Calls prog 65 #[.pointer (some ⟨E,0,none⟩),.int .i64 who] w fun e w'=>e=.returned (.tuple #[.pointer none,.bool false])/\w'=w:=by
 rcases hw with h | h
 ·go_in;go_wp2;go_ret2;exact⟨rfl,rfl⟩
 ·have a:¬who<1:=by omega
  go_in;go_wp2;go_ret2;exact⟨rfl,rfl⟩
theorem lG(B:Nat->Prop)(E:Nat)(S:Dq)(F:Nat->Prop)(who:Int)(w:World)(h:RefAt B w E S F)(h1:1<=who)(h8:who<=8):
  Calls prog 65 #[.pointer (some ⟨E,0,none⟩),.int .i64 who] w fun e w'=>e=.returned (.tuple #[.pointer (some ⟨w.heap.size,0,none⟩),.bool true])/\MkAt w.heap.size w' w.heap.size who (kn S who) (.slice none 0 0) []/\zB w w':=by
 have a:=h.inv.klen;obtain⟨q,s,t,v,z,A,C,D,G,H,i⟩:=Xt.RefAt.parts h;have I:=i.c2 w (qD _ _);obtain⟨b,o,j,d⟩:=(i.known w (qD _ _)).some (by intro e;rw[e] at a;simp at a);injection j with j
 injection j with e91 e92
 subst e91 e92;obtain⟨r,l⟩:∃r:Nat,who=(r:Int)+1:=⟨(who-1).toNat,by omega⟩;have m:=d r (by rw[a];omega);obtain⟨n,c⟩:=zx (kn S who);have f:S.known.getD r 0=n:=by rw[c,l];unfold kn;rw[show((r:Int)+1-1).toNat=r by omega]
 rw[f,qY] at m;rw[<-c];have p:(r:Int)<8:=by omega
 clear h i d c f a;subst l;go_in;go_wp2_with fail;go_ret2;refine⟨rfl,⟨heap_alloc_new w _,jT _ _ _ _,fun g hg=>(by cases hg),fun y hy=>(by cases hy),qC _⟩,zb _ _⟩
theorem aDl(M:Nat)(k:Int)(w:World)(hk:k≠0):Calls prog 66 #[.pointer (some ⟨M,0,none⟩),.int .i64 k] w fun e w'=>e=.returned (.tuple #[.slice none 0 0,.int .i64 k])/\w'=w:=by
 have a:(k !=0)=true:=by simpa using hk
 clear hk;go_in;go_wp2_with fail;go_ret2;exact⟨rfl,rfl⟩
theorem aDv(B M:Nat)(who n:Int)(v:Value)(L:List (Ox × Value))(w:World)(h:MkAt B w M who n v L):Calls prog 66 #[.pointer (some ⟨M,0,none⟩),.int .i64 0] w fun e w'=>e=.returned (.tuple #[v,.int .i64 0])/\w'=w:=by
 have a:=aB h.blk (i:=2) (u:=v) rfl;obtain⟨b,c,d,rfl,_⟩:=aG h.row;clear h;go_in;go_wp2_with fail;go_ret2;exact⟨rfl,rfl⟩
def cH (w:World) (k:Int) (L:List Ox) (e:Ending) (w':World):Prop:=∃v,e=.returned (.tuple #[v,.int .i64 k])∧(k=0→OpsJ (New w.heap.size w') (New w.heap.size w') w' v L)∧(k≠0→v=.slice none 0 0)∧Below w.heap.size w w'
def MkPost (B:Nat) (w:World) (M:Nat) (who k:Int) (L:List Ox) (e:Ending) (w':World):Prop:=e=.returned (.int .i64 k)∧(∃n' v' L',MkAt B w' M who n' v' L'∧(k=0→L'.map (·.1)=L))∧Below B w w'
def insLs (a b:ByteArray) (who n:Int) (t:ByteArray) (k:Nat):List Ox:=(List.range k).map (insO a b who n t)
theorem uH(a b:ByteArray)(who n:Int)(t:ByteArray)(k:Nat):insLs a b who n t (k+1)=insLs a b who n t k++[insO a b who n t k]:=by
 unfold insLs;rw[yV,xL];rfl
def insK (l:List Bm.Leaf) (who off:Int) (t:ByteArray):Int:=if textE t≠0 then textE t else if aroundE l off≠0 then 1 else rowE (leftP l off.toNat) (rightP l off.toNat) who t.size
theorem aEr(t:ByteArray)(M:Nat)(off:Int)(v:Value)(B:Nat)(who n:Int)(l:List Bm.Leaf)(w:World)(hm:t.size≤maxLen)(h:MkAt B w M who n (.slice none 0 0) [])(hk:textE t≠0):
  Calls prog 67 #[.pointer (some ⟨M,0,none⟩),v,.int .i64 off,.string t] w (MkPost B w M who (insK l who off t) []):=by
 have HE:Hid (insK l who off t=textE t):=by unfold Hid insK;rw[if_pos hk]
 have HMK:=z9 h
 have HZ:=z9 hk
 by_cases hs:200<t.size
 ·have hsz:(200:Int)<t.size:=by omega
  have HT:Hid (textE t=4):=by unfold Hid textE;rw[if_pos hs]
  clear h hk
  go_in
  go_wp2_with fail
  go_ret
  exact⟨by rw[HE.out,HT.out];rfl,⟨_,_,_,HMK.out,fun e=>absurd e (by rw[HE.out];exact HZ.out)⟩,qD _ _⟩
 ·have hsz:¬(200:Int)<t.size:=by omega
  have hs2:t.size≤200:=by omega
  have HT:Hid (okText t=false→textE t=1):=fun e=>by unfold textE;rw[if_neg hs,e];rfl
  have HNO:Hid (okText t=false):=by
   unfold Hid
   cases e:okText t with
   | false=>rfl
   | true=>exact absurd (eX.2 ⟨hs2,e⟩) hk
  clear h hk hs
  go_in
  go_wp2_with fail
  go_loopw [9] (fun i wr=>∃(k:Nat),k≤t.size∧i=zI k∧Hid ((t.toList.take k).all (fun c=>Bm.isL (c.toNat:Int))=true)∧Hid (wr=w)) (fun i _=>t.size-(intOf i).toNat)
  case atStart=>exact⟨0,by omega,rfl,rfl,rfl⟩
  case round=>
   obtain⟨k,hk,rfl,HTK,HW⟩:=hrel
   by_cases hlt:k<t.size
   ·have hltz:(k:Int)<t.size:=by omega
    have HY:=z9 (aDp hlt HTK.out)
    rw[lS t k hlt] at HY
    have hx255:((t[k]'hlt).toNat:Int)≤255:=by have:=(t[k]'hlt).toNat_lt;omega
    have CL:=Lp.dG ((t[k]'hlt).toNat:Int) wr
    cases hb:Bm.isL ((t[k]'hlt).toNat:Int) with
    | true=>
     rw[hb] at CL
     have HY2:=z9 (HY.out hb)
     clear HY hb
     go_wp2_with fail
     refine CL.mono ?_
     rintro e w2 ⟨rfl,hw⟩
     have HW2:=z9 (hw.trans HW.out)
     clear hw CL
     go_wp2_with fail
     go_roundw
     case rel=>exact⟨k+1,by omega,by go_num,HY2,HW2⟩
     case measure=>simp[intOf];omega
    | false=>
     rw[hb] at CL
     clear HY hb
     go_wp2_with fail
     refine CL.mono ?_
     rintro e w2 ⟨rfl,hw⟩
     have HW2:=z9 (hw.trans HW.out)
     clear hw CL
     go_wp2_with fail
     go_ret
     rw[HW2.out]
     exact⟨by rw[HE.out,HT.out HNO.out];rfl,⟨_,_,_,HMK.out,fun e=>absurd e (by rw[HE.out];exact HZ.out)⟩,qD _ _⟩
   ·exfalso
    have h9:=HTK.out
    rw[qW (by rw[Om.aJ];omega)] at h9
    have h8:=HNO.out
    unfold okText at h8
    rw[h9] at h8;cases h8
end Utp
namespace Uup
open Go.ChangeAt Ub Usp Utp
open La (LeafsIn)
open Lj (BookAt)
theorem kW(l:List Bm.Leaf):(⟨(Bm.text l).toArray⟩:ByteArray).size=(seenP l).length:=by
 rw[hS,<-Om.aJ,toList_mk]
theorem nR{l:List Bm.Leaf}{r:Nat}(h:r<(seenP l).length):∃i:Nat,Bm.nth l 0 (r:Int)=i/\i<l.length/\(l.getD i Bm.none0).1=(seenP l).getD r ⟨#[]⟩/\nxt l (r+1)=i+1:=by
 obtain⟨A,x,B,rfl,c,d⟩:=iK l r h;obtain⟨a,e,b⟩:=aAt (A:=A) (B:=B) c;rw[d] at a b;refine⟨A.length,a,by simp,by rw[e,b], ?_⟩;unfold nxt;rw[if_neg (by omega),show(((r+1:Nat):Int)-1)=(r:Int) by omega,a];simp
theorem aBd(t:ByteArray)(M:Nat)(off:Int)(b0 oo0:Nat)(m c:Nat)(B:Nat)(who n:Int)(l:List Bm.Leaf)(w:World)(h:MkAt B w M who n (.slice none 0 0) [])(hk:textE t=0)(hbk:∀W,Below B w W→BookAt W (.slice (some ⟨b0,oo0,none⟩) m c) l)(hb0:Bm.bookE l=0)(h1:1≤who)(h8:who≤8)(hB:B≤w.heap.size)(hn0:0≤n)(hn1:n≤400):
  Calls prog 67 #[.pointer (some ⟨M,0,none⟩),.slice (some ⟨b0,oo0,none⟩) m c,.int .i64 off,.string t] w (MkPost B w M who (insK l who off t) (insLs (leftP l off.toNat) (rightP l off.toNat) who n t t.size)):=by
 obtain⟨ht2,hok⟩:=eX.1 hk
 have HMK:=z9 h
 have HBK:Hid (∀W,Below B w W→LeafsIn W (some ⟨b0,oo0,none⟩) l):=fun W hb=>by
  obtain⟨p9,c9,e9,hin,_⟩:=hbk W hb
  injection e9 with e1 e2 e3
  rw[e1];exact hin
 have hml:m=l.length:=by
  obtain⟨p9,c9,e9,hin,_⟩:=hbk w (qD _ _)
  injection e9
 have HML:=z9 hml.symm
 have hl3:=(Bm.aU.1 hb0).1
 have hm3:m≤300:=by omega
 have HRS:Hid (Bm.Rise l):=(Bm.aU.1 hb0).2.2
 have CT:Hid (∀W,Below B w W→Calls prog 14 #[.slice (some ⟨b0,oo0,none⟩) m c] W fun e w'=>e=.returned (.string ⟨(Bm.text l).toArray⟩)∧zB W w'):=fun W hb=>Mb.gA (some ⟨b0,oo0,none⟩) m c l W HML.out (HBK.out W hb) (Lf.dO hb0).2.2 (by omega)
 have CN:Hid (∀W f,Below B w W→0≤f→Calls prog 69 #[.slice (some ⟨b0,oo0,none⟩) m c,zI f] W fun e w'=>e=.returned (zI (Bm.nth l 0 f))∧zB W w'):=fun W f hb hf=>Mb.lV (some ⟨b0,oo0,none⟩) m c l f W HML.out (HBK.out W hb) (by omega) hf
 have HE:Hid (insK l who off t=if aroundE l off≠0 then 1 else rowE (leftP l off.toNat) (rightP l off.toNat) who t.size):=by unfold Hid insK;rw[if_neg (by simpa using hk)]
 have HSM:Hid ((leftP l off.toNat).size≤12∧(rightP l off.toNat).size≤12):=by
  have:=iN (S:=⟨l,[],[],[]⟩) hb0 off.toNat
  exact⟨this.1,this.2.1⟩
 have HSL:=z9 (kW l)
 have hsl3:(seenP l).length≤300:=by have:=dA l;omega
 obtain⟨tl,htl⟩:∃tl:ByteArray,tl=⟨(Bm.text l).toArray⟩:=⟨_,rfl⟩
 rw[←htl] at CT HSL
 have htl3:tl.size≤300:=by have:=HSL.out;omega
 have HBW:=z9 hB
 have HNB:Hid (0≤n∧n≤400):=⟨hn0,hn1⟩
 have HOK:Hid (∀k,k<t.size→Bm.isL ((t.toList.getD k 0).toNat:Int)=true):=fun k hk9=>aCx hok hk9
 have hsz:¬(200:Int)<t.size:=by omega
 clear h hbk hb0 hk hml hl3 htl hok hB hn0 hn1
 go_in
 go_wp2_with fail
 go_loopw [9] (fun i wr=>∃(k:Nat),k≤t.size∧i=zI k∧Hid (wr=w)) (fun i _=>t.size-(intOf i).toNat)
 case atStart=>exact⟨0,by omega,rfl,rfl⟩
 case round=>
  obtain⟨k,hk,rfl,HW⟩:=hrel
  by_cases hlt:k<t.size
  ·have hltz:(k:Int)<t.size:=by omega
   have hx255:((t[k]'hlt).toNat:Int)≤255:=by have:=(t[k]'hlt).toNat_lt;omega
   have CL:=Lp.dG ((t[k]'hlt).toNat:Int) wr
   have hb:=HOK.out k hlt
   rw[lS t k hlt] at hb
   rw[hb] at CL
   clear hb
   go_wp2_with fail
   refine CL.mono ?_
   rintro e w2 ⟨rfl,hw⟩
   have HW2:=z9 (hw.trans HW.out)
   clear hw CL
   go_wp2_with fail
   go_roundw
   case rel=>exact⟨k+1,by omega,by go_num,HW2⟩
   case measure=>simp[intOf];omega
  ·have hltz:¬(k:Int)<t.size:=by omega
   have HBr:Hid (Below B w wr):=by unfold Hid;rw[HW.out];exact qD _ _
   have HMr:Hid (MkAt B wr M who n (zS) []):=by unfold Hid;rw[HW.out];exact HMK.out
   clear HW HMK
   by_cases ha:0≤off∧off≤(seenP l).length
   case neg=>
    have hae:aroundE l off≠0:=fun e=>ha (bX.1 e)
    have HE1:Hid (insK l who off t=1):=by unfold Hid;rw[HE.out,if_pos hae]
    have hor:off<0∨(¬off<0∧(tl.size:Int)<off):=by have:=HSL.out;omega
    clear ha hae
    rcases hor with ho | ⟨ho,ho2⟩
    ·go_wp2_with fail
     go_ret
     exact⟨by rw[HE1.out];rfl,⟨_,_,_,HMr.out,fun e=>absurd e (by rw[HE1.out];decide)⟩,HBr.out⟩
    ·go_wp2_with fail
     refine(CT.out wr HBr.out).mono ?_
     rintro e w2 ⟨rfl,hb2⟩
     have HB2:=z9 (HBr.out.trans (hb2.mono (qO HBW.out HBr.out.size)))
     have HM2:=z9 (HMr.out.below hb2)
     clear hb2
     go_wp2_with fail
     go_ret
     exact⟨by rw[HE1.out];rfl,⟨_,_,_,HM2.out,fun e=>absurd e (by rw[HE1.out];decide)⟩,HB2.out⟩
   case pos=>
   obtain⟨ha0,ha1⟩:=ha
   obtain⟨o,rfl⟩:∃o:Nat,off=o:=⟨off.toNat,by omega⟩
   have hos:o≤(seenP l).length:=by omega
   have ho0:¬(o:Int)<0:=by omega
   have ho1:¬(tl.size:Int)<o:=by have:=HSL.out;omega
   have HE0:Hid (insK l who (o:Int) t=rowE (leftP l o) (rightP l o) who t.size):=by
    unfold Hid;rw[HE.out,if_neg (by rw[bX.2 ⟨ha0,ha1⟩];simp),xK]
   rw[xK] at HSM ⊢
   have HX:Hid (∀x,x=nxt l o→x≤m):=fun x hx=>by rw[hx,←HML.out];exact(rQ hos).le
   have hR1:nxt l o<m→rightP l o=(l.getD (nxt l o) Bm.none0).1:=fun hlt9=>by unfold rightP;rw[HML.out,if_pos hlt9]
   have hR2:¬nxt l o<m→rightP l o=⟨#[]⟩:=fun hlt9=>by unfold rightP;rw[HML.out,if_neg hlt9]
   obtain⟨x,hx⟩:=zx (nxt l o)
   rw[←hx] at hR1 hR2
   obtain⟨R,hRR⟩:=zx (rightP l o)
   have HRPE:=z9 hRR
   rw[←hRR] at hR1 hR2 HE0 HSM ⊢
   have HR1:=z9 hR1
   have HR2:=z9 hR2
   have hxm:x≤m:=HX.out x hx
   have HPLACE:Hid (∀W i,Below B w W→i<m→W.cell? ⟨b0,oo0+i*3,none⟩=some (.string (l.getD i Bm.none0).1)):=fun W i hb hi=>by
    obtain⟨b,oo,e,hc⟩:=(HBK.out W hb).some (by intro e;have:=HML.out;rw[e] at this;simp at this;omega)
    injection e with e
    injection e with e1 e2
    rw[e1,e2]
    exact(hc i (by rw[HML.out];exact hi)).1
   clear hR1 hR2 HE hRR HX
   go_wp2_with fail
   refine(CT.out wr HBr.out).mono ?_
   rintro e w2 ⟨rfl,hb2⟩
   have HB2:=z9 (HBr.out.trans (hb2.mono (qO HBW.out HBr.out.size)))
   have HM2:=z9 (HMr.out.below hb2)
   clear hb2 HBr HMr CT
   obtain⟨Lp,hLp⟩:=zx (leftP l o)
   rw[←hLp] at HE0 HSM ⊢
   have HL0:Hid (o=0→Lp=⟨#[]⟩∧x=0):=fun e=>by rw[hLp,hx];unfold leftP nxt;rw[if_pos e,if_pos e];exact⟨rfl,rfl⟩
   have HL1:Hid (0<o→∃i:Nat,Bm.nth l 0 ((o:Int)-1)=i∧i<m∧(l.getD i Bm.none0).1=Lp∧x=i+1):=fun e=>by
    obtain⟨i,e1,e2,e3,e4⟩:=nR (l:=l) (r:=o-1) (by omega)
    rw[show(((o-1:Nat):Int))=(o:Int)-1 by omega] at e1
    rw[show o-1+1=o by omega] at e4
    exact⟨i,e1,by rw[←HML.out];exact e2,by rw[e3,hLp];exact(left_at e).symm,by rw[hx];exact e4⟩
   have HLPE:=z9 hLp
   clear hLp hx
   go_upto_if 43 with fail
   go_cut [11,12] from 17 to 54 (fun s11 s12 wx=>s11=zI x∧s12=.string Lp∧Hid (zB w2 wx))
   case first=>
    by_cases h0:o=0
    ·obtain⟨e1,e2⟩:=HL0.out h0
     subst e1 e2 h0
     go_wp2_with fail
     go_meet
     case rel=>exact⟨rfl,rfl,qD _ _⟩
    ·have h0p:0<o:=by omega
     have h0z:(0:Int)<o:=by omega
     obtain⟨i,e1,e2,e3,e4⟩:=HL1.out h0p
     have CN2:=CN.out w2 ((o:Int)-1) HB2.out (by omega)
     rw[e1] at CN2
     have hi3:(i:Int)≤300:=by omega
     have himz:(i:Int)<m:=by omega
     have HIX:=z9 e4
     have HIP:=z9 e3
     clear e1 e3 e4 HL0 HL1
     go_wp2_with fail
     refine CN2.mono ?_
     rintro e w3 ⟨rfl,hb3⟩
     have HB3:=z9 hb3
     have hcell:=HPLACE.out w3 i (HB2.out.trans (hb3.mono (qO HBW.out HB2.out.size))) e2
     rw[HIP.out] at hcell
     clear CN2 hb3
     go_wp2_with fail
     go_meet
     case rel=>exact⟨by rw[HIX.out];go_num,rfl,HB3⟩
   case rest=>
   obtain⟨rfl,rfl,HB3⟩:=hcut
   have HB3w:=z9 (HB2.out.trans (HB3.out.mono (qO HBW.out HB2.out.size)))
   have HM3:=z9 (HM2.out.below HB3.out)
   obtain⟨w3,hw3⟩:=zx wc
   have HBW3:Hid (Below B w w3):=by unfold Hid;rw[hw3];exact HB3w.out
   have HMW3:Hid (MkAt B w3 M who n (zS) []):=by unfold Hid;rw[hw3];exact HM3.out
   clear HB3 HB2 HM2 HL0 HL1
   go_upto_if 58 with fail
   go_cut [13] from 17 to 63 (fun s13 wx=>s13=.string R∧w3=wx)
   case first=>
    by_cases hxm2:x<m
    ·have hxz:(x:Int)<m:=by omega
     have hcell:=HPLACE.out wc x HB3w.out hxm2
     rw[←HR1.out hxm2] at hcell
     go_wp2_with fail
     go_meet
     case rel=>exact⟨rfl,hw3⟩
    ·have hxz:¬(x:Int)<m:=by omega
     have e9:=HR2.out hxm2
     subst e9
     go_wp2_with fail
     go_meet
     case rel=>exact⟨rfl,hw3⟩
   case rest=>
   obtain⟨rfl,hw9⟩:=hcut
   rw[←hw9]
   clear hw9 hw3 HB3w HM3 HPLACE CN HBK
   go_wp2_with fail
   go_loopw [12,14] (fun vl vi wr=>∃(j:Nat) (v:Value) (L:List (Ox × Value)),j≤t.size∧vi=zI j∧vl=.string (nthP Lp R who j)∧Hid (rowE Lp R who j=0)∧Hid (MkAt B wr M who (n+j) v L)∧Hid (L.map (·.1)=insLs Lp R who n t j)∧Hid (Below B w wr)) (fun _ vi _=>t.size-(intOf vi).toNat)
   case atStart=>exact⟨0,zS,[],by omega,rfl,rfl,rfl,by have h9:=HMW3.out;rw[show n+((0:Nat):Int)=n by omega];exact h9,rfl,HBW3⟩
   case round=>
    clear HMW3 HBW3
    obtain⟨j,v,L,hj,rfl,rfl,HR,HMj,HLj,HBj⟩:=hrel
    by_cases hjt:j<t.size
    ·have hjz:(j:Int)<t.size:=by omega
     have c0:=aB HMj.out.blk (i:=0) (u:=zI who) rfl
     have hLl:L.length=j:=by have h9:=congrArg List.length HLj.out;rw[jM] at h9;rw[h9];unfold insLs;simp
     have HLL:Hid (L.length≤1000):=by unfold Hid;omega
     have hx255:((t[j]'hjt).toNat:Int)≤255:=by have:=(t[j]'hjt).toNat_lt;omega
     have CB:=Qi.qM (nthP Lp R who j) R who wr (by have:=lT HR.out HSM.out.1 j (qC _);unfold maxLen;omega) (by have:=HSM.out.2;unfold maxLen;omega) h1 h8 (nthP Lp R who (j+1)) rfl (rowE Lp R who (j+1)) (aCq HR.out).symm
     obtain⟨p2,hp2⟩:=zx (nthP Lp R who (j+1))
     rw[←hp2] at CB
     have HP2:=z9 hp2
     have HIO:Hid (insO Lp R who n t j=((who,n+j+1),1,p2,((t[j]'hjt).toNat:Int),[])):=by
      unfold Hid insO;rw[lS t j hjt,hp2,show n+1+(j:Int)=n+j+1 by omega]
     clear hp2 hLl
     by_cases hz:rowE Lp R who (j+1)=0
     ·have HR2:=z9 hz
      rw[hz] at CB
      clear hz
      go_wp2_with fail
      refine CB.mono ?_
      rintro e w4 ⟨rfl,hb4⟩
      have HB4:=z9 (HBj.out.trans (hb4.mono (qO HBW.out HBj.out.size)))
      have CA:=nV B M who (n+j) v L 1 p2 ((t[j]'hjt).toNat:Int) (zS) [] w4 (HMj.out.below hb4) (jT _ _ _ _) (qO HBW.out HB4.out.size) (by have:=HNB.out.1;omega) (by have:=HNB.out.2;omega) HLL.out
      clear CB hb4 c0
      go_wp2_with fail
      refine CA.mono ?_
      rintro e w5 ⟨rfl,v5,hm5,hb5⟩
      have HB5:=z9 (HB4.out.trans hb5)
      have HM5:Hid (MkAt B w5 M who (n+((j+1:Nat):Int)) v5 (L++[(((who,n+j+1),1,p2,((t[j]'hjt).toNat:Int),[]),zS)])):=by
       unfold Hid;rw[show n+((j+1:Nat):Int)=n+j+1 by omega];exact hm5
      have HL5:Hid ((L++[(((who,n+j+1),1,p2,((t[j]'hjt).toNat:Int),[]),(zS:Value))]:List (Ox × Value)).map (fun y:Ox × Value=>y.1)=insLs Lp R who n t (j+1)):=by
       unfold Hid;rw[xL,HLj.out,uH,HIO.out];rfl
      clear CA hm5 hb5
      go_wp2_with fail
      go_roundw
      case rel=>exact⟨j+1,v5,_,by omega,by go_num,by rw[HP2.out],HR2,HM5,HL5,HB5⟩
      case measure=>simp[intOf];omega
     ·have HE2:Hid (insK l who (o:Int) t=rowE Lp R who (j+1)):=by unfold Hid;rw[HE0.out];exact tN hz _ (by omega)
      have HZ:=z9 hz
      obtain⟨ez,hez⟩:=zx (rowE Lp R who (j+1))
      rw[←hez] at CB HE2 HZ
      have hzb:(ez !=0)=true:=by have:=HZ.out;simpa using this
      clear hz hez
      go_wp2_with fail
      refine CB.mono ?_
      rintro e w4 ⟨rfl,hb4⟩
      have HB4:=z9 (HBj.out.trans (hb4.mono (qO HBW.out HBj.out.size)))
      have HM4:=z9 (HMj.out.below hb4)
      clear CB hb4 c0
      go_wp2_with fail
      go_ret
      exact⟨by rw[HE2.out];rfl,⟨_,_,_,HM4.out,fun e=>absurd e (by rw[HE2.out];exact HZ.out)⟩,HB4.out⟩
    ·have hje:j=t.size:=by omega
     have hjz:¬(j:Int)<t.size:=by omega
     have HE2:Hid (insK l who (o:Int) t=0):=by unfold Hid;rw[HE0.out,←hje];exact HR.out
     have HLE:Hid (L.map (·.1)=insLs Lp R who n t t.size):=by unfold Hid;rw[←hje];exact HLj.out
     clear hje
     go_wp2_with fail
     go_ret
     exact⟨by rw[HE2.out];rfl,⟨_,_,_,HMj.out,fun _=>by rw[←HLPE.out,←HRPE.out];exact HLE.out⟩,HBj.out⟩
theorem aBm(t:ByteArray)(M:Nat)(off:Int)(q:Option Addr)(m c:Nat)(B:Nat)(who n:Int)(l:List Bm.Leaf)(w:World)(h:MkAt B w M who n (.slice none 0 0) [])(hk:textE t=0)(hbk:∀W,Below B w W→BookAt W (.slice q m c) l)(hb0:Bm.bookE l=0)(h1:1≤who)(h8:who≤8)(hB:B≤w.heap.size)(hn0:0≤n)(hn1:n≤400)(hm0:m=0):
  Calls prog 67 #[.pointer (some ⟨M,0,none⟩),.slice q m c,.int .i64 off,.string t] w (MkPost B w M who (insK l who off t) (insLs (leftP l off.toNat) (rightP l off.toNat) who n t t.size)):=by
 obtain⟨ht2,hok⟩:=eX.1 hk
 have HMK:=z9 h
 have HBK:Hid (∀W,Below B w W→LeafsIn W q l):=fun W hb=>by
  obtain⟨p9,c9,e9,hin,_⟩:=hbk W hb
  injection e9 with e1 e2 e3
  rw[e1];exact hin
 have hml:m=l.length:=by
  obtain⟨p9,c9,e9,hin,_⟩:=hbk w (qD _ _)
  injection e9
 have HML:=z9 hml.symm
 have HM0:=z9 hm0
 have hl3:=(Bm.aU.1 hb0).1
 have hm3:m≤300:=by omega
 have HRS:Hid (Bm.Rise l):=(Bm.aU.1 hb0).2.2
 have CT:Hid (∀W,Below B w W→Calls prog 14 #[.slice q m c] W fun e w'=>e=.returned (.string ⟨(Bm.text l).toArray⟩)∧zB W w'):=fun W hb=>Mb.gA q m c l W HML.out (HBK.out W hb) (Lf.dO hb0).2.2 (by omega)
 have CN:Hid (∀W f,Below B w W→0≤f→Calls prog 69 #[.slice q m c,zI f] W fun e w'=>e=.returned (zI (Bm.nth l 0 f))∧zB W w'):=fun W f hb hf=>Mb.lV q m c l f W HML.out (HBK.out W hb) (by omega) hf
 have HE:Hid (insK l who off t=if aroundE l off≠0 then 1 else rowE (leftP l off.toNat) (rightP l off.toNat) who t.size):=by unfold Hid insK;rw[if_neg (by simpa using hk)]
 have HSM:Hid ((leftP l off.toNat).size≤12∧(rightP l off.toNat).size≤12):=by
  have:=iN (S:=⟨l,[],[],[]⟩) hb0 off.toNat
  exact⟨this.1,this.2.1⟩
 have HSL:=z9 (kW l)
 have hsl3:(seenP l).length≤300:=by have:=dA l;omega
 obtain⟨tl,htl⟩:∃tl:ByteArray,tl=⟨(Bm.text l).toArray⟩:=⟨_,rfl⟩
 rw[←htl] at CT HSL
 have htl3:tl.size≤300:=by have:=HSL.out;omega
 have HBW:=z9 hB
 have HNB:Hid (0≤n∧n≤400):=⟨hn0,hn1⟩
 have HOK:Hid (∀k,k<t.size→Bm.isL ((t.toList.getD k 0).toNat:Int)=true):=fun k hk9=>aCx hok hk9
 have hsz:¬(200:Int)<t.size:=by omega
 clear hm0 h hbk hb0 hk hml hl3 htl hok hB hn0 hn1
 go_in
 go_wp2_with fail
 go_loopw [9] (fun i wr=>∃(k:Nat),k≤t.size∧i=zI k∧Hid (wr=w)) (fun i _=>t.size-(intOf i).toNat)
 case atStart=>exact⟨0,by omega,rfl,rfl⟩
 case round=>
  obtain⟨k,hk,rfl,HW⟩:=hrel
  by_cases hlt:k<t.size
  ·have hltz:(k:Int)<t.size:=by omega
   have hx255:((t[k]'hlt).toNat:Int)≤255:=by have:=(t[k]'hlt).toNat_lt;omega
   have CL:=Lp.dG ((t[k]'hlt).toNat:Int) wr
   have hb:=HOK.out k hlt
   rw[lS t k hlt] at hb
   rw[hb] at CL
   clear hb
   go_wp2_with fail
   refine CL.mono ?_
   rintro e w2 ⟨rfl,hw⟩
   have HW2:=z9 (hw.trans HW.out)
   clear hw CL
   go_wp2_with fail
   go_roundw
   case rel=>exact⟨k+1,by omega,by go_num,HW2⟩
   case measure=>simp[intOf];omega
  ·have hltz:¬(k:Int)<t.size:=by omega
   have HBr:Hid (Below B w wr):=by unfold Hid;rw[HW.out];exact qD _ _
   have HMr:Hid (MkAt B wr M who n (zS) []):=by unfold Hid;rw[HW.out];exact HMK.out
   clear HW HMK
   by_cases ha:0≤off∧off≤(seenP l).length
   case neg=>
    have hae:aroundE l off≠0:=fun e=>ha (bX.1 e)
    have HE1:Hid (insK l who off t=1):=by unfold Hid;rw[HE.out,if_pos hae]
    have hor:off<0∨(¬off<0∧(tl.size:Int)<off):=by have:=HSL.out;omega
    clear ha hae
    rcases hor with ho | ⟨ho,ho2⟩
    ·go_wp2_with fail
     go_ret
     exact⟨by rw[HE1.out];rfl,⟨_,_,_,HMr.out,fun e=>absurd e (by rw[HE1.out];decide)⟩,HBr.out⟩
    ·go_wp2_with fail
     refine(CT.out wr HBr.out).mono ?_
     rintro e w2 ⟨rfl,hb2⟩
     have HB2:=z9 (HBr.out.trans (hb2.mono (qO HBW.out HBr.out.size)))
     have HM2:=z9 (HMr.out.below hb2)
     clear hb2
     go_wp2_with fail
     go_ret
     exact⟨by rw[HE1.out];rfl,⟨_,_,_,HM2.out,fun e=>absurd e (by rw[HE1.out];decide)⟩,HB2.out⟩
   case pos=>
   obtain⟨ha0,ha1⟩:=ha
   obtain⟨o,rfl⟩:∃o:Nat,off=o:=⟨off.toNat,by omega⟩
   have hos:o≤(seenP l).length:=by omega
   have ho0:¬(o:Int)<0:=by omega
   have ho1:¬(tl.size:Int)<o:=by have:=HSL.out;omega
   have HE0:Hid (insK l who (o:Int) t=rowE (leftP l o) (rightP l o) who t.size):=by
    unfold Hid;rw[HE.out,if_neg (by rw[bX.2 ⟨ha0,ha1⟩];simp),xK]
   rw[xK] at HSM ⊢
   have HX:Hid (∀x,x=nxt l o→x≤m):=fun x hx=>by rw[hx,←HML.out];exact(rQ hos).le
   have hR1:nxt l o<m→rightP l o=(l.getD (nxt l o) Bm.none0).1:=fun hlt9=>by unfold rightP;rw[HML.out,if_pos hlt9]
   have hR2:¬nxt l o<m→rightP l o=⟨#[]⟩:=fun hlt9=>by unfold rightP;rw[HML.out,if_neg hlt9]
   obtain⟨x,hx⟩:=zx (nxt l o)
   rw[←hx] at hR1 hR2
   obtain⟨R,hRR⟩:=zx (rightP l o)
   have HRPE:=z9 hRR
   rw[←hRR] at hR1 hR2 HE0 HSM ⊢
   have HR1:=z9 hR1
   have HR2:=z9 hR2
   have hxm:x≤m:=HX.out x hx
   clear hR1 hR2 HE hRR HX
   go_wp2_with fail
   refine(CT.out wr HBr.out).mono ?_
   rintro e w2 ⟨rfl,hb2⟩
   have HB2:=z9 (HBr.out.trans (hb2.mono (qO HBW.out HBr.out.size)))
   have HM2:=z9 (HMr.out.below hb2)
   clear hb2 HBr HMr CT
   obtain⟨Lp,hLp⟩:=zx (leftP l o)
   rw[←hLp] at HE0 HSM ⊢
   have HL0:Hid (o=0→Lp=⟨#[]⟩∧x=0):=fun e=>by rw[hLp,hx];unfold leftP nxt;rw[if_pos e,if_pos e];exact⟨rfl,rfl⟩
   have HL1:Hid (0<o→∃i:Nat,Bm.nth l 0 ((o:Int)-1)=i∧i<m∧(l.getD i Bm.none0).1=Lp∧x=i+1):=fun e=>by
    obtain⟨i,e1,e2,e3,e4⟩:=nR (l:=l) (r:=o-1) (by omega)
    rw[show(((o-1:Nat):Int))=(o:Int)-1 by omega] at e1
    rw[show o-1+1=o by omega] at e4
    exact⟨i,e1,by rw[←HML.out];exact e2,by rw[e3,hLp];exact(left_at e).symm,by rw[hx];exact e4⟩
   have HLPE:=z9 hLp
   clear hLp hx
   go_upto_if 43 with fail
   go_cut [11,12] from 17 to 54 (fun s11 s12 wx=>s11=zI x∧s12=.string Lp∧Hid (zB w2 wx))
   case first=>
    by_cases h0:o=0
    ·obtain⟨e1,e2⟩:=HL0.out h0
     subst e1 e2 h0
     go_wp2_with fail
     go_meet
     case rel=>exact⟨rfl,rfl,qD _ _⟩
    ·have h0p:0<o:=by omega
     have h0z:(0:Int)<o:=by omega
     obtain⟨i,e1,e2,e3,e4⟩:=HL1.out h0p
     exfalso
     have:=HM0.out
     omega
   case rest=>
   obtain⟨rfl,rfl,HB3⟩:=hcut
   have HB3w:=z9 (HB2.out.trans (HB3.out.mono (qO HBW.out HB2.out.size)))
   have HM3:=z9 (HM2.out.below HB3.out)
   obtain⟨w3,hw3⟩:=zx wc
   have HBW3:Hid (Below B w w3):=by unfold Hid;rw[hw3];exact HB3w.out
   have HMW3:Hid (MkAt B w3 M who n (zS) []):=by unfold Hid;rw[hw3];exact HM3.out
   clear HB3 HB2 HM2 HL0 HL1
   go_upto_if 58 with fail
   go_cut [13] from 17 to 63 (fun s13 wx=>s13=.string R∧w3=wx)
   case first=>
    by_cases hxm2:x<m
    ·have hxz:(x:Int)<m:=by omega
     exfalso
     have:=HM0.out
     omega
    ·have hxz:¬(x:Int)<m:=by omega
     have e9:=HR2.out hxm2
     subst e9
     go_wp2_with fail
     go_meet
     case rel=>exact⟨rfl,hw3⟩
   case rest=>
   obtain⟨rfl,hw9⟩:=hcut
   rw[←hw9]
   clear hw9 hw3 HB3w HM3 CN HBK
   go_wp2_with fail
   go_loopw [12,14] (fun vl vi wr=>∃(j:Nat) (v:Value) (L:List (Ox × Value)),j≤t.size∧vi=zI j∧vl=.string (nthP Lp R who j)∧Hid (rowE Lp R who j=0)∧Hid (MkAt B wr M who (n+j) v L)∧Hid (L.map (·.1)=insLs Lp R who n t j)∧Hid (Below B w wr)) (fun _ vi _=>t.size-(intOf vi).toNat)
   case atStart=>exact⟨0,zS,[],by omega,rfl,rfl,rfl,by have h9:=HMW3.out;rw[show n+((0:Nat):Int)=n by omega];exact h9,rfl,HBW3⟩
   case round=>
    clear HMW3 HBW3
    obtain⟨j,v,L,hj,rfl,rfl,HR,HMj,HLj,HBj⟩:=hrel
    by_cases hjt:j<t.size
    ·have hjz:(j:Int)<t.size:=by omega
     have c0:=aB HMj.out.blk (i:=0) (u:=zI who) rfl
     have hLl:L.length=j:=by have h9:=congrArg List.length HLj.out;rw[jM] at h9;rw[h9];unfold insLs;simp
     have HLL:Hid (L.length≤1000):=by unfold Hid;omega
     have hx255:((t[j]'hjt).toNat:Int)≤255:=by have:=(t[j]'hjt).toNat_lt;omega
     have CB:=Qi.qM (nthP Lp R who j) R who wr (by have:=lT HR.out HSM.out.1 j (qC _);unfold maxLen;omega) (by have:=HSM.out.2;unfold maxLen;omega) h1 h8 (nthP Lp R who (j+1)) rfl (rowE Lp R who (j+1)) (aCq HR.out).symm
     obtain⟨p2,hp2⟩:=zx (nthP Lp R who (j+1))
     rw[←hp2] at CB
     have HP2:=z9 hp2
     have HIO:Hid (insO Lp R who n t j=((who,n+j+1),1,p2,((t[j]'hjt).toNat:Int),[])):=by
      unfold Hid insO;rw[lS t j hjt,hp2,show n+1+(j:Int)=n+j+1 by omega]
     clear hp2 hLl
     by_cases hz:rowE Lp R who (j+1)=0
     ·have HR2:=z9 hz
      rw[hz] at CB
      clear hz
      go_wp2_with fail
      refine CB.mono ?_
      rintro e w4 ⟨rfl,hb4⟩
      have HB4:=z9 (HBj.out.trans (hb4.mono (qO HBW.out HBj.out.size)))
      have CA:=nV B M who (n+j) v L 1 p2 ((t[j]'hjt).toNat:Int) (zS) [] w4 (HMj.out.below hb4) (jT _ _ _ _) (qO HBW.out HB4.out.size) (by have:=HNB.out.1;omega) (by have:=HNB.out.2;omega) HLL.out
      clear CB hb4 c0
      go_wp2_with fail
      refine CA.mono ?_
      rintro e w5 ⟨rfl,v5,hm5,hb5⟩
      have HB5:=z9 (HB4.out.trans hb5)
      have HM5:Hid (MkAt B w5 M who (n+((j+1:Nat):Int)) v5 (L++[(((who,n+j+1),1,p2,((t[j]'hjt).toNat:Int),[]),zS)])):=by
       unfold Hid;rw[show n+((j+1:Nat):Int)=n+j+1 by omega];exact hm5
      have HL5:Hid ((L++[(((who,n+j+1),1,p2,((t[j]'hjt).toNat:Int),[]),(zS:Value))]:List (Ox × Value)).map (fun y:Ox × Value=>y.1)=insLs Lp R who n t (j+1)):=by
       unfold Hid;rw[xL,HLj.out,uH,HIO.out];rfl
      clear CA hm5 hb5
      go_wp2_with fail
      go_roundw
      case rel=>exact⟨j+1,v5,_,by omega,by go_num,by rw[HP2.out],HR2,HM5,HL5,HB5⟩
      case measure=>simp[intOf];omega
     ·have HE2:Hid (insK l who (o:Int) t=rowE Lp R who (j+1)):=by unfold Hid;rw[HE0.out];exact tN hz _ (by omega)
      have HZ:=z9 hz
      obtain⟨ez,hez⟩:=zx (rowE Lp R who (j+1))
      rw[←hez] at CB HE2 HZ
      have hzb:(ez !=0)=true:=by have:=HZ.out;simpa using this
      clear hz hez
      go_wp2_with fail
      refine CB.mono ?_
      rintro e w4 ⟨rfl,hb4⟩
      have HB4:=z9 (HBj.out.trans (hb4.mono (qO HBW.out HBj.out.size)))
      have HM4:=z9 (HMj.out.below hb4)
      clear CB hb4 c0
      go_wp2_with fail
      go_ret
      exact⟨by rw[HE2.out];rfl,⟨_,_,_,HM4.out,fun e=>absurd e (by rw[HE2.out];exact HZ.out)⟩,HB4.out⟩
    ·have hje:j=t.size:=by omega
     have hjz:¬(j:Int)<t.size:=by omega
     have HE2:Hid (insK l who (o:Int) t=0):=by unfold Hid;rw[HE0.out,←hje];exact HR.out
     have HLE:Hid (L.map (·.1)=insLs Lp R who n t t.size):=by unfold Hid;rw[←hje];exact HLj.out
     clear hje
     go_wp2_with fail
     go_ret
     exact⟨by rw[HE2.out];rfl,⟨_,_,_,HMj.out,fun _=>by rw[←HLPE.out,←HRPE.out];exact HLE.out⟩,HBj.out⟩
end Uup
end Go.Proofs.YtjcemlmlfoilmaaGreatDoor
