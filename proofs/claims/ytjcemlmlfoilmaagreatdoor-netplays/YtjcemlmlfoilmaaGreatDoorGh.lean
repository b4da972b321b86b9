import Derived.Test.YtjcemlmlfoilmaaGreatDoorGz
set_option linter.unusedSimpArgs false
set_option linter.unusedVariables false
set_option maxRecDepth 100000
set_option maxHeartbeats 8000000
namespace Go.Proofs.YtjcemlmlfoilmaaGreatDoor
namespace Gh
open Go.RowKit Oz Ic Hc Hd Gp
open La (bel aC)
theorem lJ{ops:Array Oper}{o:Oper}{a:Act}{W:World}{K:Act->World->Prop}{Q:Exit->Act->World->Prop}{E:Prop}(hgd:o.guard=none)(sO xO:Operand)(ho:o.op=.call { callee:=.builtin .append,args:=#[sO,xO],argTypes:=#[37,37] })(v:Value)(n m c:Nat)(l y:List Pc)(hs:a.eval sO=v)(ad:Addr)(hx:a.eval xO=.slice (some ad) m c)(hn:l.length=n)(hm:y.length=m)(hlen:n+m<=1048576)(hown:RowP W v l)(hc0:∀j u,(flatP y)[j]? =some u->W.cell? (ad.add j)=some u)(h:∀v' w',RowP w' v' (l++y)->W.grownBy w' v.ownBlock->(v'.ownBlock=v.ownBlock\/v'.ownBlock=some W.heap.size)->K (a.put o.dst v') w'):
  if Region.wanted o (yielded ops a.tmps)=true then Oper.wp Tryz.prog o a W K Q else E:=by
 have f:Region.wanted o (yielded ops a.tmps)=true:=by simp[Region.wanted,hgd]
 rw[if_pos f];obtain⟨g,i,b,d,e⟩:=info_parts Gy.aA4;obtain⟨v',w',k,p,q,_,r⟩:=run_append_own_at (P:=Tryz.prog) W 0 37 o.type 70 g (.agg #[zI 0,.string ⟨#[]⟩]) 2 24 Tryz.underlying37 i b d e rfl (by decide) v l.length (flatP l) hown ad m c (flatP y) (by rw[bA,hm]) hc0 (pG y) (by unfold maxLen;omega) (by omega) (jW _);unfold Oper.wp execOp;simp only[ho,resolve,invoke,builtin,jZ,vB,vU,xN,jY,vM,hs,hx,k];refine h v' w' ?_ q r;unfold RowP;rw[qE,bZ,hm];exact p
theorem tH{w:World}{g u c:Nat}{l:List Pc}(h:RowP w (.slice (some ⟨g,0,none⟩) u c) l)(i:Nat):∀j x,(flatP (l.drop i))[j]? =some x->w.cell? (({ block:=g,off:=i*2 }:Addr).add j)=some x:=by
 intro j x hx;have d:flatP l=flatP (l.take i)++flatP (l.drop i):=by rw[<-bZ,xD]
 have b:=(jK.1 hx).1
 have e:i<=l.length:=by
  rw[bA,xH] at b;omega
 have a:=World.ownsRow.cells h (g:=g) rfl (i*2+j) x (by
  rw[d,jG (by rw[bA,qQ];omega),bA,qQ,show i*2+j-min i l.length*2=j by omega];exact hx)
 rw[jU] at a |-;rw[qY] at a;exact a
theorem sT{w:World}{g u c:Nat}{l:List Pc}(h:RowP w (.slice (some ⟨g,0,none⟩) u c) l)(i:Nat):∀j x,(flatP (l.take i))[j]? =some x->w.cell? ((⟨g,0,none⟩:Addr).add j)=some x:=by
 intro j x hx;have b:flatP l=flatP (l.take i)++flatP (l.drop i):=by rw[<-bZ,xD]
 have a:=(jK.1 hx).1;exact World.ownsRow.cells h (g:=g) rfl j x (by rw[b,xS a];exact hx)
theorem aBC(X : Nat)(vd vu : Value)(N : Nt)(E : Nat -> Nat)(Fd : Nat -> Nat -> Prop)(F : Nat -> Prop)(i : Nat)(b c : Int)(w : World)(m : NAt w X vd vu N E Fd)(hF : ∀ g, F g ↔ Fs X vd vu N.ds.length Fd g)(hu : 100 <= N.us.length)(hu2 : N.us.length <= 1000)(hi : i < N.us.length) :
  Calls Tryz.prog 7 #[ptr X, evV (6, i, b, c)] w fun r w' => r = .returned (.int .i64 4) /\ Below w.heap.size w w' := by
 obtain ⟨R, C, t, _, _, D⟩ := m.fJ;obtain ⟨g, rfl, A⟩ := D (by omega);obtain⟨u,h⟩:=zx N.us.length
 have l : Hid (∀ W, Below w.heap.size w W -> W.cell? ⟨X, 1, none⟩ = some (.slice (some ⟨g, 0, none⟩) u C) /\ W.cell? ⟨g, i * 2, none⟩ = some (.int .i64 (N.us.getD i pz).1) /\ W.cell? ⟨g, i * 2 + 1, none⟩ = some (.string (N.us.getD i pz).2)) := fun W hb => by
  refine ⟨aA hb ?_, aA hb (A i hi).1, aA hb (A i hi).2⟩;have J := aB m.blk (i := 1) (u := vu) rfl;rw [J, t, h]
 generalize N.us.getD i pz = q at l |-;rw [<- h] at hu hi hu2;have S : decide ((i : Int) < 0) = false := by simp
 have T : decide ((u : Int) <= (i : Int)) = false := by simp; omega
 have U : ¬ (u : Int) <= (i : Int) := by omega
 have V : (i : Int) < (u : Int) := by omega
 have Y : (0 : Int) <= (i : Int) := by omega
 have Q : (100 : Int) <= (u : Int) := by omega
 have d : Below w.heap.size w (w.alloc (.cells #[.int .i64 6, .int .i64 i, .int .i64 b, .int .i64 c] 33)) := (qD _ _).alloc (qC _) _;have e := heap_alloc_new w (.cells #[.int .i64 6, .int .i64 i, .int .i64 b, .int .i64 c] 33);clear m hF h t D A;go_in;go_upto_region 1 with fail
 generalize w.alloc (.cells #[.int .i64 6, .int .i64 i, .int .i64 b, .int .i64 c] 33) = w0 at d e |-;have G := Hid.mk' d;have B : Hid (∀ W, Below w0.heap.size w0 W -> W.cell? ⟨w.heap.size, 0, none⟩ = some (.int .i64 6) /\ W.cell? ⟨w.heap.size, 1, none⟩ = some (.int .i64 i)) := fun W hb => ⟨aA hb (aB e (i := 0) rfl), aA hb (aB e (i := 1) rfl)⟩
 obtain ⟨n, o⟩ := B.out w0 (qD _ _);obtain ⟨j, p, s⟩ := l.out w0 d;clear d e;go_wp2_with fail;go_quiet (fail)
 generalize k : World.drewN _ _ = w1;have v : Hid (Below w.heap.size w w1) := by rw [<- k]; exact La.aC G.out _
 have y : Hid (Below w0.heap.size w0 w1) := by rw [<- k]; exact La.aC (qD _ _) _
 clear k n o j p s;obtain ⟨n, o⟩ := B.out w1 y.out;obtain ⟨j, p, s⟩ := l.out w1 v.out;have f : Hid (∀ O, Below w1.heap.size w1 (w1.alloc O)) := fun O => (qD _ w1).alloc (qC _) O
 have K : ∀ O, (w1.alloc O).cell? ⟨X, 1, none⟩ = some (.slice (some ⟨g, 0, none⟩) u C) := fun O => aA (f.out O) j
 have L : ∀ O, (w1.alloc O).cell? ⟨g, i * 2, none⟩ = some (.int .i64 q.1) := fun O => aA (f.out O) p
 have M : ∀ O, (w1.alloc O).cell? ⟨g, i * 2 + 1, none⟩ = some (.string q.2) := fun O => aA (f.out O) s
 have P : ∀ O, (w1.alloc O).cell? ⟨w.heap.size, 1, none⟩ = some (.int .i64 i) := fun O => aA (f.out O) o
 go_upto_region 22 with fail
 go_cut [6] (fun s6 wx => s6 = .pointer (some ⟨w1.heap.size, 0, none⟩) /\ Hid (Below w1.heap.size w1 wx /\ wx.heap[w1.heap.size]? = some (.cells #[.int .i64 q.1, .string q.2] 70)))
 case first =>
  go_region_law (fail)
  all_goals
   go_wp2_with fail;go_meet
   case rel => exact ⟨rfl, (f.out _).drew, heap_alloc_new w1 _⟩
 case rest =>
  obtain ⟨rfl, H⟩ := hcut;have z : Hid (Below w.heap.size w wc) := bel v.out H.out.1;have I : Hid (Below w0.heap.size w0 wc) := bel y.out H.out.1;clear n o j p s K L M P f;have n := (B.out wc I.out).1;have j := (l.out wc z.out).1;go_wp2_with fail;go_ret;exact ⟨rfl, z.out⟩
end Gh
end Go.Proofs.YtjcemlmlfoilmaaGreatDoor
