/- What is proved: whatever events come to a net of any number of nodes, what is refused, how many parcels are under way, whether all are the same, and at the end each node its text, its book and its ops are as the document says; what was given reads as it did. -/
import Derived.Test.YtjcemlmlfoilmaaGreatDoorGaa
import Derived.Test.YtjcemlmlfoilmaaGreatDoorKk
import Derived.Test.YtjcemlmlfoilmaaGreatDoorCards
import Derived.Test.YtjcemlmlfoilmaaGreatDoorTie
import Derived.SevenTiedAt
set_option linter.unusedVariables false
set_option maxRecDepth 100000
set_option maxHeartbeats 8000000
namespace Go.Proofs.YtjcemlmlfoilmaaGreatDoor
open Go.Proofs.Tryz (prog)
namespace NetPlaysOwn
open Go.ChangeShapes Go.RowKit Oo
theorem lifted(os:Os)(started:os.Started)(H:Type)(enc:TypeId × Value->H):
  ReturnsInHanded {} Tryz.checked os 3 .any (fun w args=>(Rows.netPlaysSpec.pre enc prog Tryz.f3 [] false w args/\laidMetH prog Kk.laid w)/\sizedMet enc prog Tryz.f3 (OpenSpec.ofChange Rows.netPlaysSpec) false w args)
   (Rows.netPlaysSpec.post enc prog Tryz.f3 false true false false):=by
 refine returnsInHanded_of_change_and (C:=Tryz.checked) (X:=fun w _=>laidMetH prog Kk.laid w) (fun _ _ _ hh h=>h.of_heap hh) Kk.own started (by kernel_rfl) Tryz.func3
  (ChangeSpec.witness_at (enc:=enc) (C:=Tryz.checked) (os:=os) (X:=fun w _=>laidMetH prog Kk.laid w) false { World.holding prog os ⟨#[],#[],[]⟩ with heap:=(World.holding prog os ⟨#[],#[],[]⟩).heap.modify 0 Kk.put } #[zI 0,zS] 8 rfl (by kernel_rfl) (by kernel_rfl) (by kernel_rfl) (by kernel_rfl) (by kernel_rfl) (Kk.laidWorld_met os _)) ?_
 intro W base args ds gs before hval0 hW _ _ hL _
 have a:=hval0
 have hW':=hW
 obtain⟨p,q,b,f,rfl,I,J⟩:=hW
 have i:=b
 have j:=f
 rw[Tryz.params3] at i a
 obtain⟨k,K,P,L,Q,R,y,rfl,rfl,z,A⟩:=trodAll_cons i
 obtain⟨l,M,S,N,B,T,rfl,rfl,rfl,n,D⟩:=trodAll_cons A
 obtain⟨rfl,rfl,rfl⟩:=trodAll_nil D
 obtain rfl:args=#[k,l]:=by cases args;simp_all
 obtain⟨E,rfl,rfl,rfl,w0⟩:=open_int Tryz.underlying3 (a 0 3 k rfl rfl) z
 have o:=n
 have s:∀x ∈ B,x.block<W.heap.size:=by obtain⟨m,F⟩:=o;exact DataW.trod_lt m _ _ _ F
 obtain⟨t,v,G,rfl,c,d⟩:=Hv.aGf (a 1 22 l rfl rfl) n
 obtain⟨rfl,rfl⟩:gs=[]/\q=[]:=by
  cases gs with
  | nil=>exact⟨rfl,j⟩
  | cons g r=>exact absurd j (by intro h;cases h)
 clear b hval0
 simp only[vY] at hW'
 refine(Gaa.walk E t v G W c d (Kk.sY hL)).mono fun e W' ⟨he,bel⟩=> ?_
 subst he
 exact⟨_,rfl,_,_,_,[],_,[],hW',trodAll_mk1 (shut_bool Tryz.underlying4 _),(trodAll_cons_mk (shut_int Tryz.underlying3 w0) (trodAll_cons_mk (Below.trod laidOut (by kernel_rfl) (of_decide_eq_true (by kernel_rfl)) o bel s) trodAll_mk0)),rfl,bel.frame _,fun h=>by cases h⟩
theorem over:Rows.NetPlaysSaid:=
 OpenClaim.holds_of_wide 3 Tryz.f3 rfl rfl rfl rfl rfl rfl rfl ⟨rfl,rfl,rfl,rfl,rfl⟩ rfl rfl rfl rfl rfl (by kernel_rfl) Tryz.func3 (by kernel_rfl)
  (of_decide_eq_true (by kernel_rfl)) (by unfold Func.isWrapper;rw[if_neg (of_decide_eq_false (by kernel_rfl))];exact⟨rfl,rfl⟩)
  (fun os started H enc _=>lifted os started H enc)
end NetPlaysOwn
theorem netPlays_holds:Rows.NetPlaysCardSaid:=
 Claim7.holds_tied_plain_at .later [] [.handle] true Rows.netPlaysCard.stood.harness true
  NetPlaysOwn.over (fun _ h=>by cases h) (by kernel_rfl) (fun _ h=>by cases h) netPlays_row_tie rfl ⟨rfl,rfl⟩ (by kernel_rfl) rfl
  (fun f fn hf hfn=>by
   obtain rfl:f=3:=Option.some.inj ((show prog.funcNamed Rows.netPlaysRow.func=some 3 by kernel_rfl).symm.trans hf) |>.symm
   obtain rfl:fn=Tryz.f3:=(Option.some.inj (Tryz.func3.symm.trans hfn)).symm
   exact⟨by kernel_rfl,fun j t ht=>by
    rw[Tryz.params3] at ht
    have h3:t=3\/t=22:=by
     rcases j with _ | _ | j
     ·exact(qH (by simpa using ht.symm))
     ·exact(qF (by simpa using ht.symm))
     ·simp at ht
    rcases h3 with rfl | rfl
    ·exact(show prog.wantsStandIn 3=false by kernel_rfl)
    ·exact(show prog.wantsStandIn 22=false by kernel_rfl)⟩)
  (by kernel_rfl)
#print axioms netPlays_holds
end Go.Proofs.YtjcemlmlfoilmaaGreatDoor
