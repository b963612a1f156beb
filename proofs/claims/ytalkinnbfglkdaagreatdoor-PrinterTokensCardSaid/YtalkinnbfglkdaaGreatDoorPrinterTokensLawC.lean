/-
  The law arraylanglaw13.PrinterTokens holds for every input: it returns true, and each argument reads afterwards as it read before. No condition.
-/
import Derived.Test.YtalkinnbfglkdaaGreatDoorPt48
import Derived.Test.YtalkinnbfglkdaaGreatDoorPt29
import Derived.Test.YtalkinnbfglkdaaGreatDoorPt22
import Derived.ProofKit
import Derived.OpenShut
set_option maxHeartbeats 2000000
namespace Go.Proofs.YtalkinnbfglkdaaGreatDoor.printerTokensProof
open Go.ChangeShapes Go.WideShapes Go.ChangeAt Go.RowKit Go.Proofs.YtalkinnbfglkdaaGreatDoor.Syn
open Go.WideMaps Go.WideElems
open Go.ChangeMaps (open_string shut_string)
set_option linter.unusedVariables false
theorem own:ownKnob Tryz.prog.godebug=none:=by kernel_rfl
theorem laidOut:laidOutB Tryz.prog=true:=by kernel_rfl
theorem walk (a0:Option Addr) (c0:Nat) (x0:List St) (m0 o0:Nat) (w:World) (hT:Tabs10 w) (b0:x0.length<=c0/\c0<=9223372036854775807) (e0:x0≠[]->a0=some ⟨m0,o0,none⟩) (g0:StsAt w m0 o0 x0) (s0:RcB x0) :
  Calls Tryz.prog 3 #[.agg #[.slice a0 x0.length c0]] w fun e w'=>e=.returned (.bool true)/\Below w.heap.size w w':=by
 exact tokensQ a0 c0 m0 o0 x0 w b0 e0 g0 hT s0
theorem witness_row (os:Os) {H:Type}(enc:TypeId × Value->H) :
  (OpenSpec.ofChange Rows.printerTokensSpec).preRow enc Tryz.prog Tryz.f3 Rows.printerTokensRow.domain false Rows.printerTokensRow.laid ((laidWorld os).forCall (fun _ _=>0) ⟨#[],#[.agg #[.slice none 0 0]],[]⟩).memory #[.agg #[.slice none 0 0]]:=by
 have hw:(DataW.whole enc Tryz.prog ((laidWorld os).forCall (fun _ _=>0) ⟨#[],#[.agg #[.slice none 0 0]],[]⟩).memory Tryz.f3.params.toList (OpenSpec.ofChange Rows.printerTokensSpec).vars false (#[.agg #[.slice none 0 0]]:Array Value).toList 8).map (fun x=>(x.1,x.2.1))=some ([.agg [.nil]],[]):=by kernel_rfl
 obtain ⟨⟨x1,x2,x3⟩,hx,hx1⟩:=Option.map_eq_some_iff.1 hw
 simp only [Prod.mk.injEq] at hx1
 obtain ⟨rfl,rfl⟩:=hx1
 exact OpenSpec.preRow_of_cond 8 hx (by kernel_rfl) (fun k hk=>by cases hk) (by kernel_rfl) (laid_met os _)
set_option maxRecDepth 100000 in
theorem lifted (os:Os) (started:os.Started) (H:Type) (enc:TypeId × Value->H) (F0:Stop.Interp) :
  ReturnsInHanded {} Tryz.checked os 3 .any ((OpenSpec.ofChange Rows.printerTokensSpec).preRow enc Tryz.prog Tryz.f3 Rows.printerTokensRow.domain false Rows.printerTokensRow.laid) (((OpenSpec.ofChange Rows.printerTokensSpec).at F0).post enc Tryz.prog Tryz.f3 false true false false):=by
 refine returnsInHanded_of_row (C:=Tryz.checked) (s:=(OpenSpec.ofChange Rows.printerTokensSpec)) own started (by kernel_rfl) Tryz.func3
  (witness_row_atRef (enc:=enc) (C:=Tryz.checked) false (laidWorld os) #[.agg #[.slice none 0 0]] rfl (by kernel_rfl) (by kernel_rfl) (by kernel_rfl) (witness_row os enc)) ?_
 intro W base args ds gs before hval0 hW _ _ hsz0 hL _ _
 have hT:Tabs10 W:=tabs_of hL
 have hsz:(DataW.weightsEach Tryz.prog (Tryz.f3.params.toList++(OpenSpec.ofChange Rows.printerTokensSpec).bare.plain.varTypes Tryz.prog) (ds++gs)).all (·<=reachBytes)=true:=hsz0
 have hval:∀ (j:Nat) t v,Tryz.f3.params[j]?=some t->args[j]?=some v->Value.okWide Tryz.prog W .any base t v:=hval0
 have hW':=hW
 obtain ⟨p,q,hA0,hV,rfl,hfz,hnd⟩:=hW
 have hA:DataW.TrodAll enc Tryz.prog W 0 (fun _=>true) true Tryz.f3.params.toList args.toList ds p:=hA0
 rw [Tryz.params3] at hA hval
 obtain ⟨v0,vs0,d0,ds0,p0,q0,hargs,rfl,rfl,h0,r0⟩:=trodAll_cons hA
 obtain ⟨rfl,rfl,rfl⟩:=trodAll_nil r0
 obtain rfl:args=#[v0]:=by cases args;simp_all
 obtain ⟨rfl,rfl⟩:=trodVars_none hV
 have k0:=h0
 have lt0:∀ x∈p0,x.block<W.heap.size:=by obtain ⟨m,hm⟩:=k0;exact DataW.trod_lt m _ _ _ hm
 obtain ⟨a0,c0,x0,m0,o0,rfl,b0,e0,g0,z0⟩:=prog_arg (hval 0 24 v0 rfl rfl) h0 (fun a b hm=>hfz a b (by simp [hm]))
 have s0:=z0 (Shape.Sized.each hsz (j:=0) rfl rfl)
 clear hA0 hval0
 refine (walk a0 c0 x0 m0 o0 W hT b0 e0 g0 s0).mono fun e W' ⟨he,bel⟩=>?_
 subst he
 exact ⟨_,rfl,_,_,_,[],_,[],hW',trodAll_mk1 (shut_bool Tryz.underlying4 _),(trodAll_cons_mk (Below.trod laidOut (by kernel_rfl) (of_decide_eq_true (by kernel_rfl)) k0 bel lt0) trodAll_mk0),rfl,bel.frame _,fun h=>by cases h⟩
theorem over:Rows.printerTokensRow.holds Tryz.pinned (OpenSpec.ofChange Rows.printerTokensSpec) :=
 OpenClaim.holds_of_cond 3 Tryz.f3 rfl rfl rfl rfl rfl rfl rfl ⟨rfl,rfl,rfl,rfl,rfl⟩ rfl rfl rfl rfl rfl (by kernel_rfl) Tryz.func3 (by kernel_rfl)
  (of_decide_eq_true (by kernel_rfl)) (by unfold Func.isWrapper;first |(rw [if_pos (by decide +kernel)];kernel_rfl) |(rw [if_neg (by decide +kernel)];exact ⟨rfl,rfl⟩))
  (fun os started H enc _ F0=>by rw [OpenClaim.pre_eq_preRow];exact lifted os started H enc F0)
set_option maxRecDepth 100000 in
theorem plainParams:∀ (f:FuncId) (fn:Func),Tryz.prog.funcNamed Rows.printerTokensRow.func=some f->Tryz.prog.funcs[f]?=some fn->true=Tryz.prog.looks []/\∀ (j:Nat) t,fn.params[j]?=some t->Tryz.prog.wantsStandIn t=false:=by
 intro f fn hf hfn
 obtain rfl:f=3:=Option.some.inj ((show Tryz.prog.funcNamed Rows.printerTokensRow.func=some 3 by kernel_rfl).symm.trans hf) |>.symm
 obtain rfl:fn=Tryz.f3:=(Option.some.inj (Tryz.func3.symm.trans hfn)).symm
 refine ⟨by kernel_rfl,fun j t ht=>?_⟩
 have hall:(Tryz.f3.params.toList.all fun t=>!Tryz.prog.wantsStandIn t)=true:=by kernel_rfl
 have hm:t∈Tryz.f3.params.toList:=by
  rw [<- Array.getElem?_toList] at ht
  exact List.mem_of_getElem? ht
 simpa using List.all_eq_true.1 hall t hm
theorem proved:Rows.PrinterTokensCardSaid :=
 Claim7.holds_tied_plain_at .later [] _ _ _ _ over (fun _ h=>by cases h) (by kernel_rfl) (fun _ h=>by cases h) printerTokens_row_tie rfl ⟨rfl,rfl⟩ (by kernel_rfl) rfl plainParams (by kernel_rfl)
end Go.Proofs.YtalkinnbfglkdaaGreatDoor.printerTokensProof
