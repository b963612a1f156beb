/-
  Layer 10: the program's fitsKind. (Written by wip/gen/syn-p12.py.)
  Layer 10: what the program's checks ask for is what the document's say (mathematics); maps of names.
  Layer 10: the program's isBody, over a contract of isValid.
  Layer 10: the program's isBody, over a contract of isValid. (Written by wip/gen/syn-p14.py.)
-/
import Derived.Test.YtalkinnbfglkdaaGreatDoorPt34
import Derived.StringKeys
import Derived.WalkMore
set_option maxHeartbeats 16000000
namespace Go.Proofs.YtalkinnbfglkdaaGreatDoor.Syn
open Go.RowKit Go.Proofs.YtalkinnbfglkdaaGreatDoor.Shape
set_option linter.unusedVariables false
set_option linter.unusedSimpArgs false
set_option maxRecDepth 100000
def trainB (N:Nd):Bool:=clsB [2,2] N || clsB [2,2,2] N || clsB [1,2,2] N
def fitB (lam:Bool) (N:Nd):Bool :=
 if N.k=1 then N.c==1&&litP N.v
 else if N.k=2 then decide (1<=N.c)&&decide (N.c<=4)&&nameB N.t
 else if N.k=6∨N.k=7∨N.k=8 then N.c==1
 else if N.k=3 then N.c==1&&strandB N
 else if N.k=4 then N.c==1&&clsB [2,1] N
 else if N.k=5 then N.c==1&&clsB [2,1,1] N
 else if N.k=9 then N.c==2&&decide (1<=N.p)&&decide (N.p<=55)
 else if N.k=11∨N.k=12∨N.k=13 then N.c==2
 else if N.k=10 then lam
 else if N.k=14 then N.c==2&&clsB [3,2] N
 else if N.k=15 then N.c==2&&clsB [4,2,ropC (headTakes N.ks)] N
 else if N.k=16 then N.c==2&&trainB N
 else if N.k=17 then decide (1<=N.o)&&decide (N.o<=11)&&N.c==opP N.o
 else false
theorem ropC_small (b:Bool):0<=ropC b/\ropC b<=4:=by cases b <;> decide
theorem fitP (N:Nd) (lam:Bool) (b off:Nat) (w:World) (h:NdM w b off N) (hT:Tab w)
  (HL:N.k=10->∀ n,Calls Tryz.prog 101 #[.pointer (some ⟨b,off,none⟩)] (w.drewN n) fun e w'=>e=.returned (.bool lam)/\Below w.heap.size (w.drewN n) w') :
  Calls Tryz.prog 78 #[.pointer (some ⟨b,off,none⟩)] w fun e w'=>e=.returned (.bool (fitB lam N))/\Below w.heap.size w w':=by
 obtain ⟨cs,v0,v1,v2,v3,ka,kc,ba,bc,kb,ko,bb,bo,O,hC,lC,G⟩:=h.opn
 obtain ⟨g0,-,g2,g3,g4,g5,g6,g7,g8,g9,-⟩:=id G
 have BD:∀ n,Below w.heap.size w (w.drewN n):=fun n=>⟨rfl,rfl,rfl,Nat.le_refl _,fun _ _=>rfl⟩
 obtain ⟨r,hr⟩:∃ r,fitB lam N=r:=⟨_,rfl⟩
 rw [hr]
 have HQ:Hid (fitB lam N=r):=hr
 have ts:=O.ts
 have ar:=O.arr
 clear hr O G hC lC
 unfold fitB at HQ
 by_cases k1:N.k=1
 ·rw [k1] at g0
  simp only [k1] at HQ
  have HQ:=(show Hid ((N.c==1&&litP N.v)=r) from HQ)
  cases c1:(N.c==1) with
  | false =>
   have HG:Hid (r=false):=by unfold Hid;rw [<- HQ.out,c1];rfl
   clear HQ HL h k1 ts ar hT
   go_enter Tryz.func78,Tryz.ntmps78
   go_wp2_with fail
   go_quiet (fail)
   go_wp2_with (fail)
   go_ret
   exact ⟨ret_bool HG.out.symm,BD _⟩
  | true =>
   have HG:Hid (r=litP N.v):=by unfold Hid;rw [<- HQ.out,c1];rfl
   have K:∀ n,Calls Tryz.prog 98 #[.agg #[v0,v1,v2,v3]] (w.drewN n) fun e w'=>e=.returned (.bool (litP N.v))/\Below w.heap.size (w.drewN n) w':=fun n=>isLiteralP v0 v1 v2 v3 N.v (w.drewN n) (ar.below (BD n))
   generalize litP N.v=q at K HG
   clear HQ HL k1 ts ar hT
   go_enter Tryz.func78,Tryz.ntmps78
   go_wp2_with fail
   go_quiet (fail)
   go_wp2_with ((go_at_call 98;((with_reducible refine (K _).mono ?_);rintro e w3 ⟨rfl,b3⟩)))
   go_ret
   exact ⟨ret_bool HG.out.symm,Below.then (BD _) b3⟩
 by_cases k2:N.k=2
 ·rw [k2] at g0
  simp only [k2] at HQ
  have HQ:=(show Hid ((decide (1<=N.c)&&decide (N.c<=4)&&nameB N.t)=r) from HQ)
  by_cases c1:1<=N.c
  ·by_cases c2:N.c<=4
   ·have HG:Hid (r=nameB N.t):=by unfold Hid;rw [<- HQ.out,decide_eq_true c1,decide_eq_true c2];rfl
    have K:∀ n,Calls Tryz.prog 92 #[.string N.t] (w.drewN n) fun e w'=>e=.returned (.bool (nameB N.t))/\Below w.heap.size (w.drewN n) w':=fun n=>isNameP N.t (w.drewN n) ts (hT.below (BD n))
    generalize nameB N.t=q at K HG
    clear HQ HL k1 k2 ts ar hT
    go_enter Tryz.func78,Tryz.ntmps78
    go_wp2_with fail
    go_quiet (fail)
    go_wp2_with ((go_at_call 92;((with_reducible refine (K _).mono ?_);rintro e w3 ⟨rfl,b3⟩)))
    go_ret
    exact ⟨ret_bool HG.out.symm,Below.then (BD _) b3⟩
   ·have HG:Hid (r=false):=by unfold Hid;rw [<- HQ.out,decide_eq_false c2];simp
    clear HQ HL h k1 k2 ts ar hT
    go_enter Tryz.func78,Tryz.ntmps78
    go_wp2_with fail
    go_quiet (fail)
    go_wp2_with (fail)
    go_ret
    exact ⟨ret_bool HG.out.symm,BD _⟩
  ·have HG:Hid (r=false):=by unfold Hid;rw [<- HQ.out,decide_eq_false c1];simp
   clear HQ HL h k1 k2 ts ar hT
   go_enter Tryz.func78,Tryz.ntmps78
   go_wp2_with fail
   go_quiet (fail)
   go_wp2_with (fail)
   go_ret
   exact ⟨ret_bool HG.out.symm,BD _⟩
 by_cases k6:N.k=6
 ·rw [k6] at g0
  simp only [k6] at HQ
  have HQ:=(show Hid ((N.c==1)=r) from HQ)
  have HG:Hid (r =(N.c==1)):=HQ.out.symm
  clear HQ HL h k1 k2 k6 ts ar hT
  go_enter Tryz.func78,Tryz.ntmps78
  go_wp2_with fail
  go_quiet (fail)
  go_wp2_with (fail)
  go_ret
  exact ⟨ret_bool HG.out.symm,BD _⟩
 by_cases k7:N.k=7
 ·rw [k7] at g0
  simp only [k7] at HQ
  have HQ:=(show Hid ((N.c==1)=r) from HQ)
  have HG:Hid (r =(N.c==1)):=HQ.out.symm
  clear HQ HL h k1 k2 k6 k7 ts ar hT
  go_enter Tryz.func78,Tryz.ntmps78
  go_wp2_with fail
  go_quiet (fail)
  go_wp2_with (fail)
  go_ret
  exact ⟨ret_bool HG.out.symm,BD _⟩
 by_cases k8:N.k=8
 ·rw [k8] at g0
  simp only [k8] at HQ
  have HQ:=(show Hid ((N.c==1)=r) from HQ)
  have HG:Hid (r =(N.c==1)):=HQ.out.symm
  clear HQ HL h k1 k2 k6 k7 k8 ts ar hT
  go_enter Tryz.func78,Tryz.ntmps78
  go_wp2_with fail
  go_quiet (fail)
  go_wp2_with (fail)
  go_ret
  exact ⟨ret_bool HG.out.symm,BD _⟩
 by_cases k3:N.k=3
 ·rw [k3] at g0
  simp only [k3] at HQ
  have HQ:=(show Hid ((N.c==1&&strandB N)=r) from HQ)
  cases c1:(N.c==1) with
  | false =>
   have HG:Hid (r=false):=by unfold Hid;rw [<- HQ.out,c1];rfl
   clear HQ HL h k1 k2 k6 k7 k8 k3 ts ar hT
   go_enter Tryz.func78,Tryz.ntmps78
   go_wp2_with fail
   go_quiet (fail)
   go_wp2_with (fail)
   go_ret
   exact ⟨ret_bool HG.out.symm,BD _⟩
  | true =>
   have HG:Hid (r=strandB N):=by unfold Hid;rw [<- HQ.out,c1];rfl
   have K:∀ n,Calls Tryz.prog 99 #[.pointer (some ⟨b,off,none⟩)] (w.drewN n) fun e w'=>e=.returned (.bool (strandB N))/\Below w.heap.size (w.drewN n) w':=fun n=>isStrandP N b off (w.drewN n) (h.below (BD n))
   generalize strandB N=q at K HG
   clear HQ HL k1 k2 k6 k7 k8 k3 ts ar hT
   go_enter Tryz.func78,Tryz.ntmps78
   go_wp2_with fail
   go_quiet (fail)
   go_wp2_with ((go_at_call 99;((with_reducible refine (K _).mono ?_);rintro e w3 ⟨rfl,b3⟩)))
   go_ret
   exact ⟨ret_bool HG.out.symm,Below.then (BD _) b3⟩
 by_cases k4:N.k=4
 ·rw [k4] at g0
  simp only [k4] at HQ
  have HQ:=(show Hid ((N.c==1&&clsB [2,1] N)=r) from HQ)
  cases c1:(N.c==1) with
  | false =>
   have HG:Hid (r=false):=by unfold Hid;rw [<- HQ.out,c1];rfl
   clear HQ HL h k1 k2 k6 k7 k8 k3 k4 ts ar hT
   go_enter Tryz.func78,Tryz.ntmps78
   go_wp2_with fail
   go_quiet (fail)
   go_wp2_with (fail)
   go_ret
   exact ⟨ret_bool HG.out.symm,BD _⟩
  | true =>
   have HG:Hid (r=clsB [2,1] N):=by unfold Hid;rw [<- HQ.out,c1];rfl
   have K:∀ n,Calls Tryz.prog 100 #[.pointer (some ⟨b,off,none⟩),.slice (some ⟨w.heap.size,0,none⟩) 2 2] ((w.drewN n).alloc (.cells #[.int .i64 2,.int .i64 1] 40)) fun e w'=>e=.returned (.bool (clsB [2,1] N))/\Below w.heap.size (w.drewN n) w':=fun n=>kids2 N b off 2 1 (by decide) (by decide) (w.drewN n) (h.below (BD n))
   generalize clsB [2,1] N=q at K HG
   clear HQ HL k1 k2 k6 k7 k8 k3 k4 ts ar hT
   go_enter Tryz.func78,Tryz.ntmps78
   go_wp2_with fail
   go_quiet (fail)
   go_wp2_with ((go_at_call 100;((with_reducible refine (K _).mono ?_);rintro e w3 ⟨rfl,b3⟩)))
   go_ret
   exact ⟨ret_bool HG.out.symm,Below.then (BD _) b3⟩
 by_cases k5:N.k=5
 ·rw [k5] at g0
  simp only [k5] at HQ
  have HQ:=(show Hid ((N.c==1&&clsB [2,1,1] N)=r) from HQ)
  cases c1:(N.c==1) with
  | false =>
   have HG:Hid (r=false):=by unfold Hid;rw [<- HQ.out,c1];rfl
   clear HQ HL h k1 k2 k6 k7 k8 k3 k4 k5 ts ar hT
   go_enter Tryz.func78,Tryz.ntmps78
   go_wp2_with fail
   go_quiet (fail)
   go_wp2_with (fail)
   go_ret
   exact ⟨ret_bool HG.out.symm,BD _⟩
  | true =>
   have HG:Hid (r=clsB [2,1,1] N):=by unfold Hid;rw [<- HQ.out,c1];rfl
   have K:∀ n,Calls Tryz.prog 100 #[.pointer (some ⟨b,off,none⟩),.slice (some ⟨w.heap.size,0,none⟩) 3 3] ((w.drewN n).alloc (.cells #[.int .i64 2,.int .i64 1,.int .i64 1] 40)) fun e w'=>e=.returned (.bool (clsB [2,1,1] N))/\Below w.heap.size (w.drewN n) w':=fun n=>kids3 N b off 2 1 1 (by decide) (by decide) (by decide) (w.drewN n) (h.below (BD n))
   generalize clsB [2,1,1] N=q at K HG
   clear HQ HL k1 k2 k6 k7 k8 k3 k4 k5 ts ar hT
   go_enter Tryz.func78,Tryz.ntmps78
   go_wp2_with fail
   go_quiet (fail)
   go_wp2_with ((go_at_call 100;((with_reducible refine (K _).mono ?_);rintro e w3 ⟨rfl,b3⟩)))
   go_ret
   exact ⟨ret_bool HG.out.symm,Below.then (BD _) b3⟩
 by_cases k9:N.k=9
 ·rw [k9] at g0
  simp only [k9] at HQ
  have HQ:=(show Hid ((N.c==2&&decide (1<=N.p)&&decide (N.p<=55))=r) from HQ)
  cases c1:(N.c==2) with
  | false =>
   have HG:Hid (r=false):=by unfold Hid;rw [<- HQ.out,c1];rfl
   clear HQ HL h k1 k2 k6 k7 k8 k3 k4 k5 k9 ts ar hT
   go_enter Tryz.func78,Tryz.ntmps78
   go_wp2_with fail
   go_quiet (fail)
   go_wp2_with (fail)
   go_ret
   exact ⟨ret_bool HG.out.symm,BD _⟩
  | true =>
   by_cases c2:1<=N.p
   ·have HG:Hid (r=decide (N.p<=55)):=by unfold Hid;rw [<- HQ.out,c1,decide_eq_true c2];rfl
    clear HQ HL h k1 k2 k6 k7 k8 k3 k4 k5 k9 ts ar hT
    go_enter Tryz.func78,Tryz.ntmps78
    go_wp2_with fail
    go_quiet (fail)
    go_wp2_with (fail)
    go_ret
    exact ⟨ret_bool HG.out.symm,BD _⟩
   ·have HG:Hid (r=false):=by unfold Hid;rw [<- HQ.out,c1,decide_eq_false c2];rfl
    clear HQ HL h k1 k2 k6 k7 k8 k3 k4 k5 k9 ts ar hT
    go_enter Tryz.func78,Tryz.ntmps78
    go_wp2_with fail
    go_quiet (fail)
    go_wp2_with (fail)
    go_ret
    exact ⟨ret_bool HG.out.symm,BD _⟩
 by_cases k11:N.k=11
 ·rw [k11] at g0
  simp only [k11] at HQ
  have HQ:=(show Hid ((N.c==2)=r) from HQ)
  have HG:Hid (r =(N.c==2)):=HQ.out.symm
  clear HQ HL h k1 k2 k6 k7 k8 k3 k4 k5 k9 k11 ts ar hT
  go_enter Tryz.func78,Tryz.ntmps78
  go_wp2_with fail
  go_quiet (fail)
  go_wp2_with (fail)
  go_ret
  exact ⟨ret_bool HG.out.symm,BD _⟩
 by_cases k12:N.k=12
 ·rw [k12] at g0
  simp only [k12] at HQ
  have HQ:=(show Hid ((N.c==2)=r) from HQ)
  have HG:Hid (r =(N.c==2)):=HQ.out.symm
  clear HQ HL h k1 k2 k6 k7 k8 k3 k4 k5 k9 k11 k12 ts ar hT
  go_enter Tryz.func78,Tryz.ntmps78
  go_wp2_with fail
  go_quiet (fail)
  go_wp2_with (fail)
  go_ret
  exact ⟨ret_bool HG.out.symm,BD _⟩
 by_cases k13:N.k=13
 ·rw [k13] at g0
  simp only [k13] at HQ
  have HQ:=(show Hid ((N.c==2)=r) from HQ)
  have HG:Hid (r =(N.c==2)):=HQ.out.symm
  clear HQ HL h k1 k2 k6 k7 k8 k3 k4 k5 k9 k11 k12 k13 ts ar hT
  go_enter Tryz.func78,Tryz.ntmps78
  go_wp2_with fail
  go_quiet (fail)
  go_wp2_with (fail)
  go_ret
  exact ⟨ret_bool HG.out.symm,BD _⟩
 by_cases k10:N.k=10
 ·rw [k10] at g0
  simp only [k10] at HQ
  have HQ:=(show Hid (lam=r) from HQ)
  have HG:Hid (r=lam):=HQ.out.symm
  have K:=HL k10
  clear HQ HL h k1 k2 k6 k7 k8 k3 k4 k5 k9 k11 k12 k13 k10 ts ar hT
  go_enter Tryz.func78,Tryz.ntmps78
  go_wp2_with fail
  go_quiet (fail)
  go_wp2_with ((go_at_call 101;((with_reducible refine (K _).mono ?_);rintro e w3 ⟨rfl,b3⟩)))
  go_ret
  exact ⟨ret_bool HG.out.symm,Below.then (BD _) b3⟩
 by_cases k14:N.k=14
 ·rw [k14] at g0
  simp only [k14] at HQ
  have HQ:=(show Hid ((N.c==2&&clsB [3,2] N)=r) from HQ)
  cases c1:(N.c==2) with
  | false =>
   have HG:Hid (r=false):=by unfold Hid;rw [<- HQ.out,c1];rfl
   clear HQ HL h k1 k2 k6 k7 k8 k3 k4 k5 k9 k11 k12 k13 k10 k14 ts ar hT
   go_enter Tryz.func78,Tryz.ntmps78
   go_wp2_with fail
   go_quiet (fail)
   go_wp2_with (fail)
   go_ret
   exact ⟨ret_bool HG.out.symm,BD _⟩
  | true =>
   have HG:Hid (r=clsB [3,2] N):=by unfold Hid;rw [<- HQ.out,c1];rfl
   have K:∀ n,Calls Tryz.prog 100 #[.pointer (some ⟨b,off,none⟩),.slice (some ⟨w.heap.size,0,none⟩) 2 2] ((w.drewN n).alloc (.cells #[.int .i64 3,.int .i64 2] 40)) fun e w'=>e=.returned (.bool (clsB [3,2] N))/\Below w.heap.size (w.drewN n) w':=fun n=>kids2 N b off 3 2 (by decide) (by decide) (w.drewN n) (h.below (BD n))
   generalize clsB [3,2] N=q at K HG
   clear HQ HL k1 k2 k6 k7 k8 k3 k4 k5 k9 k11 k12 k13 k10 k14 ts ar hT
   go_enter Tryz.func78,Tryz.ntmps78
   go_wp2_with fail
   go_quiet (fail)
   go_wp2_with ((go_at_call 100;((with_reducible refine (K _).mono ?_);rintro e w3 ⟨rfl,b3⟩)))
   go_ret
   exact ⟨ret_bool HG.out.symm,Below.then (BD _) b3⟩
 by_cases k15:N.k=15
 ·rw [k15] at g0
  simp only [k15] at HQ
  have HQ:=(show Hid ((N.c==2&&clsB [4,2,ropC (headTakes N.ks)] N)=r) from HQ)
  cases c1:(N.c==2) with
  | false =>
   have HG:Hid (r=false):=by unfold Hid;rw [<- HQ.out,c1];rfl
   clear HQ HL h k1 k2 k6 k7 k8 k3 k4 k5 k9 k11 k12 k13 k10 k14 k15 ts ar hT
   go_enter Tryz.func78,Tryz.ntmps78
   go_wp2_with fail
   go_quiet (fail)
   go_wp2_with (fail)
   go_ret
   exact ⟨ret_bool HG.out.symm,BD _⟩
  | true =>
   have HG:Hid (r=clsB [4,2,ropC (headTakes N.ks)] N):=by unfold Hid;rw [<- HQ.out,c1];rfl
   have R:=fun n=>rightOpP N b off (w.drewN n) (h.below (BD n))
   have K:∀ n,Calls Tryz.prog 100 #[.pointer (some ⟨b,off,none⟩),.slice (some ⟨w.heap.size,0,none⟩) 3 3] ((w.drewN n).alloc (.cells #[.int .i64 4,.int .i64 2,.int .i64 (ropC (headTakes N.ks))] 40)) fun e w'=>e=.returned (.bool (clsB [4,2,ropC (headTakes N.ks)] N))/\Below w.heap.size (w.drewN n) w':=fun n=>kids3 N b off 4 2 (ropC (headTakes N.ks)) (by decide) (by decide) (ropC_small _) (w.drewN n) (h.below (BD n))
   generalize clsB [4,2,ropC (headTakes N.ks)] N=q at K HG
   clear HQ HL k1 k2 k6 k7 k8 k3 k4 k5 k9 k11 k12 k13 k10 k14 k15 ts ar hT
   go_enter Tryz.func78,Tryz.ntmps78
   go_wp2_with fail
   go_quiet (fail)
   go_wp2_with (first |(go_at_call 102;((with_reducible refine (R _).mono ?_);rintro e w3 ⟨rfl,rfl⟩)) |(go_at_call 100;((with_reducible refine (K _).mono ?_);rintro e w3 ⟨rfl,b3⟩)))
   go_ret
   exact ⟨ret_bool HG.out.symm,Below.then (BD _) b3⟩
 by_cases k16:N.k=16
 ·rw [k16] at g0
  simp only [k16] at HQ
  have HQ:=(show Hid ((N.c==2&&trainB N)=r) from HQ)
  cases c1:(N.c==2) with
  | false =>
   have HG:Hid (r=false):=by unfold Hid;rw [<- HQ.out,c1];rfl
   clear HQ HL h k1 k2 k6 k7 k8 k3 k4 k5 k9 k11 k12 k13 k10 k14 k15 k16 ts ar hT
   go_enter Tryz.func78,Tryz.ntmps78
   go_wp2_with fail
   go_quiet (fail)
   go_wp2_with (fail)
   go_ret
   exact ⟨ret_bool HG.out.symm,BD _⟩
  | true =>
   have HG:Hid (r=trainB N):=by unfold Hid;rw [<- HQ.out,c1];rfl
   have K:∀ n,Calls Tryz.prog 103 #[.pointer (some ⟨b,off,none⟩)] (w.drewN n) fun e w'=>e=.returned (.bool (trainB N))/\Below w.heap.size (w.drewN n) w':=fun n=>isTrainP N b off (w.drewN n) (h.below (BD n))
   generalize trainB N=q at K HG
   clear HQ HL k1 k2 k6 k7 k8 k3 k4 k5 k9 k11 k12 k13 k10 k14 k15 k16 ts ar hT
   go_enter Tryz.func78,Tryz.ntmps78
   go_wp2_with fail
   go_quiet (fail)
   go_wp2_with ((go_at_call 103;((with_reducible refine (K _).mono ?_);rintro e w3 ⟨rfl,b3⟩)))
   go_ret
   exact ⟨ret_bool HG.out.symm,Below.then (BD _) b3⟩
 by_cases k17:N.k=17
 ·rw [k17] at g0
  simp only [k17] at HQ
  have HQ:=(show Hid ((decide (1<=N.o)&&decide (N.o<=11)&&N.c==opP N.o)=r) from HQ)
  by_cases c1:1<=N.o
  ·have d1:decide (1<=N.o)=true:=decide_eq_true c1
   by_cases c2:N.o<=11
   ·have d2:decide (N.o<=11)=true:=decide_eq_true c2
    have HG:Hid (r =(N.c==opP N.o)):=by unfold Hid;rw [<- HQ.out,d1,d2];rfl
    have K:=fun w'=>operatorClassP N.o w'
    generalize opP N.o=q at K HG
    clear HQ HL h k1 k2 k6 k7 k8 k3 k4 k5 k9 k11 k12 k13 k10 k14 k15 k16 k17 ts ar hT
    go_enter Tryz.func78,Tryz.ntmps78
    go_wp2_with fail
    go_quiet (fail)
    go_wp2_with fail
    go_quiet ((go_at_call 104;((with_reducible refine (K _).mono ?_);rintro e w3 ⟨rfl,rfl⟩;exact ⟨rfl,_,rfl⟩)))
    go_wp2_with fail
    go_ret
    exact ⟨ret_bool HG.out.symm,⟨rfl,rfl,rfl,Nat.le_refl _,fun _ _=>rfl⟩⟩
   ·have d2:decide (N.o<=11)=false:=decide_eq_false c2
    have HG:Hid (r=false):=by unfold Hid;rw [<- HQ.out,d1,d2];rfl
    clear HQ HL h k1 k2 k6 k7 k8 k3 k4 k5 k9 k11 k12 k13 k10 k14 k15 k16 k17 ts ar hT
    go_enter Tryz.func78,Tryz.ntmps78
    go_wp2_with fail
    go_quiet (fail)
    go_wp2_with fail
    go_quiet (fail)
    go_wp2_with fail
    go_ret
    exact ⟨ret_bool HG.out.symm,⟨rfl,rfl,rfl,Nat.le_refl _,fun _ _=>rfl⟩⟩
  ·have d1:decide (1<=N.o)=false:=decide_eq_false c1
   have HG:Hid (r=false):=by unfold Hid;rw [<- HQ.out,d1];rfl
   clear HQ HL h k1 k2 k6 k7 k8 k3 k4 k5 k9 k11 k12 k13 k10 k14 k15 k16 k17 ts ar hT
   go_enter Tryz.func78,Tryz.ntmps78
   go_wp2_with fail
   go_quiet (fail)
   go_wp2_with fail
   go_quiet (fail)
   go_wp2_with fail
   go_ret
   exact ⟨ret_bool HG.out.symm,⟨rfl,rfl,rfl,Nat.le_refl _,fun _ _=>rfl⟩⟩
 have HG:Hid (r=false):=by unfold Hid;rw [<- HQ.out];simp [k1,k2,k6,k7,k8,k3,k4,k5,k9,k11,k12,k13,k10,k14,k15,k16,k17]
 have e1:(N.k==1)=false:=by simpa using k1
 have e2:(N.k==2)=false:=by simpa using k2
 have e6:(N.k==6)=false:=by simpa using k6
 have e7:(N.k==7)=false:=by simpa using k7
 have e8:(N.k==8)=false:=by simpa using k8
 have e3:(N.k==3)=false:=by simpa using k3
 have e4:(N.k==4)=false:=by simpa using k4
 have e5:(N.k==5)=false:=by simpa using k5
 have e9:(N.k==9)=false:=by simpa using k9
 have e11:(N.k==11)=false:=by simpa using k11
 have e12:(N.k==12)=false:=by simpa using k12
 have e13:(N.k==13)=false:=by simpa using k13
 have e10:(N.k==10)=false:=by simpa using k10
 have e14:(N.k==14)=false:=by simpa using k14
 have e15:(N.k==15)=false:=by simpa using k15
 have e16:(N.k==16)=false:=by simpa using k16
 have e17:(N.k==17)=false:=by simpa using k17
 clear HQ HL h k1 k2 k6 k7 k8 k3 k4 k5 k9 k11 k12 k13 k10 k14 k15 k16 k17 ts ar hT
 go_enter Tryz.func78,Tryz.ntmps78
 go_wp2_with fail
 go_quiet (fail)
 go_wp2_with (fail)
 go_ret
 exact ⟨ret_bool HG.out.symm,BD _⟩
end Go.Proofs.YtalkinnbfglkdaaGreatDoor.Syn
namespace Go.Proofs.YtalkinnbfglkdaaGreatDoor.Syn
open Go.RowKit Go.Shelf Go.Maps Go.Proofs.YtalkinnbfglkdaaGreatDoor.Shape
set_option linter.unusedVariables false
set_option linter.unusedSimpArgs false
set_option maxRecDepth 100000
def occCls (N:Nd):Int:=if 0<occ 13 N then 4 else if 0<occ 12 N then 3 else 2
def lamP (N:Nd):Bool:=decide (0<N.bd.length)&&lastK N.bd==1&&okB N.bd&&N.c==occCls N
theorem int_len {α:Type}(l:List α):((l.length:Int)==0)=true ↔ l=[]:=by
 cases l with
 | nil=>simp
 | cons x r=>simp;omega
theorem emp_ks {tx pr op va bo:Bool}{N:Nd}(h:emptyB tx pr op va false bo N=true):N.ks=[]:=by
 unfold emptyB at h
 simp only [Bool.and_eq_true,Bool.false_or,Bool.or_eq_true] at h
 exact (int_len _).1 h.1.2
theorem emp_bd {tx pr op va ki:Bool}{N:Nd}(h:emptyB tx pr op va ki false N=true):N.bd=[]:=by
 unfold emptyB at h
 simp only [Bool.and_eq_true,Bool.false_or,Bool.or_eq_true] at h
 exact (int_len _).1 h.2
theorem okN_eqP (N:Nd):okN N =(nonNeg N&&(if N.k=10 then emptyB false false false false false true N&&(N.bd.length:Int) != 0&&lastK N.bd==1&&okB N.bd&&N.c==lamCls N.bd else leafB N ||(innerB N&&okK N.ks))):=by
 cases N;rw [okN];rfl
theorem okK_nil:okK []=true:=by rw [okK]
theorem occ_bare {x:Int}{N:Nd}(h:N.bd=[]):occ x N=occK x N.ks:=by rw [occ_eq,h,occB];omega
theorem ok_bd {N:Nd}(h:okN N=true) (hk:¬ N.k=10):N.bd=[]:=by
 rw [okN_eqP,if_neg hk] at h
 simp only [Bool.and_eq_true,Bool.or_eq_true] at h
 rcases h.2 with h | h
 ·unfold leafB at h
  split at h
  ·simp only [Bool.and_eq_true] at h;exact emp_bd h.1.1.1
  split at h
  ·simp only [Bool.and_eq_true] at h;exact emp_bd h.1.1.1
  split at h
  ·simp only [Bool.and_eq_true] at h;exact emp_bd h.1
  split at h
  ·simp only [Bool.and_eq_true] at h;exact emp_bd h.1.1.1
  split at h
  ·simp only [Bool.and_eq_true] at h;exact emp_bd h.1
  split at h
  ·simp only [Bool.and_eq_true] at h;exact emp_bd h.1.1
  ·cases h
 ·unfold innerB at h
  simp only [Bool.and_eq_true] at h
  exact emp_bd h.1.1
theorem leaf_ks {N:Nd}(h:leafB N=true):N.ks=[]:=by
 unfold leafB at h
 split at h
 ·simp only [Bool.and_eq_true] at h;exact emp_ks h.1.1.1
 split at h
 ·simp only [Bool.and_eq_true] at h;exact emp_ks h.1.1.1
 split at h
 ·simp only [Bool.and_eq_true] at h;exact emp_ks h.1
 split at h
 ·simp only [Bool.and_eq_true] at h;exact emp_ks h.1.1.1
 split at h
 ·simp only [Bool.and_eq_true] at h;exact emp_ks h.1
 split at h
 ·simp only [Bool.and_eq_true] at h;exact emp_ks h.1.1
 ·cases h
theorem ok_ks10 {N:Nd}(h:okN N=true) (hk:N.k=10):N.ks=[]:=by
 rw [okN_eqP,if_pos hk] at h
 simp only [Bool.and_eq_true] at h
 exact emp_ks h.2.1.1.1.1
theorem ok_kids {N:Nd}(h:okN N=true) (hk:¬ N.k=10):okK N.ks=true:=by
 rw [okN_eqP,if_neg hk] at h
 simp only [Bool.and_eq_true,Bool.or_eq_true] at h
 rcases h.2 with h | h
 ·rw [leaf_ks h,okK_nil]
 ·exact h.2
theorem menN_eqP (x:Int) (N:Nd):menN x N =(N.k==x || menK x N.ks):=by cases N;rw [menN];rfl
theorem occ1_men (x:Int):∀ (r:Nat) (N:Nd),rkN N<r->okN N=true->(decide (0<occ1 x N)=menN x N)
 | 0,_,h,_=>absurd h (Nat.not_lt_zero _)
 | r+1,N,h,ok=>by
  have hK:∀ l:List Nd,(∀ j (hj:j<l.length),rkN l[j]<r)->okK l=true->decide (0<occK x l)=menK x l:=by
   intro l
   induction l with
   | nil=>intro _ _;rw [occK,menK];rfl
   | cons A q ih =>
    intro h1 h2
    rw [okK,Bool.and_eq_true] at h2
    have e1:=occ1_men x r A (h1 0 (Nat.zero_lt_succ _)) h2.1
    have e2:=ih (fun j hj=>h1 (j+1) (Nat.succ_lt_succ hj)) h2.2
    rw [occK,menK,<- e1,<- e2]
    show decide (0<occ1 x A+occK x q)=_
    by_cases p1:0<occ1 x A
    ·rw [decide_eq_true (by omega),decide_eq_true p1];rfl
    ·by_cases p2:0<occK x q
     ·rw [decide_eq_true (by omega),decide_eq_true p2];simp
     ·rw [decide_eq_false (by omega),decide_eq_false p1,decide_eq_false p2];rfl
  rw [menN_eqP]
  unfold occ1
  by_cases hk:N.k=10
  ·have e10:(N.k==10)=true:=by simpa using hk
   rw [ok_ks10 ok hk,menK,e10]
   cases (N.k==x) <;> simp
  ·have e10:(N.k==10)=false:=by simpa using hk
   have e:=hK N.ks (fun j hj=>by have:=rk_kid N hj;omega) (ok_kids ok hk)
   rw [e10,occ_bare (ok_bd ok hk),<- e]
   cases (N.k==x) with
   | false=>simp
   | true=>simp;omega
theorem eqN_zN {N:Nd}(h:zeroB N=true):N.k=0/\N.ks=[]:=by
 unfold zeroB at h
 simp only [Bool.and_eq_true] at h
 have e:=h.1.1.1.1
 cases N with | mk k a c t p o v ks bd d s z =>
 unfold zN at e
 rw [eqN,eqK_nil] at e
 simp only [Bool.and_eq_true,beq_iff_eq] at e
 exact ⟨e.1.1.1.1.1.1.1,(show ks=[] from by simpa using e.1.2)⟩
theorem men_zero {x:Int}(hx:¬ x=0) {N:Nd}(h:zeroB N=true):menN x N=false:=by
 obtain ⟨h1,h2⟩:=eqN_zN h
 rw [menN_eqP,h1,h2,menK]
 have:((0:Int)==x)=false:=by rw [beq_eq_false_iff_ne];intro e;exact hx e.symm
 rw [this];rfl
theorem okS_nd {S:St}(h:okS S=true):okN S.nd=true/\(S.k=3->okN S.te=true)/\(¬ S.k=3->zeroB S.te=true):=by
 cases S with | mk k a n s te nd =>
 rw [okS] at h
 simp only [Bool.and_eq_true] at h
 refine ⟨h.1.2,fun e=>?_,fun e=>?_⟩
 ·have e':k=3:=e
  subst e'
  have:=h.2
  simp only [show ¬ ((3:Int)=1) by decide,show ¬ ((3:Int)=2) by decide,if_false,if_true,Bool.and_eq_true] at this
  exact this.1.1.1.2
 ·have e':¬ k=3:=e
  have:=h.2
  split at this
  ·simp only [Bool.and_eq_true] at this;exact this.2
  split at this
  ·simp only [Bool.and_eq_true] at this;exact this.1.2
  ·first | cases this |(rw [if_neg e'] at this;cases this)
theorem occS_men {x:Int}(hx:¬ x=0) {S:St}(h:okS S=true):decide (0<occS x S) =(menN x S.te || menN x S.nd):=by
 obtain ⟨h1,h2,h3⟩:=okS_nd h
 have e1:=occ1_men x _ S.nd (Nat.lt_succ_self _) h1
 rw [occS_eq]
 show decide (0 <(if (S.k==3)=true then occ1 x S.te else 0)+occ1 x S.nd)=_
 by_cases hk:S.k=3
 ·have e2:=occ1_men x _ S.te (Nat.lt_succ_self _) (h2 hk)
  have e3:(S.k==3)=true:=by simpa using hk
  rw [e3,if_pos rfl,<- e1,<- e2]
  by_cases p1:0<occ1 x S.te
  ·rw [decide_eq_true (by omega),decide_eq_true p1];rfl
  ·by_cases p2:0<occ1 x S.nd
   ·rw [decide_eq_true (by omega),decide_eq_true p2];simp
   ·rw [decide_eq_false (by omega),decide_eq_false p1,decide_eq_false p2];rfl
 ·have e3:(S.k==3)=false:=by simpa using hk
  rw [e3,men_zero hx (h3 hk),<- e1];simp
theorem occB_men {x:Int}(hx:¬ x=0):∀ {l:List St},okL l=true->decide (0<occB x l)=menB x l
 | [],_=>by rw [occB];rfl
 | S::r,h=>by
  rw [okL,Bool.and_eq_true] at h
  have e1:=occS_men hx h.1
  have e2:=occB_men hx h.2
  have e3:menB x (S::r) =((menN x S.te || menN x S.nd) || menB x r):=by unfold menB;rw [List.any_cons]
  rw [occB,e3,<- e1,<- e2]
  by_cases p1:0<occS x S
  ·rw [decide_eq_true (by omega),decide_eq_true p1];rfl
  ·by_cases p2:0<occB x r
   ·rw [decide_eq_true (by omega),decide_eq_true p2];simp
   ·rw [decide_eq_false (by omega),decide_eq_false p1,decide_eq_false p2];rfl
theorem lam_cls {N:Nd}(h:N.ks=[]) (h2:okL N.bd=true):occCls N=lamCls N.bd:=by
 have e:∀ x,occ x N=occB x N.bd:=fun x=>by rw [occ_eq,h,occK];omega
 unfold occCls lamCls
 rw [e,e,<- occB_men (by decide) h2,<- occB_men (by decide) h2]
 simp
theorem opP_cls (o c:Int):(opCls o != 0&&c==opCls o) =(decide (1<=o)&&decide (o<=11)&&c==opP o):=by
 unfold opCls opP
 by_cases h1:1<=o
 ·by_cases h2:o<=11
  ·rw [decide_eq_true h1,decide_eq_true h2,if_neg (by omega)]
   by_cases h3:o<=5
   ·rw [if_pos h3,if_pos (by omega)];simp
   ·rw [if_neg h3,if_neg (by omega)];simp
  ·rw [decide_eq_false h2,if_pos (by omega)];simp
 ·rw [decide_eq_false h1,if_pos (by omega)];simp
theorem ok_eq (N:Nd):okN N =(onlyB N&&fitB (lamP N) N&&okK N.ks):=by
 rw [okN_eqP]
 unfold onlyB
 have ha:(nonNeg N&&kindB N&&fitB (lamP N) N&&okK N.ks) =(nonNeg N&&(kindB N&&(fitB (lamP N) N&&okK N.ks))):=by simp only [Bool.and_assoc]
 rw [ha]
 congr 1
 by_cases k10:N.k=10
 ·rw [if_pos k10]
  unfold kindB fitB
  simp only [k10]
  show _ =(emptyB false false false false false true N&&(lamP N&&okK N.ks))
  cases hE:emptyB false false false false false true N with
  | false=>simp
  | true =>
   have hk:=emp_ks hE
   rw [hk,okK_nil,Bool.and_true,Bool.true_and,Bool.true_and]
   unfold lamP
   cases hO:okB N.bd with
   | false=>simp
   | true =>
    have hL:okL N.bd=true:=by unfold okB at hO;simp only [Bool.and_eq_true] at hO;exact hO.1.2
    rw [lam_cls hk hL]
    have:((N.bd.length:Int) != 0)=decide (0<N.bd.length):=by
     by_cases h:0<N.bd.length
     ·rw [decide_eq_true h];simp;intro e;rw [e] at h;exact absurd h (by decide)
     ·rw [decide_eq_false h];simp;exact List.eq_nil_of_length_eq_zero (by omega)
    rw [this]
 ·rw [if_neg k10]
  have leaf:∀ (E F:Bool),leafB N =(E&&F)->innerB N=false->kindB N=E->fitB (lamP N) N=F->(E=true->N.ks=[])->(leafB N ||(innerB N&&okK N.ks)) =(kindB N&&(fitB (lamP N) N&&okK N.ks)):=by
   intro E F h1 h2 h3 h4 h5
   rw [h1,h2,h3,h4]
   cases E with
   | false=>simp
   | true=>rw [h5 rfl,okK_nil];simp
  have inner:∀ (E F:Bool),leafB N=false->innerB N =(E&&F)->kindB N=E->fitB (lamP N) N=F->(leafB N ||(innerB N&&okK N.ks)) =(kindB N&&(fitB (lamP N) N&&okK N.ks)):=by
   intro E F h1 h2 h3 h4
   rw [h1,h2,h3,h4];simp [Bool.and_assoc]
  by_cases k1:N.k=1
  ·refine leaf (emptyB false false false true false false N) (N.c==1&&litP N.v) ?_ ?_ ?_ ?_ emp_ks
   ·unfold leafB litP;simp only [k1];simp [Bool.and_assoc]
   ·unfold innerB;simp only [k1];simp
   ·unfold kindB;simp only [k1];simp
   ·unfold fitB;simp only [k1];simp
  by_cases k2:N.k=2
  ·refine leaf (emptyB true false false false false false N) (decide (1<=N.c)&&decide (N.c<=4)&&nameB N.t) ?_ ?_ ?_ ?_ emp_ks
   ·unfold leafB;simp only [k2];simp only [show ¬ ((2:Int)=1) by decide,if_false,if_true];cases nameB N.t <;> simp [Bool.and_assoc]
   ·unfold innerB;simp only [k2];simp
   ·unfold kindB;simp only [k2];simp
   ·unfold fitB;simp only [k2];simp
  by_cases k3:N.k=3
  ·refine inner (emptyB false false false false true false N) (N.c==1&&strandB N) ?_ ?_ ?_ ?_
   ·unfold leafB;simp only [k3];simp
   ·unfold innerB strandB;simp only [k3];simp only [if_true];cases allC N.ks <;> cases (N.c==1) <;> simp
   ·unfold kindB;simp only [k3];simp
   ·unfold fitB;simp only [k3];simp
  by_cases k4:N.k=4
  ·refine inner (emptyB false false false false true false N) (N.c==1&&clsB [2,1] N) ?_ ?_ ?_ ?_
   ·unfold leafB;simp only [k4];simp
   ·unfold innerB;simp only [k4];simp
   ·unfold kindB;simp only [k4];simp
   ·unfold fitB;simp only [k4];simp
  by_cases k5:N.k=5
  ·refine inner (emptyB false false false false true false N) (N.c==1&&clsB [2,1,1] N) ?_ ?_ ?_ ?_
   ·unfold leafB;simp only [k5];simp
   ·unfold innerB;simp only [k5];simp
   ·unfold kindB;simp only [k5];simp
   ·unfold fitB;simp only [k5];simp
  by_cases k14:N.k=14
  ·refine inner (emptyB false false false false true false N) (N.c==2&&clsB [3,2] N) ?_ ?_ ?_ ?_
   ·unfold leafB;simp only [k14];simp
   ·unfold innerB;simp only [k14];simp
   ·unfold kindB;simp only [k14];simp
   ·unfold fitB;simp only [k14];simp
  by_cases k15:N.k=15
  ·refine inner (emptyB false false false false true false N) (N.c==2&&clsB [4,2,ropC (headTakes N.ks)] N) ?_ ?_ ?_ ?_
   ·unfold leafB;simp only [k15];simp
   ·unfold innerB;simp only [k15];simp;cases headTakes N.ks <;> simp [ropC]
   ·unfold kindB;simp only [k15];simp
   ·unfold fitB;simp only [k15];simp
  by_cases k16:N.k=16
  ·refine inner (emptyB false false false false true false N) (N.c==2&&trainB N) ?_ ?_ ?_ ?_
   ·unfold leafB;simp only [k16];simp
   ·unfold innerB trainB;simp only [k16];simp
   ·unfold kindB;simp only [k16];simp
   ·unfold fitB;simp only [k16];simp
  by_cases k9:N.k=9
  ·refine leaf (emptyB false true false false false false N) (N.c==2&&decide (1<=N.p)&&decide (N.p<=55)) ?_ ?_ ?_ ?_ emp_ks
   ·unfold leafB;simp only [k9];simp [Bool.and_assoc]
   ·unfold innerB;simp only [k9];simp
   ·unfold kindB;simp only [k9];simp
   ·unfold fitB;simp only [k9];simp
  by_cases k17:N.k=17
  ·refine leaf (emptyB false false true false false false N) (decide (1<=N.o)&&decide (N.o<=11)&&N.c==opP N.o) ?_ ?_ ?_ ?_ emp_ks
   ·rw [<- opP_cls];unfold leafB;simp only [k17];simp [Bool.and_assoc]
   ·unfold innerB;simp only [k17];simp
   ·unfold kindB;simp only [k17];simp
   ·unfold fitB;simp only [k17];simp
  by_cases k6:N.k=6∨N.k=7∨N.k=8
  ·refine leaf (emptyB false false false false false false N) (N.c==1) ?_ ?_ ?_ ?_ emp_ks
   ·unfold leafB;rcases k6 with e | e | e <;> simp [e]
   ·unfold innerB;rcases k6 with e | e | e <;> simp [e]
   ·unfold kindB;rcases k6 with e | e | e <;> simp [e]
   ·unfold fitB;rcases k6 with e | e | e <;> simp [e]
  by_cases k11:N.k=11∨N.k=12∨N.k=13
  ·refine leaf (emptyB false false false false false false N) (N.c==2) ?_ ?_ ?_ ?_ emp_ks
   ·unfold leafB;rcases k11 with e | e | e <;> simp [e]
   ·unfold innerB;rcases k11 with e | e | e <;> simp [e]
   ·unfold kindB;rcases k11 with e | e | e <;> simp [e]
   ·unfold fitB;rcases k11 with e | e | e <;> simp [e]
  ·refine leaf (emptyB false false false false false false N) false ?_ ?_ ?_ ?_ emp_ks
   ·unfold leafB;simp [k1,k2,k6,k9,k11,k17]
   ·unfold innerB;simp [k3,k4,k5,k14,k15,k16]
   ·unfold kindB;simp [k1,k2,k3,k4,k5,k9,k10,k14,k15,k16,k17]
   ·unfold fitB;simp [k1,k2,k3,k4,k5,k6,k9,k10,k11,k14,k15,k16,k17]
attribute [local go_sem] Oper.semAt_some
theorem mapSB:Tryz.prog.underlying 119=some (.map 9 4):=by kernel_rfl
theorem keyedS:Keyed Tryz.prog 9:=string_keyed Tryz.underlying9
theorem zeroBool (w:World):(zeroValue 4).run Tryz.prog w=.ok (.bool false) w:=by kernel_rfl
def SMap (w:World) (m n:Nat) (f:ByteArray->Bool):Prop:=∃ D:DataW Unit,w.ownsMap Tryz.prog 9 (plainElem Tryz.prog 4) m n D/\∀ s:ByteArray,D.atKey (.string s.data.toList) (.lit (.bool false))=.lit (.bool (f s))
theorem SMap.new (w:World):SMap (w.alloc (.map #[] 0)) w.heap.size 0 (fun _=>false):=⟨.map [],World.ownsMap_made w _ _ _,fun _=>rfl⟩
theorem SMap.lt {w:World}{m n:Nat}{f:ByteArray->Bool}(h:SMap w m n f):m<w.heap.size:=by obtain ⟨D,h,-⟩:=h;exact h.lt
theorem SMap.kept {w w':World}{m n:Nat}{f:ByteArray->Bool}{row:Option Nat}(h:SMap w m n f) (hg:w.grownBy w' row) (hne:some m≠row):SMap w' m n f:=by
 obtain ⟨D,h,g⟩:=h;exact ⟨D,h.kept hg hne,g⟩
theorem SMap.below {w w':World}{m n:Nat}{f:ByteArray->Bool}(h:SMap w m n f) (hb:Below w.heap.size w w'):SMap w' m n f :=
 h.kept (row:=none) ⟨hb.os,hb.tape,hb.output,hb.size,fun i hi _=>hb.block i hi⟩ (by simp)
theorem SMap.cong {w:World}{m n:Nat}{f g:ByteArray->Bool}(h:SMap w m n f) (e:∀ x,f x=g x):SMap w m n g:=by rw [<- (funext e:f=g)];exact h
theorem SMap.look {w:World}{m n:Nat}{f:ByteArray->Bool}(h:SMap w m n f) {s:ByteArray}(hs:s.size<=9223372036854775807):(Instr.lookup 119 (.map (some m)) (.string s) false).run Tryz.prog w=.ok (.bool (f s)) w:=by
 obtain ⟨D,h,g⟩:=h
 obtain ⟨v,ps,hrun,hv⟩:=h.lookup keyedS mapSB (zeroBool w) (plainElem_bool Tryz.underlying4 false) (Go.WideMaps.keyOf_string_mk Tryz.underlying9 (by simpa [maxLen] using hs))
 rw [g] at hv
 unfold plainElem at hv
 rw [Tryz.underlying4] at hv
 cases v <;> simp at hv
 rw [hrun,hv.1]
theorem data_inj {a b:ByteArray}(h:a.data.toList=b.data.toList):a=b:=by
 cases a with | mk x=>cases b with | mk y=>exact congrArg ByteArray.mk (Array.toList_inj.1 h)
theorem SMap.put {w:World}{m n:Nat}{f:ByteArray->Bool}(h:SMap w m n f) (hn:n<maxLen) {s:ByteArray}(hs:s.size<=9223372036854775807) :
  ∃ w1,(Instr.mapUpdate 119 (.map (some m)) (.string s) (.bool true)).run Tryz.prog w=.ok () w1/\SMap w1 m (n+1) (fun y=>f y || s==y)/\w.grownBy w1 (some m):=by
 obtain ⟨D,h,g⟩:=h
 obtain ⟨w1,hr,h1,hg⟩:=h.update keyedS mapSB hn (Go.WideMaps.keyOf_string_mk Tryz.underlying9 (s:=s) (by simpa [maxLen] using hs)) (plainElem_bool Tryz.underlying4 true)
 refine ⟨w1,hr,⟨_,h1,fun y=>?_⟩,hg⟩
 by_cases e:s=y
 ·subst e
  rw [atKey_put_same]
  ·show _=DataW.lit (Lit.bool (f s || s==s))
   rw [ba_yes rfl];simp
  ·obtain ⟨es,c,-,-,-,e⟩:=h
   exact ⟨_,e⟩
  ·exact keyedS.key (Go.WideMaps.keyOf_string_mk Tryz.underlying9 (by simpa [maxLen] using hs))
 ·rw [atKey_put_other]
  ·show _=DataW.lit (Lit.bool (f y || s==y))
   rw [g,ba_no e];simp
  ·intro q
   simp only [Lit.string.injEq] at q
   exact e (data_inj q).symm
/-! What the loop over the statements knows. -/
def seen (l:List St) (j:Nat) (s:ByteArray):Bool:=(l.take j).any fun T=>T.k==2&&T.n==s
def goodTo (l:List St) (j:Nat):Prop:=∀ i (h:i<l.length),i<j->okS l[i]=true/\dupAt l i=false
theorem dup_at {l:List St}{j:Nat}(h:j<l.length):dupAt l j =(l[j].k==2&&seen l j l[j].n):=by
 unfold dupAt seen
 rw [List.getElem?_eq_getElem h]
theorem seen_step {l:List St}{j:Nat}(h:j<l.length) (s:ByteArray):seen l (j+1) s =(seen l j s ||(l[j].k==2&&l[j].n==s)):=by
 unfold seen
 rw [List.take_add_one,List.getElem?_eq_getElem h,List.any_append];simp
theorem okL_allP {l:List St}:okL l=true ↔ ∀ i (h:i<l.length),okS l[i]=true:=by
 induction l with
 | nil=>rw [okL];simp
 | cons S r ih =>
  rw [okL,Bool.and_eq_true,ih]
  constructor
  ·rintro ⟨h1,h2⟩ i hi
   cases i with
   | zero=>exact h1
   | succ i=>exact h2 i (by simpa using hi)
  ·intro h
   exact ⟨h 0 (by simp),fun i hi=>h (i+1) (by simpa using hi)⟩
theorem ok_end {l:List St}(h:l.length<=1000) (g:goodTo l l.length):okB l=true:=by
 unfold okB nodup
 rw [decide_eq_true h,okL_allP.2 (fun i hi=>(g i hi hi).1)]
 simp only [Bool.true_and,List.all_eq_true,List.mem_range]
 intro j hj
 rw [(g j hj hj).2];rfl
theorem ok_bad {l:List St}{j:Nat}(h:j<l.length) (g:okS l[j]=false∨dupAt l j=true):okB l=false:=by
 unfold okB nodup
 rcases g with g | g
 ·have:okL l=false:=by
   rw [<- Bool.not_eq_true,okL_allP]
   intro q
   rw [q j h] at g;cases g
  rw [this];simp
 ·have:((List.range l.length).all fun j=>!dupAt l j)=false:=by
   rw [List.all_eq_false]
   exact ⟨j,List.mem_range.2 h,by rw [g];simp⟩
  rw [this];simp
theorem okS_eqP (S : St) : okS S = (decide (0 ≤ S.a) && okN S.nd &&
    (if S.k = 1 then S.nd.c == 1 && noText S.n && S.s == 0 && zeroB S.te
     else if S.k = 2 then nameB S.n && decide (0 ≤ S.s) && zeroB S.te && (decide (S.nd.c < 3) || S.nd.k == 10)
     else if S.k = 3 then S.nd.c == 1 && okN S.te && S.te.c == 1 && noText S.n && S.s == 0 else false)) := by cases S; rw [okS]; rfl
theorem ok_c {N:Nd}(h:okN N=true):1<=N.c:=by
 rw [okN_eqP] at h
 simp only [Bool.and_eq_true] at h
 have h2:=h.2
 split at h2
 ·simp only [Bool.and_eq_true,beq_iff_eq] at h2
  have:=h2.2
  unfold lamCls at this
  split at this
  ·omega
  split at this <;> omega
 ·simp only [Bool.and_eq_true,Bool.or_eq_true] at h2
  rcases h2 with h |⟨h,-⟩
  ·unfold leafB at h
   split at h
   ·simp only [Bool.and_eq_true,beq_iff_eq] at h;omega
   split at h
   ·simp only [Bool.and_eq_true,decide_eq_true_eq] at h;omega
   split at h
   ·simp only [Bool.and_eq_true,beq_iff_eq] at h;omega
   split at h
   ·simp only [Bool.and_eq_true,beq_iff_eq] at h;omega
   split at h
   ·simp only [Bool.and_eq_true,beq_iff_eq] at h;omega
   split at h
   ·simp only [Bool.and_eq_true,beq_iff_eq,bne_iff_ne] at h
    have h1:=h.1.2
    have h2:=h.2
    unfold opCls at h1 h2
    split at h2
    ·simp_all
    split at h2 <;> omega
   ·cases h
  ·unfold innerB at h
   simp only [Bool.and_eq_true] at h
   have h:=h.2
   split at h
   ·simp only [Bool.and_eq_true,beq_iff_eq] at h;omega
   split at h
   ·simp only [Bool.and_eq_true,beq_iff_eq] at h;omega
   split at h
   ·simp only [Bool.and_eq_true,beq_iff_eq] at h;omega
   split at h
   ·simp only [Bool.and_eq_true,beq_iff_eq] at h;omega
   split at h
   ·simp only [Bool.and_eq_true,beq_iff_eq] at h;omega
   split at h
   ·simp only [Bool.and_eq_true,beq_iff_eq] at h;omega
   ·cases h
theorem def_ok {S:St}(h:okN S.nd=true):defB S =(nameB S.n&&decide (0<=S.s)&&zeroB S.te&&(decide (S.nd.c<3) || S.nd.k==10)):=by
 have hc:=ok_c h
 unfold defB
 congr 1
 congr 1
 by_cases h1:S.nd.c<3
 ·rw [decide_eq_true h1]
  by_cases e:S.nd.c=1
  ·rw [e];rfl
  ·have:S.nd.c=2:=by omega
   rw [this];rfl
 ·rw [decide_eq_false h1]
  have e1:(S.nd.c==1)=false:=by rw [beq_eq_false_iff_ne];omega
  have e2:(S.nd.c==2)=false:=by rw [beq_eq_false_iff_ne];omega
  rw [e1,e2];rfl
theorem good_step {l:List St}{j:Nat}(h:goodTo l j) (hl:j<l.length) (h1:okS l[j]=true) (h2:dupAt l j=false):goodTo l (j+1):=by
 intro i hi hj
 by_cases e:i=j
 ·subst e;exact ⟨h1,h2⟩
 ·exact h i hi (by omega)
theorem StM.ns {w:World}{b off:Nat}{S:St}(h:StM w b off S):S.n.size<=9223372036854775807:=by
 obtain ⟨cs,h1,h2⟩:=h
 cases S with | mk k a n s te nd =>
 rw [StV] at h2
 obtain ⟨ct,cn,-,-,h3,-⟩:=h2
 exact h3
def ValidSpec (r:Nat):Prop:=∀ (b off:Nat) (N:Nd) (w:World),rkN N<r->NdM w b off N->Tab w->siz N<=20000->dep N<=100 ->
 Calls Tryz.prog 56 #[.pointer (some ⟨b,off,none⟩)] w fun e w'=>e=.returned (.bool (okN N))/\Below w.heap.size w w'
def PF (w:World) (b off:Nat) (S:St):Prop:=w.cell? ⟨b,off,none⟩=some (.int .i64 S.k)/\w.cell? ⟨b,off+1,none⟩=some (.int .i64 S.a)/\w.cell? ⟨b,off+2,none⟩=some (.string S.n)/\w.cell? ⟨b,off+3,none⟩=some (.int .i64 S.s) /\
 w.cell? ⟨b,off+4+2,none⟩=some (.int .i64 S.te.c)/\w.cell? ⟨b,off+19+2,none⟩=some (.int .i64 S.nd.c)
theorem StM.sf {w:World}{b off:Nat}{S:St}(h:StM w b off S):PF w b off S:=by
 obtain ⟨x0,x1,x2,x3⟩:=h.head
 obtain ⟨cs,v0,v1,v2,v3,ka,kc,ba,bc,kb,ko,bb,bo,O,hC,lC,G⟩:=h.test.opn
 obtain ⟨-,-,t2,-⟩:=G
 obtain ⟨cs',v0',v1',v2',v3',ka',kc',ba',bc',kb',ko',bb',bo',O',hC',lC',G'⟩:=h.node.opn
 obtain ⟨-,-,n2,-⟩:=G'
 exact ⟨x0,x1,x2,x3,t2,n2⟩
def unB (S:St):Bool:=noText S.n&&S.s==0
theorem isBodyP (r:Nat) (ih:ValidSpec r) (ba:Option Addr) (bc bb bo:Nat) (l:List St) (w:World) (hrk:∀ j (h:j<l.length),rkN l[j].te<r/\rkN l[j].nd<r)
  (hsz:∀ j (h:j<l.length),siz l[j].nd<=20000/\dep l[j].nd<=100/\(l[j].k=3->siz l[j].te<=20000/\dep l[j].te<=100)) (hl:l.length<=9223372036854775807)
  (ha:l≠[]->ba=some ⟨bb,bo,none⟩) (hat:StsAt w bb bo l) (hT:Tab w) :
  Calls Tryz.prog 50 #[.slice ba l.length bc] w fun e w'=>e=.returned (.bool (okB l))/\Below w.heap.size w w':=by
 have hmm:=@run_makeMap Tryz.prog
 by_cases hn:l.length<=1000
 ·have HN:Hid (l.length<=1000):=hn
  have hn':¬ (1000:Int) <(l.length:Int):=by omega
  go_enter Tryz.func50,Tryz.ntmps50
  go_wp2_with fail
  go_step3
  go_wp2_with fail
  go_step3
  go_wp2_with fail
  clear hn'
  go_loopw [4,13] (fun v i wr=>∃ (j n:Nat),j<=l.length/\n<=j/\v=.int .i64 j/\i=.int .i64 j/\Below w.heap.size w wr/\SMap wr w.heap.size n (seen l j)/\goodTo l j) (fun _ i _=>l.length - (intOf i).toNat)
  case atStart=>exact ⟨0,0,Nat.zero_le _,Nat.le_refl _,rfl,rfl,below_new _ _,(SMap.new w).cong (fun s=>by unfold seen;simp),fun i _ hi=>absurd hi (Nat.not_lt_zero _)⟩
  case round =>
   obtain ⟨j,n,hj,hnj,rfl,rfl,hb,hM,he⟩:=hrel
   have HE:Hid (goodTo l j):=he
   clear he
   by_cases hlt:j<l.length
   ·have hjl:((j:Int)==(l.length:Int))=false:=by rw [beq_eq_false_iff_ne];omega
    have hi:=stmts_at (ic:=bc) rfl ha hlt
    have hS:=(StsAt.below hb hat).at hlt
    have hns:=hS.ns
    have hTw:=hT.below hb
    obtain ⟨r1,r2⟩:=hrk j hlt
    obtain ⟨s1,s2,s3⟩:=hsz j hlt
    have K1:=ih _ _ l[j].nd wr r2 hS.node hTw s1 s2
    have F:=fun w' (g:Below wr.heap.size wr w')=>(hS.below g).sf
    obtain ⟨x0,x1,x2,x3,x4,x5⟩:=hS.sf
    have HQ:Hid (okS l[j]=_):=okS_eqP l[j]
    have BAD:(okS l[j]=false∨dupAt l j=true)->Hid (okB l=false):=fun h=>ok_bad hlt h
    have STEP:okS l[j]=true->dupAt l j=false->Hid (goodTo l (j+1)):=fun h1 h2=>good_step HE.out hlt h1 h2
    have DUP:Hid (dupAt l j =(l[j].k==2&&seen l j l[j].n)):=dup_at hlt
    have SEEN:Hid (∀ s,seen l (j+1) s =(seen l j s ||(l[j].k==2&&l[j].n==s))):=fun s=>seen_step hlt s
    have U:=fun w' (g:Below wr.heap.size wr w')=>isUnnamedP l[j] _ _ w' (hS.below g)
    have Z:=fun w' (g:Below wr.heap.size wr w')=>isZeroP l[j].te _ _ w' (hS.test.below g)
    have D:=fun w' (g:Below wr.heap.size wr w')=>isDefinitionP l[j] _ _ w' (hS.below g) hns (hTw.below g)
    have V:=fun (e:l[j].k=3) w' (g:Below wr.heap.size wr w')=>ih _ _ l[j].te w' r1 (hS.test.below g) (hTw.below g) (s3 e).1 (s3 e).2
    have LK:=hM.look hns
    have LL:=hM.lt
    have MM:=fun w' (g:Below wr.heap.size wr w')=>(hM.below g)
    clear hS ih hrk hsz hat hT ha hTw r1 r2 s1 s2 s3
    by_cases na:l[j].a<0
    ·have HB:=BAD (Or.inl (by rw [HQ.out,decide_eq_false (by omega)];rfl))
     clear HQ BAD STEP DUP SEEN HE K1 F U Z D V LK LL MM hM
     go_wp2_with (fail)
     (try rw [Exit.noGoto_ret])
     go_ret
     exact ⟨ret_bool HB.out.symm,hb⟩
    have na':(0:Int)<=l[j].a:=by omega
    have HQ:=(show Hid (okS l[j] =(okN l[j].nd&&_)) from (by have:=HQ.out;rw [decide_eq_true na',Bool.true_and] at this;exact this))
    clear na'
    cases q1:okN l[j].nd with
    | false =>
     rw [q1] at K1
     have HB:=BAD (Or.inl (by rw [HQ.out,q1];rfl))
     clear HQ BAD STEP DUP SEEN HE U Z D V LK LL MM hM q1
     go_wp2_with ((go_at_call 56;((with_reducible refine K1.mono ?_);rintro e w3 ⟨rfl,b3⟩;(obtain ⟨y0,y1,y2,y3,y4,y5⟩:=F _ b3))))
     (try rw [Exit.noGoto_ret])
     go_ret
     exact ⟨ret_bool HB.out.symm,Below.then hb b3⟩
    | true =>
    have DD:=def_ok q1
    rw [q1] at K1
    have HQ:=(show Hid (okS l[j]=_) from (by have:=HQ.out;rw [q1,Bool.true_and] at this;exact this))
    clear q1
    have DE:Hid (defB l[j]=_):=DD
    clear DD
    by_cases k1:l[j].k=1
    ·rw [k1] at x0
     have F:∀ w' (g:Below wr.heap.size wr w'),PF w' bb (bo+j*34) l[j]/\w'.cell? ⟨bb,bo+j*34,none⟩=some (.int .i64 1):=fun w' g=>⟨F w' g,by rw [<- k1];exact (F w' g).1⟩
     have HQ:=(show Hid (okS l[j] =(l[j].nd.c==1&&noText l[j].n&&l[j].s==0&&zeroB l[j].te)) from (by have:=HQ.out;rw [if_pos k1] at this;exact this))
     have DUP:Hid (dupAt l j=false):=by unfold Hid;rw [DUP.out,k1];rfl
     have SEEN:Hid (∀ s,seen l j s=seen l (j+1) s):=fun s=>by rw [SEEN.out,k1];simp
     clear k1 D V LK DE
     have HU:Hid (unB l[j] =(noText l[j].n&&l[j].s==0)):=rfl
     have U:=fun w' g=>(show Calls Tryz.prog 69 #[.pointer (some ⟨bb,bo+j*34,none⟩)] w' fun e w''=>e=.returned (.bool (unB l[j]))/\w'=w'' from U w' g)
     have HQ:=(show Hid (okS l[j] =(l[j].nd.c==1&&unB l[j]&&zeroB l[j].te)) from (by unfold Hid;rw [HQ.out,HU.out];simp [Bool.and_assoc]))
     clear HU
     cases qu:unB l[j] with
     | false =>
      simp only [qu] at U
      have HB:=BAD (Or.inl (by rw [HQ.out,qu];simp))
      clear HQ BAD STEP DUP SEEN HE Z LL MM hM qu
      go_wp2_with (first |(go_at_call 56;((with_reducible refine K1.mono ?_);rintro e w3 ⟨rfl,b3⟩;(obtain ⟨⟨-,y1,y2,y3,y4,y5⟩,y0⟩:=F _ b3);(have U3:=U _ b3))) |(go_at_call 69;((with_reducible refine U3.mono ?_);rintro e w33 ⟨rfl,rfl⟩)))
      (try rw [Exit.noGoto_ret])
      go_ret
      exact ⟨ret_bool HB.out.symm,Below.then hb b3⟩
     | true =>
     simp only [qu] at U
     cases qz:zeroB l[j].te with
     | false =>
      simp only [qz] at Z
      have HB:=BAD (Or.inl (by rw [HQ.out,qz];simp))
      clear HQ BAD STEP DUP SEEN HE LL MM hM qu qz
      go_wp2_with (first |(go_at_call 56;((with_reducible refine K1.mono ?_);rintro e w3 ⟨rfl,b3⟩;(obtain ⟨⟨-,y1,y2,y3,y4,y5⟩,y0⟩:=F _ b3);(have U3:=U _ b3);(have Z3:=Z _ b3))) |(go_at_call 69;((with_reducible refine U3.mono ?_);rintro e w33 ⟨rfl,rfl⟩)) |(go_at_call 70;((with_reducible refine Z3.mono ?_);rintro e w4 ⟨rfl,b4⟩;(have b34:=Below.then b3 b4);(obtain ⟨⟨-,z1,z2,z3,z4,z5⟩,z0⟩:=F _ b34))))
      (try rw [Exit.noGoto_ret])
      go_ret
      exact ⟨ret_bool HB.out.symm,Below.then hb b34⟩
     | true =>
     simp only [qz] at Z
     cases qc:(l[j].nd.c==1) with
     | false =>
      have qc':(l[j].nd.c != 1)=true:=by rw [bne,qc];rfl
      have HB:=BAD (Or.inl (by rw [HQ.out,qc];simp))
      clear HQ BAD STEP DUP SEEN HE LL MM hM qu qz
      go_wp2_with (first |(go_at_call 56;((with_reducible refine K1.mono ?_);rintro e w3 ⟨rfl,b3⟩;(obtain ⟨⟨-,y1,y2,y3,y4,y5⟩,y0⟩:=F _ b3);(have U3:=U _ b3);(have Z3:=Z _ b3))) |(go_at_call 69;((with_reducible refine U3.mono ?_);rintro e w33 ⟨rfl,rfl⟩)) |(go_at_call 70;((with_reducible refine Z3.mono ?_);rintro e w4 ⟨rfl,b4⟩;(have b34:=Below.then b3 b4);(obtain ⟨⟨-,z1,z2,z3,z4,z5⟩,z0⟩:=F _ b34))))
      (try rw [Exit.noGoto_ret])
      go_ret
      exact ⟨ret_bool HB.out.symm,Below.then hb b34⟩
     | true =>
     have qc':(l[j].nd.c != 1)=false:=by rw [bne,qc];rfl
     have HG:=STEP (by rw [HQ.out,qu,qz,qc];rfl) DUP.out
     clear HQ BAD STEP DUP LL hM qu qz
     go_wp2_with (first |(go_at_call 56;((with_reducible refine K1.mono ?_);rintro e w3 ⟨rfl,b3⟩;(obtain ⟨⟨-,y1,y2,y3,y4,y5⟩,y0⟩:=F _ b3);(have U3:=U _ b3);(have Z3:=Z _ b3))) |(go_at_call 69;((with_reducible refine U3.mono ?_);rintro e w33 ⟨rfl,rfl⟩)) |(go_at_call 70;((with_reducible refine Z3.mono ?_);rintro e w4 ⟨rfl,b4⟩;(have b34:=Below.then b3 b4);(obtain ⟨⟨-,z1,z2,z3,z4,z5⟩,z0⟩:=F _ b34))))
     go_roundw
     case rel=>exact ⟨j+1,n,by omega,by omega,by go_num,by go_num,Below.then hb b34,(MM _ b34).cong SEEN.out,HG.out⟩
     case measure=>simp [intOf];omega
    by_cases k2:l[j].k=2
    ·rw [k2] at x0
     have F:∀ w' (g:Below wr.heap.size wr w'),PF w' bb (bo+j*34) l[j]/\w'.cell? ⟨bb,bo+j*34,none⟩=some (.int .i64 2):=fun w' g=>⟨F w' g,by rw [<- k2];exact (F w' g).1⟩
     have HQ:=(show Hid (okS l[j]=defB l[j]) from (by have:=HQ.out;rw [if_neg (by rw [k2];decide),if_pos k2] at this;unfold Hid;rw [this,DE.out]))
     have DUP:Hid (dupAt l j=seen l j l[j].n):=by unfold Hid;rw [DUP.out,k2];rfl
     have SEEN:Hid (∀ s,(seen l j s || l[j].n==s)=seen l (j+1) s):=fun s=>by rw [SEEN.out,k2];rfl
     clear k2 k1 U Z V DE
     have LM:=fun w' (g:Below wr.heap.size wr w')=>(MM w' g).look hns
     cases qs:seen l j l[j].n with
     | true =>
      simp only [qs] at LM
      have HB:=BAD (Or.inr (by rw [DUP.out,qs]))
      clear HQ BAD STEP DUP SEEN HE LK LL MM hM D qs
      go_wp2_with (first |(go_at_call 56;((with_reducible refine K1.mono ?_);rintro e w3 ⟨rfl,b3⟩;(obtain ⟨⟨-,y1,y2,y3,y4,y5⟩,y0⟩:=F _ b3);(have LM3:=LM _ b3))))
      (try rw [Exit.noGoto_ret])
      go_ret
      exact ⟨ret_bool HB.out.symm,Below.then hb b3⟩
     | false =>
     simp only [qs] at LM
     cases qd:defB l[j] with
     | false =>
      simp only [qd] at D
      have HB:=BAD (Or.inl (by rw [HQ.out,qd]))
      clear HQ BAD STEP DUP SEEN HE LK LL MM hM qs qd
      go_wp2_with (first |(go_at_call 56;((with_reducible refine K1.mono ?_);rintro e w3 ⟨rfl,b3⟩;(obtain ⟨⟨-,y1,y2,y3,y4,y5⟩,y0⟩:=F _ b3);(have LM3:=LM _ b3);(have D3:=D _ b3))) |(go_at_call 71;((with_reducible refine D3.mono ?_);rintro e w4 ⟨rfl,b4⟩;(have b34:=Below.then b3 b4);(obtain ⟨⟨-,z1,z2,z3,z4,z5⟩,z0⟩:=F _ b34))))
      (try rw [Exit.noGoto_ret])
      go_ret
      exact ⟨ret_bool HB.out.symm,Below.then hb b34⟩
     | true =>
     simp only [qd] at D
     have HG:=STEP (by rw [HQ.out,qd]) (by rw [DUP.out,qs])
     have PUT:=fun w' (g:Below wr.heap.size wr w')=>(MM w' g).put (show n<maxLen by simp only [maxLen];omega) hns
     clear HQ BAD STEP DUP LK LL MM hM qs qd
     go_wp2_with (first |(go_at_call 56;((with_reducible refine K1.mono ?_);rintro e w3 ⟨rfl,b3⟩;(obtain ⟨⟨-,y1,y2,y3,y4,y5⟩,y0⟩:=F _ b3);(have LM3:=LM _ b3);(have D3:=D _ b3))) |(go_at_call 71;((with_reducible refine D3.mono ?_);rintro e w4 ⟨rfl,b4⟩;(have b34:=Below.then b3 b4);(obtain ⟨⟨-,z1,z2,z3,z4,z5⟩,z0⟩:=F _ b34);(obtain ⟨w5,hr5,S5,G5⟩:=PUT _ b34))))
     go_roundw
     case rel=>exact ⟨j+1,n+1,by omega,by omega,by go_num,by go_num,(Below.then hb b34).grown G5 (by have:=(Below.then hb b34).size;omega) (fun k e=>by injection e with e;omega),S5.cong SEEN.out,HG.out⟩
     case measure=>simp [intOf];omega
    by_cases k3:l[j].k=3
    ·rw [k3] at x0
     have F:∀ w' (g:Below wr.heap.size wr w'),PF w' bb (bo+j*34) l[j]/\w'.cell? ⟨bb,bo+j*34,none⟩=some (.int .i64 3):=fun w' g=>⟨F w' g,by rw [<- k3];exact (F w' g).1⟩
     have HQ:=(show Hid (okS l[j] =(l[j].nd.c==1&&okN l[j].te&&l[j].te.c==1&&noText l[j].n&&l[j].s==0)) from (by have:=HQ.out;rw [if_neg (by rw [k3];decide),if_neg (by rw [k3];decide),if_pos k3] at this;exact this))
     have DUP:Hid (dupAt l j=false):=by unfold Hid;rw [DUP.out,k3];rfl
     have SEEN:Hid (∀ s,seen l j s=seen l (j+1) s):=fun s=>by rw [SEEN.out,k3];simp
     have V:=V k3
     clear k1 k2 k3 D Z LK DE
     have HU:Hid (unB l[j] =(noText l[j].n&&l[j].s==0)):=rfl
     have U:=fun w' g=>(show Calls Tryz.prog 69 #[.pointer (some ⟨bb,bo+j*34,none⟩)] w' fun e w''=>e=.returned (.bool (unB l[j]))/\w'=w'' from U w' g)
     have HQ:=(show Hid (okS l[j] =(l[j].nd.c==1&&okN l[j].te&&l[j].te.c==1&&unB l[j])) from (by unfold Hid;rw [HQ.out,HU.out];simp [Bool.and_assoc]))
     clear HU
     cases qu:unB l[j] with
     | false =>
      simp only [qu] at U
      have HB:=BAD (Or.inl (by rw [HQ.out,qu];simp))
      clear HQ BAD STEP DUP SEEN HE V LL MM hM qu
      go_wp2_with (first |(go_at_call 56;((with_reducible refine K1.mono ?_);rintro e w3 ⟨rfl,b3⟩;(obtain ⟨⟨-,y1,y2,y3,y4,y5⟩,y0⟩:=F _ b3);(have U3:=U _ b3))) |(go_at_call 69;((with_reducible refine U3.mono ?_);rintro e w33 ⟨rfl,rfl⟩)))
      (try rw [Exit.noGoto_ret])
      go_ret
      exact ⟨ret_bool HB.out.symm,Below.then hb b3⟩
     | true =>
     simp only [qu] at U
     cases qz:okN l[j].te with
     | false =>
      simp only [qz] at V
      have HB:=BAD (Or.inl (by rw [HQ.out,qz];simp))
      clear HQ BAD STEP DUP SEEN HE LL MM hM qu qz
      go_wp2_with (first |(go_at_call 56;((with_reducible refine K1.mono ?_);rintro e w3 ⟨rfl,b3⟩;(obtain ⟨⟨-,y1,y2,y3,y4,y5⟩,y0⟩:=F _ b3);(have U3:=U _ b3);(have V3:=V _ b3))) |(go_at_call 69;((with_reducible refine U3.mono ?_);rintro e w33 ⟨rfl,rfl⟩)) |(go_at_call 56;((with_reducible refine V3.mono ?_);rintro e w4 ⟨rfl,b4⟩;(have b34:=Below.then b3 b4);(obtain ⟨⟨-,z1,z2,z3,z4,z5⟩,z0⟩:=F _ b34))))
      (try rw [Exit.noGoto_ret])
      go_ret
      exact ⟨ret_bool HB.out.symm,Below.then hb b34⟩
     | true =>
     simp only [qz] at V
     cases qt:(l[j].te.c==1) with
     | false =>
      have qt':(l[j].te.c != 1)=true:=by rw [bne,qt];rfl
      have HB:=BAD (Or.inl (by rw [HQ.out,qt];simp))
      clear HQ BAD STEP DUP SEEN HE LL MM hM qu qz
      go_wp2_with (first |(go_at_call 56;((with_reducible refine K1.mono ?_);rintro e w3 ⟨rfl,b3⟩;(obtain ⟨⟨-,y1,y2,y3,y4,y5⟩,y0⟩:=F _ b3);(have U3:=U _ b3);(have V3:=V _ b3))) |(go_at_call 69;((with_reducible refine U3.mono ?_);rintro e w33 ⟨rfl,rfl⟩)) |(go_at_call 56;((with_reducible refine V3.mono ?_);rintro e w4 ⟨rfl,b4⟩;(have b34:=Below.then b3 b4);(obtain ⟨⟨-,z1,z2,z3,z4,z5⟩,z0⟩:=F _ b34))))
      (try rw [Exit.noGoto_ret])
      go_ret
      exact ⟨ret_bool HB.out.symm,Below.then hb b34⟩
     | true =>
     have qt':(l[j].te.c != 1)=false:=by rw [bne,qt];rfl
     cases qc:(l[j].nd.c==1) with
     | false =>
      have qc':(l[j].nd.c != 1)=true:=by rw [bne,qc];rfl
      have HB:=BAD (Or.inl (by rw [HQ.out,qc];simp))
      clear HQ BAD STEP DUP SEEN HE LL MM hM qu qz
      go_wp2_with (first |(go_at_call 56;((with_reducible refine K1.mono ?_);rintro e w3 ⟨rfl,b3⟩;(obtain ⟨⟨-,y1,y2,y3,y4,y5⟩,y0⟩:=F _ b3);(have U3:=U _ b3);(have V3:=V _ b3))) |(go_at_call 69;((with_reducible refine U3.mono ?_);rintro e w33 ⟨rfl,rfl⟩)) |(go_at_call 56;((with_reducible refine V3.mono ?_);rintro e w4 ⟨rfl,b4⟩;(have b34:=Below.then b3 b4);(obtain ⟨⟨-,z1,z2,z3,z4,z5⟩,z0⟩:=F _ b34))))
      (try rw [Exit.noGoto_ret])
      go_ret
      exact ⟨ret_bool HB.out.symm,Below.then hb b34⟩
     | true =>
     have qc':(l[j].nd.c != 1)=false:=by rw [bne,qc];rfl
     have HG:=STEP (by rw [HQ.out,qu,qz,qc,qt];rfl) DUP.out
     clear HQ BAD STEP DUP LL hM qu qz
     go_wp2_with (first |(go_at_call 56;((with_reducible refine K1.mono ?_);rintro e w3 ⟨rfl,b3⟩;(obtain ⟨⟨-,y1,y2,y3,y4,y5⟩,y0⟩:=F _ b3);(have U3:=U _ b3);(have V3:=V _ b3))) |(go_at_call 69;((with_reducible refine U3.mono ?_);rintro e w33 ⟨rfl,rfl⟩)) |(go_at_call 56;((with_reducible refine V3.mono ?_);rintro e w4 ⟨rfl,b4⟩;(have b34:=Below.then b3 b4);(obtain ⟨⟨-,z1,z2,z3,z4,z5⟩,z0⟩:=F _ b34))))
     go_roundw
     case rel=>exact ⟨j+1,n,by omega,by omega,by go_num,by go_num,Below.then hb b34,(MM _ b34).cong SEEN.out,HG.out⟩
     case measure=>simp [intOf];omega
    ·have HB:=BAD (Or.inl (by rw [HQ.out,if_neg k1,if_neg k2,if_neg k3]))
     have e1:(l[j].k==1)=false:=by simpa using k1
     have e2:(l[j].k==2)=false:=by simpa using k2
     have e3:(l[j].k==3)=false:=by simpa using k3
     clear k1 k2 k3 U Z D V DE
     clear HQ BAD STEP DUP SEEN HE LK LL MM hM
     go_wp2_with ((go_at_call 56;((with_reducible refine K1.mono ?_);rintro e w3 ⟨rfl,b3⟩;(obtain ⟨y0,y1,y2,y3,y4,y5⟩:=F _ b3))))
     (try rw [Exit.noGoto_ret])
     go_ret
     exact ⟨ret_bool HB.out.symm,Below.then hb b3⟩
   ·obtain rfl:j=l.length:=by omega
    have HG:Hid (okB l=true):=ok_end HN.out HE.out
    clear hM HE
    go_wp2_with fail
    (try rw [Exit.noGoto_ret])
    go_ret
    exact ⟨ret_bool HG.out.symm,hb⟩
 ·have hn':(1000:Int) <(l.length:Int):=by omega
  have HG:Hid (okB l=false):=by unfold Hid okB;rw [decide_eq_false hn];rfl
  clear ih hrk hsz hat
  go_enter Tryz.func50,Tryz.ntmps50
  go_wp2_with fail
  go_step3
  go_wp2_with fail
  (try rw [Exit.noGoto_ret])
  go_ret
  exact ⟨ret_bool HG.out.symm,Below.refl _ _⟩
end Go.Proofs.YtalkinnbfglkdaaGreatDoor.Syn
