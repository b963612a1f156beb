/-
  Layer 8: the block of the scanner (a text and a place in it), and what each reading method says of the text, as plain data.
  Layer 8: FormatInt in base 16, at the code points that literals write so. (Written by wip/gen/token-fmt.py.)
-/
import Derived.Test.YtmfhdcpajgjgpaaGreatDoorProg
import Derived.OwnWalk
import Derived.Deep.RegionHeld3
import Derived.Deep.RegionLaw
import Derived.Deep.RegionHeldLaw
import Derived.RegionTactic
import Derived.Handy
import Derived.Below
import Derived.LoopN
set_option maxHeartbeats 2000000
namespace Go.Proofs.YtmfhdcpajgjgpaaGreatDoor.Tok
open Go.RowKit
set_option linter.unusedVariables false
theorem Below.then {a b c:World}(h:Below a.heap.size a b) (k:Below b.heap.size b c):Below a.heap.size a c:=h.trans (k.mono h.size)
theorem below_new (w:World) (o:Obj):Below w.heap.size w (w.alloc o):=(Below.refl _ _).alloc (Nat.le_refl _) _
theorem heap_alloc_new (w:World) (o:Obj):(w.alloc o).heap[w.heap.size]?=some o:=by
 show (w.heap.push o)[w.heap.size]?=_
 simp
structure But (b:Nat) (w w':World):Prop where
 os:w'.os=w.os
 tape:w'.tape=w.tape
 output:w'.output=w.output
 size:w.heap.size<=w'.heap.size
 block:∀ k,k<w.heap.size->k≠b->w'.heap[k]?=w.heap[k]?
theorem But.refl (b:Nat) (w:World):But b w w:=⟨rfl,rfl,rfl,Nat.le_refl _,fun _ _ _=>rfl⟩
theorem But.trans {b:Nat}{u v w:World}(h:But b u v) (k:But b v w):But b u w :=
 ⟨k.os.trans h.os,k.tape.trans h.tape,k.output.trans h.output,Nat.le_trans h.size k.size,fun n hn hb=>(k.block n (Nat.lt_of_lt_of_le hn h.size) hb).trans (h.block n hn hb)⟩
theorem But.of {b:Nat}{w w':World}(h:Below w.heap.size w w'):But b w w':=⟨h.os,h.tape,h.output,h.size,fun k hk _=>h.block k hk⟩
theorem But.set (b:Nat) (w:World) (v:Value):But b w (w.setCell ⟨b,1,none⟩ v) :=
 ⟨rfl,rfl,rfl,by simp [World.setCell],fun k _ hb=>Below.heap_setCell _ _ _ _ hb⟩
theorem But.drew {b:Nat}{a w:World}(h:But b a w):But b a w.drew:=⟨h.os,h.tape,h.output,h.size,h.block⟩
theorem But.below {b B:Nat}{W w w':World}(h:But b w w') (hb:B<=b) (hW:B<=W.heap.size) (hB:Below B W w):Below B W w' :=
 ⟨h.os.trans hB.os,h.tape.trans hB.tape,h.output.trans hB.output,Nat.le_trans hB.size h.size,fun k hk=>(h.block k (Nat.lt_of_lt_of_le hk (by have:=hB.size;omega)) (by omega)).trans (hB.block k hk)⟩
/-! ### Bytes -/
def inB (s:ByteArray) (i:Nat) (lo hi:Int):Bool:=if h:i<s.size then decide (lo<=(s[i].toNat:Int)/\(s[i].toNat:Int)<=hi) else false
def adv (t:Bool) (i:Nat):Nat:=if t then i+1 else i
/-! ### Many -/
def one (p:Nat->Bool) (i:Nat):Bool × Nat:=(p i,adv (p i) i)
theorem cell_below {w w':World}{p:Addr}{v:Value}(h:w.cell? p=some v) (hb:Below w.heap.size w w'):w'.cell? p=some v:=(hb.cell (World.block_lt_of_cell? w p h)).trans h
def TZ (w:World):Prop:=w.cell? ⟨5,15,none⟩=some (.int .u8 4)
theorem TZ.below {w w':World}(h:TZ w) (hb:Below w.heap.size w w'):TZ w':=cell_below h hb
theorem tz_idx:IntKind.u64.wrap (bits BinOp.and IntKind.u64 16 (IntKind.u64.wrap (-16))*285870213051353865) / 288230376151711744=15:=by kernel_rfl
set_option maxRecDepth 100000 in
theorem tzQ (w:World) (hD:TZ w):Calls Tryz.prog 195 #[.int .u64 16] w fun e w'=>e=.returned (.int .i64 4)/\w=w':=by
 have ht:=tz_idx
 unfold TZ at hD
 go_enter Tryz.func195,Tryz.ntmps195
 go_wp2
 go_ret
 exact ⟨rfl,rfl⟩
theorem zT (W:World) (X o n cap:Nat) (L:List UInt8) (hl:L.length=n) (hc:∀ (j:Nat) (hj:j<L.length),W.cell? ⟨X,o+j,none⟩=some (.int .u8 (L[j].toNat:Int))) :
  (convert 46 9 (.slice (some ⟨X,o,none⟩) n cap)).run Tryz.prog W=.ok (.string ⟨L.toArray⟩) W:=by
 subst hl
 exact run_convert_bytes_back W 46 9 5 ⟨X,o,none⟩ cap L Tryz.underlying46 Tryz.underlying5 Tryz.underlying9 (fun j hj=>by rw [show (⟨X,o,none⟩:Addr).add j =⟨X,o+j,none⟩ by simp [Addr.add]];exact hc j hj)
theorem p2_and:bits BinOp.and IntKind.i64 16 15=0:=by kernel_rfl
set_option maxRecDepth 100000 in
theorem qD (w:World):Calls Tryz.prog 194 #[.int .i64 16] w fun e w'=>e=.returned (.bool true)/\w=w':=by
 have h:=p2_and
 go_enter Tryz.func194,Tryz.ntmps194
 go_wp2
 go_ret
 exact ⟨rfl,rfl⟩
def hx1 (d:Nat):UInt8:=if d<10 then (48+d).toUInt8 else (87+d).toUInt8
def hexL (c:Nat):List UInt8:=if c<16 then [hx1 c] else [hx1 (c / 16),hx1 (c % 16)]
set_option maxRecDepth 100000 in
theorem fb_0 (w:World) (hD:TZ w):Calls Tryz.prog 190 #[.slice none 0 0,.int .u64 0,.int .i64 16,.bool false,.bool false] w fun e w'=>e=.returned (.tuple #[.slice none 0 0,.string ⟨#[48]⟩])/\Below w.heap.size w w':=by
 have hD2:∀ o,TZ (w.alloc o):=fun o=>hD.below (below_new w o)
 go_enter Tryz.func190,Tryz.ntmps190
 go_wp2_with (first
  |(go_at_call 194;with_reducible refine (qD _).mono ?_;rintro e w1 ⟨rfl,rfl⟩)
  |(go_at_call 195;with_reducible refine (tzQ _ (hD2 _)).mono ?_;rintro e w1 ⟨rfl,rfl⟩))
 refine wp_loop_rounds 1 ?_
 rw [rounds_succ]
 go_wp2
 rw [zT _ _ 64 1 1 [48] rfl (fun j hj=>by
  rw [World.cell?_alloc_new]
  match j,hj with
  | 0,_=>rfl)]
 go_wp2
 go_ret2
 exact ⟨rfl,below_new _ _⟩
set_option maxRecDepth 100000 in
theorem fb_1 (w:World) (hD:TZ w):Calls Tryz.prog 190 #[.slice none 0 0,.int .u64 1,.int .i64 16,.bool false,.bool false] w fun e w'=>e=.returned (.tuple #[.slice none 0 0,.string ⟨#[49]⟩])/\Below w.heap.size w w':=by
 have hD2:∀ o,TZ (w.alloc o):=fun o=>hD.below (below_new w o)
 go_enter Tryz.func190,Tryz.ntmps190
 go_wp2_with (first
  |(go_at_call 194;with_reducible refine (qD _).mono ?_;rintro e w1 ⟨rfl,rfl⟩)
  |(go_at_call 195;with_reducible refine (tzQ _ (hD2 _)).mono ?_;rintro e w1 ⟨rfl,rfl⟩))
 refine wp_loop_rounds 1 ?_
 rw [rounds_succ]
 go_wp2
 rw [zT _ _ 64 1 1 [49] rfl (fun j hj=>by
  rw [World.cell?_alloc_new]
  match j,hj with
  | 0,_=>rfl)]
 go_wp2
 go_ret2
 exact ⟨rfl,below_new _ _⟩
set_option maxRecDepth 100000 in
theorem fb_2 (w:World) (hD:TZ w):Calls Tryz.prog 190 #[.slice none 0 0,.int .u64 2,.int .i64 16,.bool false,.bool false] w fun e w'=>e=.returned (.tuple #[.slice none 0 0,.string ⟨#[50]⟩])/\Below w.heap.size w w':=by
 have hD2:∀ o,TZ (w.alloc o):=fun o=>hD.below (below_new w o)
 go_enter Tryz.func190,Tryz.ntmps190
 go_wp2_with (first
  |(go_at_call 194;with_reducible refine (qD _).mono ?_;rintro e w1 ⟨rfl,rfl⟩)
  |(go_at_call 195;with_reducible refine (tzQ _ (hD2 _)).mono ?_;rintro e w1 ⟨rfl,rfl⟩))
 refine wp_loop_rounds 1 ?_
 rw [rounds_succ]
 go_wp2
 rw [zT _ _ 64 1 1 [50] rfl (fun j hj=>by
  rw [World.cell?_alloc_new]
  match j,hj with
  | 0,_=>rfl)]
 go_wp2
 go_ret2
 exact ⟨rfl,below_new _ _⟩
set_option maxRecDepth 100000 in
theorem fb_3 (w:World) (hD:TZ w):Calls Tryz.prog 190 #[.slice none 0 0,.int .u64 3,.int .i64 16,.bool false,.bool false] w fun e w'=>e=.returned (.tuple #[.slice none 0 0,.string ⟨#[51]⟩])/\Below w.heap.size w w':=by
 have hD2:∀ o,TZ (w.alloc o):=fun o=>hD.below (below_new w o)
 go_enter Tryz.func190,Tryz.ntmps190
 go_wp2_with (first
  |(go_at_call 194;with_reducible refine (qD _).mono ?_;rintro e w1 ⟨rfl,rfl⟩)
  |(go_at_call 195;with_reducible refine (tzQ _ (hD2 _)).mono ?_;rintro e w1 ⟨rfl,rfl⟩))
 refine wp_loop_rounds 1 ?_
 rw [rounds_succ]
 go_wp2
 rw [zT _ _ 64 1 1 [51] rfl (fun j hj=>by
  rw [World.cell?_alloc_new]
  match j,hj with
  | 0,_=>rfl)]
 go_wp2
 go_ret2
 exact ⟨rfl,below_new _ _⟩
set_option maxRecDepth 100000 in
theorem fb_4 (w:World) (hD:TZ w):Calls Tryz.prog 190 #[.slice none 0 0,.int .u64 4,.int .i64 16,.bool false,.bool false] w fun e w'=>e=.returned (.tuple #[.slice none 0 0,.string ⟨#[52]⟩])/\Below w.heap.size w w':=by
 have hD2:∀ o,TZ (w.alloc o):=fun o=>hD.below (below_new w o)
 go_enter Tryz.func190,Tryz.ntmps190
 go_wp2_with (first
  |(go_at_call 194;with_reducible refine (qD _).mono ?_;rintro e w1 ⟨rfl,rfl⟩)
  |(go_at_call 195;with_reducible refine (tzQ _ (hD2 _)).mono ?_;rintro e w1 ⟨rfl,rfl⟩))
 refine wp_loop_rounds 1 ?_
 rw [rounds_succ]
 go_wp2
 rw [zT _ _ 64 1 1 [52] rfl (fun j hj=>by
  rw [World.cell?_alloc_new]
  match j,hj with
  | 0,_=>rfl)]
 go_wp2
 go_ret2
 exact ⟨rfl,below_new _ _⟩
set_option maxRecDepth 100000 in
theorem fb_5 (w:World) (hD:TZ w):Calls Tryz.prog 190 #[.slice none 0 0,.int .u64 5,.int .i64 16,.bool false,.bool false] w fun e w'=>e=.returned (.tuple #[.slice none 0 0,.string ⟨#[53]⟩])/\Below w.heap.size w w':=by
 have hD2:∀ o,TZ (w.alloc o):=fun o=>hD.below (below_new w o)
 go_enter Tryz.func190,Tryz.ntmps190
 go_wp2_with (first
  |(go_at_call 194;with_reducible refine (qD _).mono ?_;rintro e w1 ⟨rfl,rfl⟩)
  |(go_at_call 195;with_reducible refine (tzQ _ (hD2 _)).mono ?_;rintro e w1 ⟨rfl,rfl⟩))
 refine wp_loop_rounds 1 ?_
 rw [rounds_succ]
 go_wp2
 rw [zT _ _ 64 1 1 [53] rfl (fun j hj=>by
  rw [World.cell?_alloc_new]
  match j,hj with
  | 0,_=>rfl)]
 go_wp2
 go_ret2
 exact ⟨rfl,below_new _ _⟩
set_option maxRecDepth 100000 in
theorem fb_6 (w:World) (hD:TZ w):Calls Tryz.prog 190 #[.slice none 0 0,.int .u64 6,.int .i64 16,.bool false,.bool false] w fun e w'=>e=.returned (.tuple #[.slice none 0 0,.string ⟨#[54]⟩])/\Below w.heap.size w w':=by
 have hD2:∀ o,TZ (w.alloc o):=fun o=>hD.below (below_new w o)
 go_enter Tryz.func190,Tryz.ntmps190
 go_wp2_with (first
  |(go_at_call 194;with_reducible refine (qD _).mono ?_;rintro e w1 ⟨rfl,rfl⟩)
  |(go_at_call 195;with_reducible refine (tzQ _ (hD2 _)).mono ?_;rintro e w1 ⟨rfl,rfl⟩))
 refine wp_loop_rounds 1 ?_
 rw [rounds_succ]
 go_wp2
 rw [zT _ _ 64 1 1 [54] rfl (fun j hj=>by
  rw [World.cell?_alloc_new]
  match j,hj with
  | 0,_=>rfl)]
 go_wp2
 go_ret2
 exact ⟨rfl,below_new _ _⟩
set_option maxRecDepth 100000 in
theorem fb_7 (w:World) (hD:TZ w):Calls Tryz.prog 190 #[.slice none 0 0,.int .u64 7,.int .i64 16,.bool false,.bool false] w fun e w'=>e=.returned (.tuple #[.slice none 0 0,.string ⟨#[55]⟩])/\Below w.heap.size w w':=by
 have hD2:∀ o,TZ (w.alloc o):=fun o=>hD.below (below_new w o)
 go_enter Tryz.func190,Tryz.ntmps190
 go_wp2_with (first
  |(go_at_call 194;with_reducible refine (qD _).mono ?_;rintro e w1 ⟨rfl,rfl⟩)
  |(go_at_call 195;with_reducible refine (tzQ _ (hD2 _)).mono ?_;rintro e w1 ⟨rfl,rfl⟩))
 refine wp_loop_rounds 1 ?_
 rw [rounds_succ]
 go_wp2
 rw [zT _ _ 64 1 1 [55] rfl (fun j hj=>by
  rw [World.cell?_alloc_new]
  match j,hj with
  | 0,_=>rfl)]
 go_wp2
 go_ret2
 exact ⟨rfl,below_new _ _⟩
set_option maxRecDepth 100000 in
theorem fb_8 (w:World) (hD:TZ w):Calls Tryz.prog 190 #[.slice none 0 0,.int .u64 8,.int .i64 16,.bool false,.bool false] w fun e w'=>e=.returned (.tuple #[.slice none 0 0,.string ⟨#[56]⟩])/\Below w.heap.size w w':=by
 have hD2:∀ o,TZ (w.alloc o):=fun o=>hD.below (below_new w o)
 go_enter Tryz.func190,Tryz.ntmps190
 go_wp2_with (first
  |(go_at_call 194;with_reducible refine (qD _).mono ?_;rintro e w1 ⟨rfl,rfl⟩)
  |(go_at_call 195;with_reducible refine (tzQ _ (hD2 _)).mono ?_;rintro e w1 ⟨rfl,rfl⟩))
 refine wp_loop_rounds 1 ?_
 rw [rounds_succ]
 go_wp2
 rw [zT _ _ 64 1 1 [56] rfl (fun j hj=>by
  rw [World.cell?_alloc_new]
  match j,hj with
  | 0,_=>rfl)]
 go_wp2
 go_ret2
 exact ⟨rfl,below_new _ _⟩
set_option maxRecDepth 100000 in
theorem fb_11 (w:World) (hD:TZ w):Calls Tryz.prog 190 #[.slice none 0 0,.int .u64 11,.int .i64 16,.bool false,.bool false] w fun e w'=>e=.returned (.tuple #[.slice none 0 0,.string ⟨#[98]⟩])/\Below w.heap.size w w':=by
 have hD2:∀ o,TZ (w.alloc o):=fun o=>hD.below (below_new w o)
 go_enter Tryz.func190,Tryz.ntmps190
 go_wp2_with (first
  |(go_at_call 194;with_reducible refine (qD _).mono ?_;rintro e w1 ⟨rfl,rfl⟩)
  |(go_at_call 195;with_reducible refine (tzQ _ (hD2 _)).mono ?_;rintro e w1 ⟨rfl,rfl⟩))
 refine wp_loop_rounds 1 ?_
 rw [rounds_succ]
 go_wp2
 rw [zT _ _ 64 1 1 [98] rfl (fun j hj=>by
  rw [World.cell?_alloc_new]
  match j,hj with
  | 0,_=>rfl)]
 go_wp2
 go_ret2
 exact ⟨rfl,below_new _ _⟩
set_option maxRecDepth 100000 in
theorem fb_12 (w:World) (hD:TZ w):Calls Tryz.prog 190 #[.slice none 0 0,.int .u64 12,.int .i64 16,.bool false,.bool false] w fun e w'=>e=.returned (.tuple #[.slice none 0 0,.string ⟨#[99]⟩])/\Below w.heap.size w w':=by
 have hD2:∀ o,TZ (w.alloc o):=fun o=>hD.below (below_new w o)
 go_enter Tryz.func190,Tryz.ntmps190
 go_wp2_with (first
  |(go_at_call 194;with_reducible refine (qD _).mono ?_;rintro e w1 ⟨rfl,rfl⟩)
  |(go_at_call 195;with_reducible refine (tzQ _ (hD2 _)).mono ?_;rintro e w1 ⟨rfl,rfl⟩))
 refine wp_loop_rounds 1 ?_
 rw [rounds_succ]
 go_wp2
 rw [zT _ _ 64 1 1 [99] rfl (fun j hj=>by
  rw [World.cell?_alloc_new]
  match j,hj with
  | 0,_=>rfl)]
 go_wp2
 go_ret2
 exact ⟨rfl,below_new _ _⟩
set_option maxRecDepth 100000 in
theorem fb_14 (w:World) (hD:TZ w):Calls Tryz.prog 190 #[.slice none 0 0,.int .u64 14,.int .i64 16,.bool false,.bool false] w fun e w'=>e=.returned (.tuple #[.slice none 0 0,.string ⟨#[101]⟩])/\Below w.heap.size w w':=by
 have hD2:∀ o,TZ (w.alloc o):=fun o=>hD.below (below_new w o)
 go_enter Tryz.func190,Tryz.ntmps190
 go_wp2_with (first
  |(go_at_call 194;with_reducible refine (qD _).mono ?_;rintro e w1 ⟨rfl,rfl⟩)
  |(go_at_call 195;with_reducible refine (tzQ _ (hD2 _)).mono ?_;rintro e w1 ⟨rfl,rfl⟩))
 refine wp_loop_rounds 1 ?_
 rw [rounds_succ]
 go_wp2
 rw [zT _ _ 64 1 1 [101] rfl (fun j hj=>by
  rw [World.cell?_alloc_new]
  match j,hj with
  | 0,_=>rfl)]
 go_wp2
 go_ret2
 exact ⟨rfl,below_new _ _⟩
set_option maxRecDepth 100000 in
theorem fb_15 (w:World) (hD:TZ w):Calls Tryz.prog 190 #[.slice none 0 0,.int .u64 15,.int .i64 16,.bool false,.bool false] w fun e w'=>e=.returned (.tuple #[.slice none 0 0,.string ⟨#[102]⟩])/\Below w.heap.size w w':=by
 have hD2:∀ o,TZ (w.alloc o):=fun o=>hD.below (below_new w o)
 go_enter Tryz.func190,Tryz.ntmps190
 go_wp2_with (first
  |(go_at_call 194;with_reducible refine (qD _).mono ?_;rintro e w1 ⟨rfl,rfl⟩)
  |(go_at_call 195;with_reducible refine (tzQ _ (hD2 _)).mono ?_;rintro e w1 ⟨rfl,rfl⟩))
 refine wp_loop_rounds 1 ?_
 rw [rounds_succ]
 go_wp2
 rw [zT _ _ 64 1 1 [102] rfl (fun j hj=>by
  rw [World.cell?_alloc_new]
  match j,hj with
  | 0,_=>rfl)]
 go_wp2
 go_ret2
 exact ⟨rfl,below_new _ _⟩
set_option maxRecDepth 100000 in
theorem fb_16 (w:World) (hD:TZ w):Calls Tryz.prog 190 #[.slice none 0 0,.int .u64 16,.int .i64 16,.bool false,.bool false] w fun e w'=>e=.returned (.tuple #[.slice none 0 0,.string ⟨#[49,48]⟩])/\Below w.heap.size w w':=by
 have hD2:∀ o,TZ (w.alloc o):=fun o=>hD.below (below_new w o)
 have hb1:bits BinOp.and IntKind.u64 16 15=0:=by kernel_rfl
 go_enter Tryz.func190,Tryz.ntmps190
 go_wp2_with (first
  |(go_at_call 194;with_reducible refine (qD _).mono ?_;rintro e w1 ⟨rfl,rfl⟩)
  |(go_at_call 195;with_reducible refine (tzQ _ (hD2 _)).mono ?_;rintro e w1 ⟨rfl,rfl⟩))
 refine wp_loop_rounds 2 ?_
 rw [rounds_succ]
 go_wp2
 rw [rounds_succ]
 go_wp2
 rw [zT _ _ 63 2 2 [49,48] rfl (fun j hj=>by
  rw [World.cell?_alloc_new]
  match j,hj with
  | 0,_=>rfl
  | 1,_=>rfl)]
 go_wp2
 go_ret2
 exact ⟨rfl,below_new _ _⟩
set_option maxRecDepth 100000 in
theorem fb_17 (w:World) (hD:TZ w):Calls Tryz.prog 190 #[.slice none 0 0,.int .u64 17,.int .i64 16,.bool false,.bool false] w fun e w'=>e=.returned (.tuple #[.slice none 0 0,.string ⟨#[49,49]⟩])/\Below w.heap.size w w':=by
 have hD2:∀ o,TZ (w.alloc o):=fun o=>hD.below (below_new w o)
 have hb1:bits BinOp.and IntKind.u64 17 15=1:=by kernel_rfl
 go_enter Tryz.func190,Tryz.ntmps190
 go_wp2_with (first
  |(go_at_call 194;with_reducible refine (qD _).mono ?_;rintro e w1 ⟨rfl,rfl⟩)
  |(go_at_call 195;with_reducible refine (tzQ _ (hD2 _)).mono ?_;rintro e w1 ⟨rfl,rfl⟩))
 refine wp_loop_rounds 2 ?_
 rw [rounds_succ]
 go_wp2
 rw [rounds_succ]
 go_wp2
 rw [zT _ _ 63 2 2 [49,49] rfl (fun j hj=>by
  rw [World.cell?_alloc_new]
  match j,hj with
  | 0,_=>rfl
  | 1,_=>rfl)]
 go_wp2
 go_ret2
 exact ⟨rfl,below_new _ _⟩
set_option maxRecDepth 100000 in
theorem fb_18 (w:World) (hD:TZ w):Calls Tryz.prog 190 #[.slice none 0 0,.int .u64 18,.int .i64 16,.bool false,.bool false] w fun e w'=>e=.returned (.tuple #[.slice none 0 0,.string ⟨#[49,50]⟩])/\Below w.heap.size w w':=by
 have hD2:∀ o,TZ (w.alloc o):=fun o=>hD.below (below_new w o)
 have hb1:bits BinOp.and IntKind.u64 18 15=2:=by kernel_rfl
 go_enter Tryz.func190,Tryz.ntmps190
 go_wp2_with (first
  |(go_at_call 194;with_reducible refine (qD _).mono ?_;rintro e w1 ⟨rfl,rfl⟩)
  |(go_at_call 195;with_reducible refine (tzQ _ (hD2 _)).mono ?_;rintro e w1 ⟨rfl,rfl⟩))
 refine wp_loop_rounds 2 ?_
 rw [rounds_succ]
 go_wp2
 rw [rounds_succ]
 go_wp2
 rw [zT _ _ 63 2 2 [49,50] rfl (fun j hj=>by
  rw [World.cell?_alloc_new]
  match j,hj with
  | 0,_=>rfl
  | 1,_=>rfl)]
 go_wp2
 go_ret2
 exact ⟨rfl,below_new _ _⟩
set_option maxRecDepth 100000 in
theorem fb_19 (w:World) (hD:TZ w):Calls Tryz.prog 190 #[.slice none 0 0,.int .u64 19,.int .i64 16,.bool false,.bool false] w fun e w'=>e=.returned (.tuple #[.slice none 0 0,.string ⟨#[49,51]⟩])/\Below w.heap.size w w':=by
 have hD2:∀ o,TZ (w.alloc o):=fun o=>hD.below (below_new w o)
 have hb1:bits BinOp.and IntKind.u64 19 15=3:=by kernel_rfl
 go_enter Tryz.func190,Tryz.ntmps190
 go_wp2_with (first
  |(go_at_call 194;with_reducible refine (qD _).mono ?_;rintro e w1 ⟨rfl,rfl⟩)
  |(go_at_call 195;with_reducible refine (tzQ _ (hD2 _)).mono ?_;rintro e w1 ⟨rfl,rfl⟩))
 refine wp_loop_rounds 2 ?_
 rw [rounds_succ]
 go_wp2
 rw [rounds_succ]
 go_wp2
 rw [zT _ _ 63 2 2 [49,51] rfl (fun j hj=>by
  rw [World.cell?_alloc_new]
  match j,hj with
  | 0,_=>rfl
  | 1,_=>rfl)]
 go_wp2
 go_ret2
 exact ⟨rfl,below_new _ _⟩
set_option maxRecDepth 100000 in
theorem fb_20 (w:World) (hD:TZ w):Calls Tryz.prog 190 #[.slice none 0 0,.int .u64 20,.int .i64 16,.bool false,.bool false] w fun e w'=>e=.returned (.tuple #[.slice none 0 0,.string ⟨#[49,52]⟩])/\Below w.heap.size w w':=by
 have hD2:∀ o,TZ (w.alloc o):=fun o=>hD.below (below_new w o)
 have hb1:bits BinOp.and IntKind.u64 20 15=4:=by kernel_rfl
 go_enter Tryz.func190,Tryz.ntmps190
 go_wp2_with (first
  |(go_at_call 194;with_reducible refine (qD _).mono ?_;rintro e w1 ⟨rfl,rfl⟩)
  |(go_at_call 195;with_reducible refine (tzQ _ (hD2 _)).mono ?_;rintro e w1 ⟨rfl,rfl⟩))
 refine wp_loop_rounds 2 ?_
 rw [rounds_succ]
 go_wp2
 rw [rounds_succ]
 go_wp2
 rw [zT _ _ 63 2 2 [49,52] rfl (fun j hj=>by
  rw [World.cell?_alloc_new]
  match j,hj with
  | 0,_=>rfl
  | 1,_=>rfl)]
 go_wp2
 go_ret2
 exact ⟨rfl,below_new _ _⟩
set_option maxRecDepth 100000 in
theorem fb_21 (w:World) (hD:TZ w):Calls Tryz.prog 190 #[.slice none 0 0,.int .u64 21,.int .i64 16,.bool false,.bool false] w fun e w'=>e=.returned (.tuple #[.slice none 0 0,.string ⟨#[49,53]⟩])/\Below w.heap.size w w':=by
 have hD2:∀ o,TZ (w.alloc o):=fun o=>hD.below (below_new w o)
 have hb1:bits BinOp.and IntKind.u64 21 15=5:=by kernel_rfl
 go_enter Tryz.func190,Tryz.ntmps190
 go_wp2_with (first
  |(go_at_call 194;with_reducible refine (qD _).mono ?_;rintro e w1 ⟨rfl,rfl⟩)
  |(go_at_call 195;with_reducible refine (tzQ _ (hD2 _)).mono ?_;rintro e w1 ⟨rfl,rfl⟩))
 refine wp_loop_rounds 2 ?_
 rw [rounds_succ]
 go_wp2
 rw [rounds_succ]
 go_wp2
 rw [zT _ _ 63 2 2 [49,53] rfl (fun j hj=>by
  rw [World.cell?_alloc_new]
  match j,hj with
  | 0,_=>rfl
  | 1,_=>rfl)]
 go_wp2
 go_ret2
 exact ⟨rfl,below_new _ _⟩
set_option maxRecDepth 100000 in
theorem fb_22 (w:World) (hD:TZ w):Calls Tryz.prog 190 #[.slice none 0 0,.int .u64 22,.int .i64 16,.bool false,.bool false] w fun e w'=>e=.returned (.tuple #[.slice none 0 0,.string ⟨#[49,54]⟩])/\Below w.heap.size w w':=by
 have hD2:∀ o,TZ (w.alloc o):=fun o=>hD.below (below_new w o)
 have hb1:bits BinOp.and IntKind.u64 22 15=6:=by kernel_rfl
 go_enter Tryz.func190,Tryz.ntmps190
 go_wp2_with (first
  |(go_at_call 194;with_reducible refine (qD _).mono ?_;rintro e w1 ⟨rfl,rfl⟩)
  |(go_at_call 195;with_reducible refine (tzQ _ (hD2 _)).mono ?_;rintro e w1 ⟨rfl,rfl⟩))
 refine wp_loop_rounds 2 ?_
 rw [rounds_succ]
 go_wp2
 rw [rounds_succ]
 go_wp2
 rw [zT _ _ 63 2 2 [49,54] rfl (fun j hj=>by
  rw [World.cell?_alloc_new]
  match j,hj with
  | 0,_=>rfl
  | 1,_=>rfl)]
 go_wp2
 go_ret2
 exact ⟨rfl,below_new _ _⟩
set_option maxRecDepth 100000 in
theorem fb_23 (w:World) (hD:TZ w):Calls Tryz.prog 190 #[.slice none 0 0,.int .u64 23,.int .i64 16,.bool false,.bool false] w fun e w'=>e=.returned (.tuple #[.slice none 0 0,.string ⟨#[49,55]⟩])/\Below w.heap.size w w':=by
 have hD2:∀ o,TZ (w.alloc o):=fun o=>hD.below (below_new w o)
 have hb1:bits BinOp.and IntKind.u64 23 15=7:=by kernel_rfl
 go_enter Tryz.func190,Tryz.ntmps190
 go_wp2_with (first
  |(go_at_call 194;with_reducible refine (qD _).mono ?_;rintro e w1 ⟨rfl,rfl⟩)
  |(go_at_call 195;with_reducible refine (tzQ _ (hD2 _)).mono ?_;rintro e w1 ⟨rfl,rfl⟩))
 refine wp_loop_rounds 2 ?_
 rw [rounds_succ]
 go_wp2
 rw [rounds_succ]
 go_wp2
 rw [zT _ _ 63 2 2 [49,55] rfl (fun j hj=>by
  rw [World.cell?_alloc_new]
  match j,hj with
  | 0,_=>rfl
  | 1,_=>rfl)]
 go_wp2
 go_ret2
 exact ⟨rfl,below_new _ _⟩
set_option maxRecDepth 100000 in
theorem fb_24 (w:World) (hD:TZ w):Calls Tryz.prog 190 #[.slice none 0 0,.int .u64 24,.int .i64 16,.bool false,.bool false] w fun e w'=>e=.returned (.tuple #[.slice none 0 0,.string ⟨#[49,56]⟩])/\Below w.heap.size w w':=by
 have hD2:∀ o,TZ (w.alloc o):=fun o=>hD.below (below_new w o)
 have hb1:bits BinOp.and IntKind.u64 24 15=8:=by kernel_rfl
 go_enter Tryz.func190,Tryz.ntmps190
 go_wp2_with (first
  |(go_at_call 194;with_reducible refine (qD _).mono ?_;rintro e w1 ⟨rfl,rfl⟩)
  |(go_at_call 195;with_reducible refine (tzQ _ (hD2 _)).mono ?_;rintro e w1 ⟨rfl,rfl⟩))
 refine wp_loop_rounds 2 ?_
 rw [rounds_succ]
 go_wp2
 rw [rounds_succ]
 go_wp2
 rw [zT _ _ 63 2 2 [49,56] rfl (fun j hj=>by
  rw [World.cell?_alloc_new]
  match j,hj with
  | 0,_=>rfl
  | 1,_=>rfl)]
 go_wp2
 go_ret2
 exact ⟨rfl,below_new _ _⟩
set_option maxRecDepth 100000 in
theorem fb_25 (w:World) (hD:TZ w):Calls Tryz.prog 190 #[.slice none 0 0,.int .u64 25,.int .i64 16,.bool false,.bool false] w fun e w'=>e=.returned (.tuple #[.slice none 0 0,.string ⟨#[49,57]⟩])/\Below w.heap.size w w':=by
 have hD2:∀ o,TZ (w.alloc o):=fun o=>hD.below (below_new w o)
 have hb1:bits BinOp.and IntKind.u64 25 15=9:=by kernel_rfl
 go_enter Tryz.func190,Tryz.ntmps190
 go_wp2_with (first
  |(go_at_call 194;with_reducible refine (qD _).mono ?_;rintro e w1 ⟨rfl,rfl⟩)
  |(go_at_call 195;with_reducible refine (tzQ _ (hD2 _)).mono ?_;rintro e w1 ⟨rfl,rfl⟩))
 refine wp_loop_rounds 2 ?_
 rw [rounds_succ]
 go_wp2
 rw [rounds_succ]
 go_wp2
 rw [zT _ _ 63 2 2 [49,57] rfl (fun j hj=>by
  rw [World.cell?_alloc_new]
  match j,hj with
  | 0,_=>rfl
  | 1,_=>rfl)]
 go_wp2
 go_ret2
 exact ⟨rfl,below_new _ _⟩
set_option maxRecDepth 100000 in
theorem fb_26 (w:World) (hD:TZ w):Calls Tryz.prog 190 #[.slice none 0 0,.int .u64 26,.int .i64 16,.bool false,.bool false] w fun e w'=>e=.returned (.tuple #[.slice none 0 0,.string ⟨#[49,97]⟩])/\Below w.heap.size w w':=by
 have hD2:∀ o,TZ (w.alloc o):=fun o=>hD.below (below_new w o)
 have hb1:bits BinOp.and IntKind.u64 26 15=10:=by kernel_rfl
 go_enter Tryz.func190,Tryz.ntmps190
 go_wp2_with (first
  |(go_at_call 194;with_reducible refine (qD _).mono ?_;rintro e w1 ⟨rfl,rfl⟩)
  |(go_at_call 195;with_reducible refine (tzQ _ (hD2 _)).mono ?_;rintro e w1 ⟨rfl,rfl⟩))
 refine wp_loop_rounds 2 ?_
 rw [rounds_succ]
 go_wp2
 rw [rounds_succ]
 go_wp2
 rw [zT _ _ 63 2 2 [49,97] rfl (fun j hj=>by
  rw [World.cell?_alloc_new]
  match j,hj with
  | 0,_=>rfl
  | 1,_=>rfl)]
 go_wp2
 go_ret2
 exact ⟨rfl,below_new _ _⟩
set_option maxRecDepth 100000 in
theorem fb_27 (w:World) (hD:TZ w):Calls Tryz.prog 190 #[.slice none 0 0,.int .u64 27,.int .i64 16,.bool false,.bool false] w fun e w'=>e=.returned (.tuple #[.slice none 0 0,.string ⟨#[49,98]⟩])/\Below w.heap.size w w':=by
 have hD2:∀ o,TZ (w.alloc o):=fun o=>hD.below (below_new w o)
 have hb1:bits BinOp.and IntKind.u64 27 15=11:=by kernel_rfl
 go_enter Tryz.func190,Tryz.ntmps190
 go_wp2_with (first
  |(go_at_call 194;with_reducible refine (qD _).mono ?_;rintro e w1 ⟨rfl,rfl⟩)
  |(go_at_call 195;with_reducible refine (tzQ _ (hD2 _)).mono ?_;rintro e w1 ⟨rfl,rfl⟩))
 refine wp_loop_rounds 2 ?_
 rw [rounds_succ]
 go_wp2
 rw [rounds_succ]
 go_wp2
 rw [zT _ _ 63 2 2 [49,98] rfl (fun j hj=>by
  rw [World.cell?_alloc_new]
  match j,hj with
  | 0,_=>rfl
  | 1,_=>rfl)]
 go_wp2
 go_ret2
 exact ⟨rfl,below_new _ _⟩
set_option maxRecDepth 100000 in
theorem fb_28 (w:World) (hD:TZ w):Calls Tryz.prog 190 #[.slice none 0 0,.int .u64 28,.int .i64 16,.bool false,.bool false] w fun e w'=>e=.returned (.tuple #[.slice none 0 0,.string ⟨#[49,99]⟩])/\Below w.heap.size w w':=by
 have hD2:∀ o,TZ (w.alloc o):=fun o=>hD.below (below_new w o)
 have hb1:bits BinOp.and IntKind.u64 28 15=12:=by kernel_rfl
 go_enter Tryz.func190,Tryz.ntmps190
 go_wp2_with (first
  |(go_at_call 194;with_reducible refine (qD _).mono ?_;rintro e w1 ⟨rfl,rfl⟩)
  |(go_at_call 195;with_reducible refine (tzQ _ (hD2 _)).mono ?_;rintro e w1 ⟨rfl,rfl⟩))
 refine wp_loop_rounds 2 ?_
 rw [rounds_succ]
 go_wp2
 rw [rounds_succ]
 go_wp2
 rw [zT _ _ 63 2 2 [49,99] rfl (fun j hj=>by
  rw [World.cell?_alloc_new]
  match j,hj with
  | 0,_=>rfl
  | 1,_=>rfl)]
 go_wp2
 go_ret2
 exact ⟨rfl,below_new _ _⟩
set_option maxRecDepth 100000 in
theorem fb_29 (w:World) (hD:TZ w):Calls Tryz.prog 190 #[.slice none 0 0,.int .u64 29,.int .i64 16,.bool false,.bool false] w fun e w'=>e=.returned (.tuple #[.slice none 0 0,.string ⟨#[49,100]⟩])/\Below w.heap.size w w':=by
 have hD2:∀ o,TZ (w.alloc o):=fun o=>hD.below (below_new w o)
 have hb1:bits BinOp.and IntKind.u64 29 15=13:=by kernel_rfl
 go_enter Tryz.func190,Tryz.ntmps190
 go_wp2_with (first
  |(go_at_call 194;with_reducible refine (qD _).mono ?_;rintro e w1 ⟨rfl,rfl⟩)
  |(go_at_call 195;with_reducible refine (tzQ _ (hD2 _)).mono ?_;rintro e w1 ⟨rfl,rfl⟩))
 refine wp_loop_rounds 2 ?_
 rw [rounds_succ]
 go_wp2
 rw [rounds_succ]
 go_wp2
 rw [zT _ _ 63 2 2 [49,100] rfl (fun j hj=>by
  rw [World.cell?_alloc_new]
  match j,hj with
  | 0,_=>rfl
  | 1,_=>rfl)]
 go_wp2
 go_ret2
 exact ⟨rfl,below_new _ _⟩
set_option maxRecDepth 100000 in
theorem fb_30 (w:World) (hD:TZ w):Calls Tryz.prog 190 #[.slice none 0 0,.int .u64 30,.int .i64 16,.bool false,.bool false] w fun e w'=>e=.returned (.tuple #[.slice none 0 0,.string ⟨#[49,101]⟩])/\Below w.heap.size w w':=by
 have hD2:∀ o,TZ (w.alloc o):=fun o=>hD.below (below_new w o)
 have hb1:bits BinOp.and IntKind.u64 30 15=14:=by kernel_rfl
 go_enter Tryz.func190,Tryz.ntmps190
 go_wp2_with (first
  |(go_at_call 194;with_reducible refine (qD _).mono ?_;rintro e w1 ⟨rfl,rfl⟩)
  |(go_at_call 195;with_reducible refine (tzQ _ (hD2 _)).mono ?_;rintro e w1 ⟨rfl,rfl⟩))
 refine wp_loop_rounds 2 ?_
 rw [rounds_succ]
 go_wp2
 rw [rounds_succ]
 go_wp2
 rw [zT _ _ 63 2 2 [49,101] rfl (fun j hj=>by
  rw [World.cell?_alloc_new]
  match j,hj with
  | 0,_=>rfl
  | 1,_=>rfl)]
 go_wp2
 go_ret2
 exact ⟨rfl,below_new _ _⟩
set_option maxRecDepth 100000 in
theorem fb_31 (w:World) (hD:TZ w):Calls Tryz.prog 190 #[.slice none 0 0,.int .u64 31,.int .i64 16,.bool false,.bool false] w fun e w'=>e=.returned (.tuple #[.slice none 0 0,.string ⟨#[49,102]⟩])/\Below w.heap.size w w':=by
 have hD2:∀ o,TZ (w.alloc o):=fun o=>hD.below (below_new w o)
 have hb1:bits BinOp.and IntKind.u64 31 15=15:=by kernel_rfl
 go_enter Tryz.func190,Tryz.ntmps190
 go_wp2_with (first
  |(go_at_call 194;with_reducible refine (qD _).mono ?_;rintro e w1 ⟨rfl,rfl⟩)
  |(go_at_call 195;with_reducible refine (tzQ _ (hD2 _)).mono ?_;rintro e w1 ⟨rfl,rfl⟩))
 refine wp_loop_rounds 2 ?_
 rw [rounds_succ]
 go_wp2
 rw [rounds_succ]
 go_wp2
 rw [zT _ _ 63 2 2 [49,102] rfl (fun j hj=>by
  rw [World.cell?_alloc_new]
  match j,hj with
  | 0,_=>rfl
  | 1,_=>rfl)]
 go_wp2
 go_ret2
 exact ⟨rfl,below_new _ _⟩
set_option maxRecDepth 100000 in
theorem fb_127 (w:World) (hD:TZ w):Calls Tryz.prog 190 #[.slice none 0 0,.int .u64 127,.int .i64 16,.bool false,.bool false] w fun e w'=>e=.returned (.tuple #[.slice none 0 0,.string ⟨#[55,102]⟩])/\Below w.heap.size w w':=by
 have hD2:∀ o,TZ (w.alloc o):=fun o=>hD.below (below_new w o)
 have hb1:bits BinOp.and IntKind.u64 127 15=15:=by kernel_rfl
 go_enter Tryz.func190,Tryz.ntmps190
 go_wp2_with (first
  |(go_at_call 194;with_reducible refine (qD _).mono ?_;rintro e w1 ⟨rfl,rfl⟩)
  |(go_at_call 195;with_reducible refine (tzQ _ (hD2 _)).mono ?_;rintro e w1 ⟨rfl,rfl⟩))
 refine wp_loop_rounds 2 ?_
 rw [rounds_succ]
 go_wp2
 rw [rounds_succ]
 go_wp2
 rw [zT _ _ 63 2 2 [55,102] rfl (fun j hj=>by
  rw [World.cell?_alloc_new]
  match j,hj with
  | 0,_=>rfl
  | 1,_=>rfl)]
 go_wp2
 go_ret2
 exact ⟨rfl,below_new _ _⟩
theorem fbQ (c:Nat) (hc:(c<32/\c≠9/\c≠10/\c≠13)∨c=127) (w:World) (hD:TZ w):Calls Tryz.prog 190 #[.slice none 0 0,.int .u64 (c:Int),.int .i64 16,.bool false,.bool false] w fun e w'=>e=.returned (.tuple #[.slice none 0 0,.string ⟨(hexL c).toArray⟩])/\Below w.heap.size w w':=by
 have h:c=0∨c=1∨c=2∨c=3∨c=4∨c=5∨c=6∨c=7∨c=8∨c=11∨c=12∨c=14∨c=15∨c=16∨c=17∨c=18∨c=19∨c=20∨c=21∨c=22∨c=23∨c=24∨c=25∨c=26∨c=27∨c=28∨c=29∨c=30∨c=31∨c=127:=by omega
 rcases h with rfl | rfl | rfl | rfl | rfl | rfl | rfl | rfl | rfl | rfl | rfl | rfl | rfl | rfl | rfl | rfl | rfl | rfl | rfl | rfl | rfl | rfl | rfl | rfl | rfl | rfl | rfl | rfl | rfl | rfl
 ·exact fb_0 w hD
 ·exact fb_1 w hD
 ·exact fb_2 w hD
 ·exact fb_3 w hD
 ·exact fb_4 w hD
 ·exact fb_5 w hD
 ·exact fb_6 w hD
 ·exact fb_7 w hD
 ·exact fb_8 w hD
 ·exact fb_11 w hD
 ·exact fb_12 w hD
 ·exact fb_14 w hD
 ·exact fb_15 w hD
 ·exact fb_16 w hD
 ·exact fb_17 w hD
 ·exact fb_18 w hD
 ·exact fb_19 w hD
 ·exact fb_20 w hD
 ·exact fb_21 w hD
 ·exact fb_22 w hD
 ·exact fb_23 w hD
 ·exact fb_24 w hD
 ·exact fb_25 w hD
 ·exact fb_26 w hD
 ·exact fb_27 w hD
 ·exact fb_28 w hD
 ·exact fb_29 w hD
 ·exact fb_30 w hD
 ·exact fb_31 w hD
 ·exact fb_127 w hD
set_option maxRecDepth 100000 in
theorem fmtI (c:Nat) (hc:(c<32/\c≠9/\c≠10/\c≠13)∨c=127) (w:World) (hD:TZ w):Calls Tryz.prog 183 #[.int .i64 (c:Int),.int .i64 16] w fun e w'=>e=.returned (.string ⟨(hexL c).toArray⟩)/\Below w.heap.size w w':=by
 have h0:¬ (c:Int)<0:=by omega
 have h1:(c:Int)<=127:=by omega
 go_enter Tryz.func183,Tryz.ntmps183
 go_wp2_with (go_at_call 190;with_reducible refine (fbQ c hc _ hD).mono ?_;rintro e w1 ⟨rfl,b1⟩)
 go_ret
 exact ⟨rfl,b1⟩
set_option maxRecDepth 100000 in
theorem formatIntQ (c:Nat) (hc:(c<32/\c≠9/\c≠10/\c≠13)∨c=127) (w:World) (hD:TZ w):Calls Tryz.prog 178 #[.int .i64 (c:Int),.int .i64 16] w fun e w'=>e=.returned (.string ⟨(hexL c).toArray⟩)/\Below w.heap.size w w':=by
 go_enter Tryz.func178,Tryz.ntmps178
 go_wp2_with (go_at_call 183;with_reducible refine (fmtI c hc _ hD).mono ?_;rintro e w1 ⟨rfl,b1⟩)
 go_ret
 exact ⟨rfl,b1⟩
end Go.Proofs.YtmfhdcpajgjgpaaGreatDoor.Tok
