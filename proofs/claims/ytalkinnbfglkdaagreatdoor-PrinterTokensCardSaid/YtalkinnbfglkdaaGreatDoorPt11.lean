/-
  Layer 5: bytes in lists, as layer 2's Show has them (the same lemmas, without the reference of layer 2, whose names meet those of layer 3).
  Layer 5: bytes gathered in a list of one's own.
  Layer 5: the reference's hex and char.
  Layer 5: the reference's quoted and dims.
  Layer 5: the reference's elements.
-/
import Derived.Test.YtalkinnbfglkdaaGreatDoorPt1
import Derived.OwnWalk
import Derived.Below
import Derived.Handy
import Derived.Laws.IdiomStrings
import Derived.Lib.AppendStr
import Derived.Deep.RegionHeld3
import Derived.Test.YtalkinnbfglkdaaGreatDoorPt6
import Derived.Test.YtalkinnbfglkdaaGreatDoorPt5
namespace Go.Proofs.YtalkinnbfglkdaaGreatDoor.Shape
open Go.RowKit Go.Proofs.YtalkinnbfglkdaaGreatDoor.Num
set_option linter.unusedVariables false
set_option maxRecDepth 100000
def bc (L:List UInt8):List Value:=L.map (fun b=>Value.int .u8 (b.toNat:Int))
def OB (w:World) (B:Nat) (v:Value) (L:List UInt8):Prop:=w.ownsRow B 5 1 v L.length (bc L)
theorem OB.lit (w:World) (cs:Array Value) (L:List UInt8) (hc:cs =(bc L).toArray) (hl:L.length<=1000):OB (w.alloc (.cells cs 5)) w.heap.size (.slice (some ⟨w.heap.size,0,none⟩) L.length L.length) L:=by
 subst hc
 have h:=World.ownsRow_lit (base:=w.heap.size) (e:=5) (size:=1) w (bc L).toArray L.length (Nat.le_refl _) (by unfold maxLen;omega) (by simp [bc])
 exact h
theorem OB.below {w w':World}{B:Nat}{v:Value}{L:List UInt8}(h:OB w B v L) (hb:Below w.heap.size w w'):OB w' B v L:=by
 refine ⟨h.1,?_⟩
 rcases h.2 with h |⟨g,cap,cur,hv,hg,hh,r⟩
 ·exact Or.inl h
 ·exact Or.inr ⟨g,cap,cur,hv,hg,(hb.block g (Array.getElem?_eq_some_iff.1 hh).1).trans hh,r⟩
end Go.Proofs.YtalkinnbfglkdaaGreatDoor.Shape
namespace Go.Proofs.YtalkinnbfglkdaaGreatDoor.Shape
open Go.RowKit Go.Proofs.YtalkinnbfglkdaaGreatDoor.Num
set_option linter.unusedVariables false
def chB (c q:Int):ByteArray:=⟨(chS c q).toArray⟩
theorem flat_len (f:Int->List UInt8) (m:Nat):∀ (l:List Int),(∀ x∈l,(f x).length<=m)->((l.map f).flatten).length<=m*l.length
 | [],_=>by simp
 | x::r,h=>by
  have h1:=h x (by simp)
  have h2:=flat_len f m r (fun y hy=>h y (by simp [hy]))
  simp only [List.map_cons,List.flatten_cons,List.length_append,List.length_cons]
  rw [Nat.mul_succ];omega
theorem shL_len {x:Int}(h1:-9223372036854775808<=x) (h2:x<=9223372036854775807):(shL x).length<=20:=by
 have:=Num.shS_size x h1 h2
 unfold Num.shS at this
 simpa [ByteArray.size] using this
def bx (A:Arr):List UInt8:=40::((98::111::120::32::litS A)++[41])
def litB (A:Arr):ByteArray:=⟨(litS A).toArray⟩
end Go.Proofs.YtalkinnbfglkdaaGreatDoor.Shape
