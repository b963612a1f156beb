/-
  Layer 3: the program's copied: copies of lists, of ints and of arrays.
-/
import Derived.Test.YtalkinnbfglkdaaGreatDoorPt15
import Derived.Test.YtalkinnbfglkdaaGreatDoorPt20
import Derived.Laws.CopyOwn
import Derived.Laws.MakeOwn
import Derived.OwnWalk
namespace Go.Proofs.YtalkinnbfglkdaaGreatDoor.Shape
open Go.RowKit
set_option linter.unusedVariables false
theorem run_copy_wide {P:Program}(w:World) (dT sT ty elem:TypeId) (g o dLen dCap:Nat) (a:Addr) (sLen sCap sz:Nat) (cur:Array Value) (t:TypeId) (cs:List Value)
  (hu:P.underlying dT=some (.slice elem)) (hs:(P.info? elem).map (·.size)=some sz)
  (hg:w.heap[g]?=some (.cells cur t (0,0))) (hn:cs.length=Nat.min sLen dLen*sz)
  (hsrc:∀ j v,cs[j]?=some v->w.cell? (a.add j)=some v) (hfit:o+cs.length<=cur.size) (h1:∀ v∈cs,v.oneCell'=true) :
  (Builtin.copy_ #[dT,sT] ty #[.slice (some ⟨g,o,none⟩) dLen dCap,.slice (some a) sLen sCap]).run P w =
   .ok (goInt (Nat.min sLen dLen)) (w.setRow g (cur.toList.take o++(cs++cur.toList.drop (o+cs.length))).toArray):=by
 have hl:=run_loadCells_list (P:=P) w a cs hsrc
 have hst:=run_storeCells_at P g o t cs 0 cur w hg (by simpa using hfit) h1
 cases hq:P.info? elem with
 | none=>simp [hq] at hs
 | some i =>
  have hi:i.size=sz:=by simpa [hq] using hs
  rw [hn] at hl hst
  simp [Builtin.copy_,run_underlying hu,Builtin.lenOf,Builtin.firstCells,sizeOf,typeInfo,hq,hi,hl,hst,hn]
def Own (w w':World) (g:Nat):Prop:=w.heap.size<=g/\Thaw w' g
theorem lt_of_heap {w:World}{g:Nat}{o:Obj}(h:w.heap[g]?=some o):g<w.heap.size:=by
 rcases Nat.lt_or_ge g w.heap.size with h1 | h1
 ·exact h1
 ·rw [Array.getElem?_eq_none h1] at h;cases h
theorem Thaw.lt {w:World}{g:Nat}(h:Thaw w g):g<w.heap.size:=by
 obtain ⟨cs,t,h⟩:=h
 exact lt_of_heap h
theorem Thaw.below {w w':World}{g:Nat}(h:Thaw w g) (hb:Below w.heap.size w w'):Thaw w' g:=by
 have hl:=h.lt
 obtain ⟨cs,t,h⟩:=h
 exact ⟨cs,t,(hb.block g hl).trans h⟩
def GiveInts (xs:List Int) (w:World) (e:Ending) (w':World):Prop:=∃ a c,e=.returned (.slice a xs.length c)/\IntsOn (Own w w') w' a c xs/\Below w.heap.size w w'
theorem GiveInts.nil {w:World}{e:Ending}(he:e=.returned (.slice none 0 0)):GiveInts [] w e w:=⟨none,0,he,⟨⟨Nat.zero_le _,by decide,fun x hx=>absurd hx (by simp),0,0,fun hn=>absurd rfl hn,fun i hi=>absurd hi (by simp)⟩,fun g=>absurd rfl g⟩,Below.refl _ _⟩
theorem GiveInts.row {xs:List Int}{w w':World}{e:Ending}{t:TypeId}{n c:Nat}(hn:n=xs.length) (hc:n<=c) (hc2:c<=9223372036854775807) (he:e=.returned (.slice (some ⟨w.heap.size,0,none⟩) n c)) (hg:w'.heap[w.heap.size]?=some (.cells (xs.map (Value.int .i64)).toArray t (0,0))) (hbd:∀ x∈xs,-9223372036854775808<=x/\x<=9223372036854775807) (hb:Below w.heap.size w w') (ht:t≠5:=by decide):GiveInts xs w e w':=by
 subst hn
 refine ⟨_,c,he,⟨⟨hc,hc2,hbd,w.heap.size,0,fun _=>rfl,fun i hi=>?_⟩,fun _ ad e=>by cases e;exact ⟨Nat.le_refl _,_,⟨t,ht⟩,hg⟩⟩,hb⟩
 simp [World.cell?,hg,hi]
end Go.Proofs.YtalkinnbfglkdaaGreatDoor.Shape
