/-
  Layer 3: the reference's Put: it appends one element to a row that its caller has gathered. (Written by wip/gen/array-put.py.)
  Layer 3: the reference's Of: what it returns, and its errors ahead of the loop.
  Layer 3: what the law's own helper changed may do: it turns numbers in the blocks of an array, and nothing else.
-/
import Derived.Test.YtalkinnbfglkdaaGreatDoorPt15
import Derived.Test.YtalkinnbfglkdaaGreatDoorPt1
import Derived.Laws.IdiomStrings
import Derived.Laws.Cover4
namespace Go.Proofs.YtalkinnbfglkdaaGreatDoor.Shape
open Go.RowKit
structure Put1 (w w':World) (B:Nat) (e:TypeId) (size n:Nat) (v:Value) (qs news:List Value) (g cap:Nat):Prop where
 own:w'.ownsRow B e size (.slice (some ⟨g,0,none⟩) (n+1) cap) (n+1) (qs++news)
 far:∀ b,b<w.heap.size->v.ownBlock≠some b->w'.heap[b]?=w.heap[b]?
 big:w.heap.size<=w'.heap.size
 bel:Below B w w'
 at':v.ownBlock=some g∨w.heap.size<=g
theorem Put1.set {w w':World}{B n g cap R o:Nat}{e:TypeId}{size:Nat}{v:Value}{qs news:List Value}(h:Put1 w w' B e size n v qs news g cap) (hR:w.heap.size<=R) (hB:B<=w.heap.size) (hg:g≠R) (u:Value):Put1 w (w'.setCell ⟨R,o,none⟩ u) B e size n v qs news g cap:=by
 obtain ⟨h1,h2,h3,h4,h5⟩:=h
 have hs:(w'.setCell ⟨R,o,none⟩ u).heap.size=w'.heap.size:=by simp
 exact ⟨ownsRow_setCell_other h1 (by simp only [Value.ownBlock,ne_eq,Option.some.injEq];omega) _,fun b hb hn=>(set_other _ _ _ _ _ (by omega)).trans (h2 b hb hn),by omega,h4.setCell (by show _<=R;omega) _,h5⟩
theorem Put1.of {w w4 w':World}{B n g cap:Nat}{e:TypeId}{size:Nat}{v:Value}{qs news:List Value}(own:w.ownsRow B e size v n qs) (b4:Below w.heap.size w w4) (hB:B<=w.heap.size) (h1:w'.ownsRow B e size (.slice (some ⟨g,0,none⟩) (n+1) cap) (n+1) (qs++news)) (hg:w4.grownBy w' v.ownBlock) (hat:v.ownBlock=some g∨g=w4.heap.size):Put1 w w' B e size n v qs news g cap:=by
 have hs:=b4.size
 refine ⟨h1,fun b hb hn=>(hg.block b (by omega) (Ne.symm hn)).trans (b4.block b hb),Nat.le_trans hs hg.size,(b4.mono hB).grown hg (by omega) (fun k hk=>(own.lt k hk).1),?_⟩
 rcases hat with h | h
 ·exact Or.inl h
 ·exact Or.inr (by omega)
def GiveNewE (A:Arr) (er:Int) (w:World) (e:Ending) (w':World):Prop :=
 ∃ c0 c1 c2 c3,e=.returned (.tuple #[.agg #[c0,c1,c2,c3],.int .i64 er])/\GiveNew A w (.returned (.agg #[c0,c1,c2,c3])) w'
theorem GiveNewE.mk {A:Arr}{er:Int}{w w':World}{c0 c1 c2 c3:Value}(h:GiveNew A w (.returned (.agg #[c0,c1,c2,c3])) w'):GiveNewE A er w (.returned (.tuple #[.agg #[c0,c1,c2,c3],.int .i64 er])) w':=⟨c0,c1,c2,c3,rfl,h⟩
def Thaw (w:World) (g:Nat):Prop:=∃ (cs:Array Value) (t:{ t:TypeId // t≠5 }),w.heap[g]?=some (.cells cs t.1 (0,0))
theorem Thaw.free {w:World}{g:Nat}(h:Thaw w g) (o:Nat):w.frozen? ⟨g,o,none⟩=false:=by
 obtain ⟨cs,t,h⟩:=h
 simp [World.frozen?,h]
structure Upd (P:Nat->Prop) (B:Nat) (w w':World):Prop where
 bel:Below B w w'
 blk:∀ g,¬ P g->g<w.heap.size->w'.heap[g]?=w.heap[g]?
 cell:∀ g o v,w.cell? ⟨g,o,none⟩=some v->w'.cell? ⟨g,o,none⟩=some v∨∃ x y,v=.int .i64 x/\w'.cell? ⟨g,o,none⟩=some (.int .i64 y)/\-9223372036854775808<=y/\y<=9223372036854775807
 thaw:∀ g,Thaw w g->Thaw w' g
theorem Upd.refl {P:Nat->Prop}{B:Nat}(w:World):Upd P B w w:=⟨Below.refl _ _,fun _ _ _=>rfl,fun _ _ _ h=>Or.inl h,fun _ h=>h⟩
theorem Upd.trans {P:Nat->Prop}{B:Nat}{a b c:World}(h:Upd P B a b) (k:Upd P B b c):Upd P B a c:=by
 refine ⟨h.bel.trans k.bel,fun g hg hl=>(k.blk g hg (Nat.lt_of_lt_of_le hl h.bel.size)).trans (h.blk g hg hl),fun g o v hv=>?_,fun g hg=>k.thaw g (h.thaw g hg)⟩
 rcases h.cell g o v hv with h1 |⟨x,y,rfl,h1,h2⟩
 ·exact k.cell g o v h1
 ·rcases k.cell g o _ h1 with h3 |⟨x',y',_,h3,h4⟩
  ·exact Or.inr ⟨x,y,rfl,h3,h2⟩
  ·exact Or.inr ⟨x,y',rfl,h3,h4⟩
theorem Upd.of_below {P:Nat->Prop}{B:Nat}{w w':World}(h:Below w.heap.size w w') (hB:B<=w.heap.size):Upd P B w w' :=
 ⟨h.mono hB,fun g _ hl=>h.block g hl,fun g o v hv=>Or.inl ((h.cell (cell_lt hv)).trans hv),fun g ⟨cs,t,hg⟩=>⟨cs,t,(h.block g (by
  rcases Nat.lt_or_ge g w.heap.size with h1 | h1
  ·exact h1
  ·rw [Array.getElem?_eq_none h1] at hg;cases hg)).trans hg⟩⟩
theorem thaw_set {w:World}{g b o:Nat}{u:Value}(h:Thaw w g):Thaw (w.setCell ⟨b,o,none⟩ u) g:=by
 obtain ⟨cs,t,hg⟩:=h
 by_cases e:g=b
 ·subst e
  have hl:g<w.heap.size:=by
   rcases Nat.lt_or_ge g w.heap.size with h1 | h1
   ·exact h1
   ·rw [Array.getElem?_eq_none h1] at hg;cases hg
  have h':w.heap[g]=.cells cs t (0,0):=by simpa [Array.getElem?_eq_getElem hl] using hg
  refine ⟨cs.setIfInBounds o u,t,?_⟩
  show (w.heap.modify g _)[g]?=_
  rw [Array.getElem?_eq_getElem (by simpa using hl),Array.getElem_modify_self,h']
  rfl
 ·exact ⟨cs,t,(set_other _ _ _ _ _ e).trans hg⟩
theorem Upd.set {P:Nat->Prop}{B:Nat}{w:World}{g o:Nat}{x y:Int}(hx:w.cell? ⟨g,o,none⟩=some (.int .i64 x)) (hP:P g) (hB:B<=g) (hy:-9223372036854775808<=y/\y<=9223372036854775807):Upd P B w (w.setCell ⟨g,o,none⟩ (.int .i64 y)):=by
 refine ⟨(Below.refl _ _).setCell (p:=⟨g,o,none⟩) hB _,fun g' hg' _=>set_other _ _ _ _ _ (fun e=>hg' (e ▸ hP)),fun g' o' v hv=>?_,fun _ h=>thaw_set h⟩
 by_cases e:(⟨g',o',none⟩:Addr) =⟨g,o,none⟩
 ·rw [e] at hv ⊢
  rw [hx] at hv
  simp only [Option.some.injEq] at hv
  subst hv
  exact Or.inr ⟨x,y,rfl,World.cell?_setCell_same _ _ _ hx,hy⟩
 ·exact Or.inl ((World.cell?_setCell_other _ _ _ _ (fun h=>e h.symm)).trans hv)
end Go.Proofs.YtalkinnbfglkdaaGreatDoor.Shape
