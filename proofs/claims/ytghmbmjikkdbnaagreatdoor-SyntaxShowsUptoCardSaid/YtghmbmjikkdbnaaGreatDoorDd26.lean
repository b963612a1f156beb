/-
  Layer 10: the law's helpers one, prim, train.
  Layer 10: the law's examples, reckoned.
  Layer 10: the law's knows.
  Layer 10: the law's knows.
-/
import Derived.Test.YtghmbmjikkdbnaaGreatDoorDd25
import Derived.Handy
import Derived.Test.YtghmbmjikkdbnaaGreatDoorDd2
import Derived.Test.YtghmbmjikkdbnaaGreatDoorDd19
namespace Go.Proofs.YtghmbmjikkdbnaaGreatDoor.Syn
open Go.RowKit Go.Shelf Go.Maps Go.Proofs.YtghmbmjikkdbnaaGreatDoor.Shape
set_option linter.unusedVariables false
set_option linter.unusedSimpArgs false
set_option maxRecDepth 100000
theorem i64z : I64 0 := ⟨by decide, by decide⟩
theorem noKids (w : World) : ∃ b off : Nat, (([] : List Nd) ≠ [] → (none : Option Addr) = some ⟨b, off, none⟩) ∧ NdsAt w b off [] := ⟨0, 0, fun h => absurd rfl h, by rw [NdsAt]; trivial⟩
theorem noBody (w : World) : ∃ b off : Nat, (([] : List St) ≠ [] → (none : Option Addr) = some ⟨b, off, none⟩) ∧ StsAt w b off [] := ⟨0, 0, fun h => absurd rfl h, by rw [StsAt]; trivial⟩
def oneA : Arr := .mk 1 [] [1] []
def oneN : Nd := .mk 1 0 1 ⟨#[]⟩ 0 0 oneA [] [] 0 0 0
def oneV (b : Nat) : List Value := [.int .i64 1, .int .i64 0, .int .i64 1, .string ⟨#[]⟩, .int .i64 0, .int .i64 0, .int .i64 1, .slice none 0 0, .slice (some ⟨b, 0, none⟩) 1 1, .slice none 0 0, .slice none 0 0, .slice none 0 0, .int .i64 0, .int .i64 0, .int .i64 0]
theorem one_at (b : Nat) (w : World) (h : w.cell? ⟨b, 0, none⟩ = some (.int .i64 1)) : NdV w (oneV b) oneN := by
  unfold oneN
  rw [NdV]
  have o : I64 1 := ⟨by decide, by decide⟩
  refine ⟨_, _, _, _, none, 0, none, 0, rfl, ⟨o, i64z, o, i64z, i64z, i64z, i64z, i64z⟩, by decide, ?_, ⟨Nat.zero_le _, by decide⟩, ⟨Nat.zero_le _, by decide⟩, noKids w, noBody w⟩
  unfold oneA
  rw [ArrAt]
  have hi : IntsAt w none 0 [] := ⟨Nat.zero_le _, by decide, fun x hx => absurd hx (by simp), 0, 0, fun h => absurd rfl h, fun i hi => absurd hi (by simp)⟩
  have h1 : IntsAt w (some ⟨b, 0, none⟩) 1 [1] := ⟨Nat.le_refl _, by decide, fun x hx => by simp at hx; subst hx; exact ⟨by decide, by decide⟩, b, 0, fun _ => rfl, fun i hi => by
    obtain rfl : i = 0 := by simpa using hi
    exact h⟩
  exact ⟨none, 0, some ⟨b, 0, none⟩, 1, none, 0, rfl, ⟨by decide, by decide⟩, hi, h1, by simp, by decide, 0, 0, fun h => absurd rfl h, by rw [ArrsAt]; trivial⟩
def leafV (k c p o : Int) : List Value := [.int .i64 k, .int .i64 0, .int .i64 c, .string ⟨#[]⟩, .int .i64 p, .int .i64 o, .int .i64 0, .slice none 0 0, .slice none 0 0, .slice none 0 0, .slice none 0 0, .slice none 0 0, .int .i64 0, .int .i64 0, .int .i64 0]
def leafN (k c p o : Int) : Nd := .mk k 0 c ⟨#[]⟩ p o zA [] [] 0 0 0
theorem leaf_at (k c p o : Int) (hk : I64 k ∧ I64 c ∧ I64 p ∧ I64 o) (w : World) : NdV w (leafV k c p o) (leafN k c p o) := by
  unfold leafN
  rw [NdV]
  exact ⟨_, _, _, _, none, 0, none, 0, rfl, ⟨hk.1, i64z, hk.2.1, hk.2.2.1, hk.2.2.2, i64z, i64z, i64z⟩, by decide, zA_at w, ⟨Nat.zero_le _, by decide⟩, ⟨Nat.zero_le _, by decide⟩, noKids w, noBody w⟩
def innV (k c : Int) (b n : Nat) : List Value := [.int .i64 k, .int .i64 0, .int .i64 c, .string ⟨#[]⟩, .int .i64 0, .int .i64 0, .int .i64 0, .slice none 0 0, .slice none 0 0, .slice none 0 0, .slice (some ⟨b, 0, none⟩) n n, .slice none 0 0, .int .i64 0, .int .i64 0, .int .i64 0]
def innN (k c : Int) (l : List Nd) : Nd := .mk k 0 c ⟨#[]⟩ 0 0 zA l [] 0 0 0
theorem inn_at (k c : Int) (hk : I64 k ∧ I64 c) (b : Nat) (l : List Nd) (w : World) (hl : l.length ≤ 1000) (h : NdsAt w b 0 l) : NdV w (innV k c b l.length) (innN k c l) := by
  unfold innN
  rw [NdV]
  exact ⟨_, _, _, _, some ⟨b, 0, none⟩, l.length, none, 0, rfl, ⟨hk.1, i64z, hk.2, i64z, i64z, i64z, i64z, i64z⟩, by decide, zA_at w, ⟨Nat.le_refl _, by omega⟩, ⟨Nat.zero_le _, by decide⟩, ⟨b, 0, fun _ => rfl, h⟩, noBody w⟩
theorem nds_two {w : World} {c1 c2 : List Value} {A B : Nd} (h1 : NdV w c1 A) (h2 : NdV w c2 B) (T : TypeId) : NdsAt (w.alloc (.cells (c1 ++ c2).toArray T)) w.heap.size 0 [A, B] := by
  have hb := below_new w (.cells (c1 ++ c2).toArray T)
  have hc := cells_app (cells_new w (c1 ++ c2) T)
  rw [h1.len] at hc
  rw [NdsAt, NdsAt, NdsAt]
  exact ⟨⟨c1, hc.1, h1.below hb⟩, by simp, ⟨c2, by simpa using hc.2, h2.below hb⟩, by simp, trivial⟩
set_option maxHeartbeats 4000000 in
theorem primP (p : Int) (w : World) : Calls Tryz.prog 23 #[.int .i64 p] w fun e w' => e = .returned (.agg (leafV 9 2 p 0).toArray) ∧ w' = w.alloc (.cells (leafV 9 2 p 0).toArray 34) := by
  unfold leafV
  go_enter Tryz.func23, Tryz.ntmps23
  go_wp2_with fail
  go_returns
  exact ⟨rfl, rfl⟩
set_option maxHeartbeats 4000000 in
theorem oneP (w : World) : Calls Tryz.prog 22 #[] w fun e w' => e = .returned (.agg (oneV (w.heap.size + 1)).toArray) ∧ w' = (w.alloc (.cells (oneV (w.heap.size + 1)).toArray 34)).alloc (.cells #[.int .i64 1] 3) := by
  unfold oneV
  go_enter Tryz.func22, Tryz.ntmps22
  go_wp2_with fail
  go_returns
  exact ⟨rfl, rfl⟩
theorem one_new (w : World) (o : Obj) : NdV ((w.alloc o).alloc (.cells #[.int .i64 1] 3)) (oneV (w.heap.size + 1)) oneN := by
  refine one_at _ _ ?_
  have := World.cell?_alloc_new (w.alloc o) #[.int .i64 1] 3 0
  simp at this ⊢
def sumN : Nd := innN 14 2 [leafN 17 3 0 1, leafN 9 2 1 0]
def trainN : Nd := innN 16 2 [sumN, leafN 9 2 4 0, leafN 9 2 20 0]
theorem i64c (x : Int) (h : 0 ≤ x ∧ x ≤ 1000) : I64 x := ⟨by omega, by omega⟩
theorem frozen_off (W : World) (cs : Array Value) (T : TypeId) (o : Nat) : (W.alloc (.cells cs T)).frozen? ⟨W.heap.size, o, none⟩ = false := by simp
def TrainAt (W : World) (b2 b6 : Nat) : Prop := (Cells W b2 0 (leafV 17 3 0 1 ++ leafV 9 2 1 0) ∧ ∀ o, W.frozen? ⟨b2, o, none⟩ = false) ∧ (Cells W b6 0 (innV 14 2 b2 2 ++ (leafV 9 2 4 0 ++ leafV 9 2 20 0)) ∧ ∀ o, W.frozen? ⟨b6, o, none⟩ = false)
theorem kept_cell {w w' : World} {b : Nat} (h : w'.heap[b]? = w.heap[b]?) (o : Nat) : w'.cell? ⟨b, o, none⟩ = w.cell? ⟨b, o, none⟩ := World.cell?_of_block h
theorem kept_frozen {w w' : World} {b : Nat} (h : w'.heap[b]? = w.heap[b]?) (o : Nat) : w'.frozen? ⟨b, o, none⟩ = w.frozen? ⟨b, o, none⟩ := by simp only [World.frozen?, h]
theorem TrainAt.kept {w w' : World} {b2 b6 : Nat} (h : TrainAt w b2 b6) (h2 : w'.heap[b2]? = w.heap[b2]?) (h6 : w'.heap[b6]? = w.heap[b6]?) : TrainAt w' b2 b6 :=
  ⟨⟨fun i hi => (kept_cell h2 _).trans (h.1.1 i hi), fun o => (kept_frozen h2 o).trans (h.1.2 o)⟩, ⟨fun i hi => (kept_cell h6 _).trans (h.2.1 i hi), fun o => (kept_frozen h6 o).trans (h.2.2 o)⟩⟩
theorem two_at {W : World} {b : Nat} {c1 c2 : List Value} {A B : Nd} (hc : Cells W b 0 (c1 ++ c2)) (hf : ∀ o, W.frozen? ⟨b, o, none⟩ = false) (h1 : NdV W c1 A) (h2 : NdV W c2 B) : NdsAt W b 0 [A, B] := by
  have hc := cells_app hc
  rw [h1.len] at hc
  rw [NdsAt, NdsAt, NdsAt]
  exact ⟨⟨c1, hc.1, h1⟩, hf _, ⟨c2, hc.2, h2⟩, hf _, trivial⟩
theorem three_at {W : World} {b : Nat} {c1 c2 c3 : List Value} {A B C : Nd} (hc : Cells W b 0 (c1 ++ (c2 ++ c3))) (hf : ∀ o, W.frozen? ⟨b, o, none⟩ = false) (h1 : NdV W c1 A) (h2 : NdV W c2 B) (h3 : NdV W c3 C) : NdsAt W b 0 [A, B, C] := by
  have hc := cells_app hc
  rw [h1.len] at hc
  have hd := cells_app hc.2
  rw [h2.len] at hd
  rw [NdsAt, NdsAt, NdsAt, NdsAt]
  exact ⟨⟨c1, hc.1, h1⟩, hf _, ⟨c2, hd.1, h2⟩, hf _, ⟨c3, hd.2, h3⟩, hf _, trivial⟩
theorem TrainAt.ndv {W : World} {b2 b6 : Nat} (h : TrainAt W b2 b6) : NdV W (innV 16 2 b6 3) trainN := by
  have l1 := leaf_at 17 3 0 1 ⟨i64c _ (by decide), i64c _ (by decide), i64c _ (by decide), i64c _ (by decide)⟩ W
  have l2 := leaf_at 9 2 1 0 ⟨i64c _ (by decide), i64c _ (by decide), i64c _ (by decide), i64c _ (by decide)⟩ W
  have l3 := leaf_at 9 2 4 0 ⟨i64c _ (by decide), i64c _ (by decide), i64c _ (by decide), i64c _ (by decide)⟩ W
  have l4 := leaf_at 9 2 20 0 ⟨i64c _ (by decide), i64c _ (by decide), i64c _ (by decide), i64c _ (by decide)⟩ W
  have s1 := inn_at 14 2 ⟨i64c _ (by decide), i64c _ (by decide)⟩ b2 [leafN 17 3 0 1, leafN 9 2 1 0] _ (by decide) (two_at h.1.1 h.1.2 l1 l2)
  exact inn_at 16 2 ⟨i64c _ (by decide), i64c _ (by decide)⟩ b6 [innN 14 2 [leafN 17 3 0 1, leafN 9 2 1 0], leafN 9 2 4 0, leafN 9 2 20 0] _ (by decide) (three_at h.2.1 h.2.2 s1 l3 l4)
theorem train_blk (w : World) (T0 P1 T1 P4 P20 : Obj) (T : TypeId) : TrainAt (((((((w.alloc T0).alloc P1).alloc (.cells (leafV 17 3 0 1 ++ leafV 9 2 1 0).toArray T)).alloc T1).alloc P4).alloc P20).alloc (.cells (innV 14 2 (w.heap.size + 1 + 1) 2 ++ (leafV 9 2 4 0 ++ leafV 9 2 20 0)).toArray T)) (w.heap.size + 1 + 1) (w.heap.size + 1 + 1 + 1 + 1 + 1 + 1) := by
  have hs2 : ((w.alloc T0).alloc P1).heap.size = w.heap.size + 1 + 1 := by simp
  have hs6 : ((((((w.alloc T0).alloc P1).alloc (.cells (leafV 17 3 0 1 ++ leafV 9 2 1 0).toArray T)).alloc T1).alloc P4).alloc P20).heap.size = w.heap.size + 1 + 1 + 1 + 1 + 1 + 1 := by simp
  have c2 := cells_new ((w.alloc T0).alloc P1) (leafV 17 3 0 1 ++ leafV 9 2 1 0) T
  have f2 : ∀ o, (((w.alloc T0).alloc P1).alloc (.cells (leafV 17 3 0 1 ++ leafV 9 2 1 0).toArray T)).frozen? ⟨((w.alloc T0).alloc P1).heap.size, o, none⟩ = false := fun o => frozen_off _ _ _ o
  rw [hs2] at c2 f2
  have B := Below.then (Below.then (Below.then (below_new (((w.alloc T0).alloc P1).alloc (.cells (leafV 17 3 0 1 ++ leafV 9 2 1 0).toArray T)) T1) (below_new _ P4)) (below_new _ P20)) (below_new _ (.cells (innV 14 2 (w.heap.size + 1 + 1) 2 ++ (leafV 9 2 4 0 ++ leafV 9 2 20 0)).toArray T))
  have c6 := cells_new ((((((w.alloc T0).alloc P1).alloc (.cells (leafV 17 3 0 1 ++ leafV 9 2 1 0).toArray T)).alloc T1).alloc P4).alloc P20) (innV 14 2 (w.heap.size + 1 + 1) 2 ++ (leafV 9 2 4 0 ++ leafV 9 2 20 0)) T
  have f6 : ∀ o, (((((((w.alloc T0).alloc P1).alloc (.cells (leafV 17 3 0 1 ++ leafV 9 2 1 0).toArray T)).alloc T1).alloc P4).alloc P20).alloc (.cells (innV 14 2 (w.heap.size + 1 + 1) 2 ++ (leafV 9 2 4 0 ++ leafV 9 2 20 0)).toArray T)).frozen? ⟨((((((w.alloc T0).alloc P1).alloc (.cells (leafV 17 3 0 1 ++ leafV 9 2 1 0).toArray T)).alloc T1).alloc P4).alloc P20).heap.size, o, none⟩ = false := fun o => frozen_off _ _ _ o
  rw [hs6] at c6 f6
  exact ⟨⟨c2.below B, fun o => (B.frozen (p := ⟨w.heap.size + 1 + 1, o, none⟩) (by simp)).trans (f2 o)⟩, ⟨c6, f6⟩⟩
theorem seven (w : World) (a b c d e f g : Obj) : Below w.heap.size w ((((((((w.alloc a).alloc b).alloc c).alloc d).alloc e).alloc f).alloc g).drew) :=
  (Below.then (Below.then (Below.then (Below.then (Below.then (Below.then (below_new w a) (below_new _ b)) (below_new _ c)) (below_new _ d)) (below_new _ e)) (below_new _ f)) (below_new _ g)).drew
set_option maxHeartbeats 4000000 in
theorem trainP (w : World) : Calls Tryz.prog 33 #[] w fun e w' => e = .returned (.agg (innV 16 2 (w.heap.size + 1 + 1 + 1 + 1 + 1 + 1) 3).toArray) ∧ TrainAt w' (w.heap.size + 1 + 1) (w.heap.size + 1 + 1 + 1 + 1 + 1 + 1) ∧ Below w.heap.size w w' := by
  have K := fun (P : Int) (w : World) => primP P w
  unfold leafV at K
  go_enter Tryz.func33, Tryz.ntmps33
  go_wp2_with (go_at_call 23; ((with_reducible refine (K _ _).mono ?_); rintro e w3 ⟨rfl, rfl⟩))
  go_region_with (go_at_call 23; ((with_reducible refine (K _ _).mono ?_); rintro e w3 ⟨rfl, rfl⟩))
  all_goals go_wp2
  all_goals go_returns
  all_goals exact ⟨rfl, (train_blk w _ _ _ _ _ _).kept rfl rfl, seven w _ _ _ _ _ _ _⟩
end Go.Proofs.YtghmbmjikkdbnaaGreatDoor.Syn

namespace Go.Proofs.YtghmbmjikkdbnaaGreatDoor.Syn
open Go.RowKit Go.Shelf Go.Maps Go.Proofs.YtghmbmjikkdbnaaGreatDoor.Shape
set_option linter.unusedVariables false
set_option linter.unusedSimpArgs false
set_option maxRecDepth 100000
def pairN : Nd := innN 3 1 [oneN, oneN]
def exN : Nd := innN 4 1 [trainN, pairN]
def yN : Nd := leafN 7 1 0 0
def yB : List St := [.mk 1 0 ⟨#[]⟩ 0 zN yN]
def idN : Nd := .mk 10 0 2 ⟨#[]⟩ 0 0 zA [] yB 0 0 0
def idB : List St := [.mk 2 0 ⟨#[105, 100]⟩ 0 zN idN]
theorem ev_siz : siz exN = 10 := by simp [exN, trainN, pairN, sumN, innN, oneN, leafN, siz, sizK, sizB]
theorem ev_dep : dep exN = 4 := by simp [exN, trainN, pairN, sumN, innN, oneN, leafN, dep, depK, depB]
theorem noText0 : noText ⟨#[]⟩ = true := by rw [← text_nil, ba_yes rfl]
theorem right_one : rightE (.mk 1 [] [1] []) = 0 := by decide
theorem ev_ok : okN exN = true := by
  simp [exN, trainN, pairN, sumN, innN, leafN, oneN, oneA, okN, okK, nonNeg, leafB, innerB, emptyB, noText0, eqA_zA, right_one, litB, clsB, sameB, allC, headTakes, opCls, Nd.t, Nd.k, Nd.c, Nd.v, Nd.p, Nd.o, Nd.ks, Nd.bd, Nd.a, Nd.d, Nd.s, Nd.z, St.k, St.a, St.n, St.s, St.te, St.nd, Arr.shape, Arr.kind]
theorem ev_out : outB [.mk 0 0 ⟨#[]⟩ 0 zN exN] = true := by
  simp [outB, menB, menN, menK, zN, exN, trainN, pairN, sumN, innN, leafN, oneN, Nd.t, Nd.k, Nd.c, Nd.v, Nd.p, Nd.o, Nd.ks, Nd.bd, Nd.a, Nd.d, Nd.s, Nd.z, St.k, St.a, St.n, St.s, St.te, St.nd, Arr.shape, Arr.kind]
theorem ev_right : rightNodeE exN = 0 := by
  unfold rightNodeE
  rw [ev_dep, ev_siz, ev_ok, ev_out]; simp
theorem ev_rightz : rightNodeE zN = 11 := by
  have h1 : dep zN = 1 := by simp [zN, dep, depK, depB]
  have h2 : siz zN = 1 := by simp [zN, siz, sizK, sizB]
  have h3 : okN zN = false := by simp [zN, okN, leafB, innerB, Nd.t, Nd.k, Nd.c, Nd.v, Nd.p, Nd.o, Nd.ks, Nd.bd]
  unfold rightNodeE
  rw [h1, h2, h3]; simp
theorem name_id : nameB ⟨#[105, 100]⟩ = true := by decide
theorem ev_oky : okN yN = true := by
  simp [yN, leafN, okN, nonNeg, leafB, innerB, emptyB, noText0, eqA_zA, Nd.t, Nd.k, Nd.c, Nd.v, Nd.p, Nd.o, Nd.ks, Nd.bd, Nd.a, Nd.d, Nd.s, Nd.z, St.k, St.a, St.n, St.s, St.te, St.nd, Arr.shape, Arr.kind]
theorem ev_yB : okB yB = true := by
  simp [okB, yB, okL, okS, ev_oky, nodup, dupAt, zero_zN, noText0, List.range_succ]
  simp [yN, leafN, Nd.t, Nd.k, Nd.c, Nd.v, Nd.p, Nd.o, Nd.ks, Nd.bd, Nd.a, Nd.d, Nd.s, Nd.z, St.k, St.a, St.n, St.s, St.te, St.nd, Arr.shape, Arr.kind]
theorem ev_okid : okN idN = true := by
  have h := ev_yB
  unfold okB at h
  unfold idN
  rw [okN]
  simp only [h]
  simp [nonNeg, emptyB, noText0, eqA_zA, lastK, yB, lamCls, menB, menN, menK, yN, leafN, zN, Nd.t, Nd.k, Nd.c, Nd.v, Nd.p, Nd.o, Nd.ks, Nd.bd, Nd.a, Nd.d, Nd.s, Nd.z, St.k, St.a, St.n, St.s, St.te, St.nd, Arr.shape, Arr.kind]
theorem ev_idB : okB idB = true := by
  simp [okB, idB, okL, okS, ev_okid, nodup, dupAt, zero_zN, name_id, List.range_succ]
  simp [idN, Nd.t, Nd.k, Nd.c, Nd.v, Nd.p, Nd.o, Nd.ks, Nd.bd, Nd.a, Nd.d, Nd.s, Nd.z, St.k, St.a, St.n, St.s, St.te, St.nd, Arr.shape, Arr.kind]
theorem ev_rid : rightBE idB = 0 := by
  have h1 : depB idB = 2 := by simp [idB, idN, yB, yN, leafN, depB, depS, dep, depK, zN]
  have h2 : sizB idB = 2 := by simp [idB, idN, yB, yN, leafN, sizB, sizS, siz, sizK, zN]
  have h3 : outB idB = true := by simp [idB, outB, menB, menN, menK, idN, zN, Nd.t, Nd.k, Nd.c, Nd.v, Nd.p, Nd.o, Nd.ks, Nd.bd, Nd.a, Nd.d, Nd.s, Nd.z, St.k, St.a, St.n, St.s, St.te, St.nd, Arr.shape, Arr.kind]
  unfold rightBE
  rw [h1, h2, ev_idB, h3]; simp [idB]
theorem ev_ryb : rightBE yB = 11 := by
  have h1 : depB yB = 1 := by simp [yB, yN, leafN, depB, depS, dep, depK, zN]
  have h2 : sizB yB = 1 := by simp [yB, yN, leafN, sizB, sizS, siz, sizK, zN]
  have h3 : outB yB = false := by simp [yB, outB, menB, menN, menK, yN, leafN, zN, Nd.t, Nd.k, Nd.c, Nd.v, Nd.p, Nd.o, Nd.ks, Nd.bd, Nd.a, Nd.d, Nd.s, Nd.z, St.k, St.a, St.n, St.s, St.te, St.nd, Arr.shape, Arr.kind]
  unfold rightBE
  rw [h1, h2, h3]; simp [yB]
theorem ev_show (lt : Arr → ByteArray) (h : lt oneA = ⟨#[49]⟩) : showT lt exN = ⟨#[40, 32, 43, 32, 47, 32, 37, 32, 116, 97, 108, 108, 121, 32, 41, 32, 49, 32, 49]⟩ := by
  have e : shN lt exN = [⟨#[40]⟩, ⟨#[43]⟩, ⟨#[47]⟩, ⟨#[37]⟩, ⟨#[116, 97, 108, 108, 121]⟩, ⟨#[41]⟩, ⟨#[49]⟩, ⟨#[49]⟩] := by
    simp [exN, trainN, pairN, sumN, innN, leafN, oneN, shN, shK, kidW, par, hasB, wdB, h, primT, opT, Nd.t, Nd.k, Nd.c, Nd.v, Nd.p, Nd.o, Nd.ks, Nd.bd, Nd.a, Nd.d, Nd.s, Nd.z, St.k, St.a, St.n, St.s, St.te, St.nd, Arr.shape, Arr.kind]
  unfold showT
  rw [if_pos ⟨by rw [ev_dep]; decide, by rw [ev_siz]; decide, ev_ok⟩, e]
  decide
theorem ev_showid (lt : Arr → ByteArray) : showT lt idN = ⟨#[123, 32, 89, 32, 125]⟩ := by
  have h1 : dep idN = 2 := by simp [idN, yB, yN, leafN, depB, depS, dep, depK, zN]
  have h2 : siz idN = 2 := by simp [idN, yB, yN, leafN, sizB, sizS, siz, sizK, zN]
  have e : shN lt idN = [⟨#[123]⟩, ⟨#[89]⟩, ⟨#[125]⟩] := by
    simp [idN, yB, yN, leafN, shN, shB, shC, shS, wdB, Nd.t, Nd.k, Nd.c, Nd.v, Nd.p, Nd.o, Nd.ks, Nd.bd, Nd.a, Nd.d, Nd.s, Nd.z, St.k, St.a, St.n, St.s, St.te, St.nd, Arr.shape, Arr.kind]
  unfold showT
  rw [if_pos ⟨by rw [h1]; decide, by rw [h2]; decide, ev_okid⟩, e]
  decide
mutual
theorem eqA_same : ∀ A, eqA A A = true
  | .mk k sh nu it => by simp [eqA, eqL_same it, sameB]
theorem eqL_same : ∀ l, eqL l l = true
  | [] => by rw [eqL]
  | A :: r => by rw [eqL, eqA_same A, eqL_same r]; rfl
end
mutual
theorem eqN_refl : ∀ N, eqN N N = true
  | .mk k a c t p o v ks bd d s z => by rw [eqN, ba_yes rfl, eqA_same v, eqK_refl ks, eqB_refl bd]; simp
theorem eqK_refl : ∀ l, eqK l l = true
  | [] => by rw [eqK]
  | N :: r => by rw [eqK, eqN_refl N, eqK_refl r]; rfl
theorem eqS_refl : ∀ S, eqS S S = true
  | .mk k a n s te nd => by rw [eqS, ba_yes rfl, eqN_refl te, eqN_refl nd]; simp
theorem eqB_refl : ∀ l, eqB l l = true
  | [] => by rw [eqB]
  | S :: r => by rw [eqB, eqS_refl S, eqB_refl r]; rfl
end
end Go.Proofs.YtghmbmjikkdbnaaGreatDoor.Syn

namespace Go.Proofs.YtghmbmjikkdbnaaGreatDoor.Syn
open Go.RowKit Go.Shelf Go.Maps Go.Proofs.YtghmbmjikkdbnaaGreatDoor.Shape
set_option linter.unusedVariables false
set_option linter.unusedSimpArgs false
set_option maxRecDepth 100000
set_option maxHeartbeats 4000000 in
theorem classP (cs : List Value) (N : Nd) (w : World) (h : NdV w cs N) : Calls Tryz.prog 13 #[.agg cs.toArray] w fun e w' => e = .returned (.int .i64 N.c) ∧ Below w.heap.size w w' := by
  have hC0 := cells_new w cs 34
  have BN := below_new w (.cells cs.toArray 34)
  obtain ⟨v0, v1, v2, v3, ka, kc, ba, bc, kb, ko, bb, bo, O⟩ := h.open
  have hF0 := O.nf hC0
  obtain ⟨-, -, p2, -⟩ := id hF0
  clear O h hC0
  go_enter Tryz.func13, Tryz.ntmps13
  go_wp2_with fail
  go_ret
  exact ⟨rfl, BN⟩
def PairAt (w : World) (B b : Nat) : Prop := Cells w B 0 (innV 3 1 b 2) ∧ NdV w (innV 3 1 b 2) pairN
theorem PairAt.below {w w' : World} {B b : Nat} (h : PairAt w B b) (hb : Below w.heap.size w w') : PairAt w' B b := ⟨h.1.below hb, h.2.below hb⟩
theorem pair_at (w : World) (o1 o2 : Obj) (T : TypeId) : PairAt ((((((w.alloc o1).alloc (.cells #[.int .i64 1] 3)).alloc o2).alloc (.cells #[.int .i64 1] 3)).alloc (.cells (oneV (w.heap.size + 1) ++ oneV (w.heap.size + 1 + 1 + 1)).toArray T)).alloc (.cells (innV 3 1 (w.heap.size + 1 + 1 + 1 + 1) 2).toArray T)) (w.heap.size + 1 + 1 + 1 + 1 + 1) (w.heap.size + 1 + 1 + 1 + 1) := by
  have h1 := one_new w o1
  have h2 := one_new ((w.alloc o1).alloc (.cells #[.int .i64 1] 3)) o2
  rw [show ((w.alloc o1).alloc (.cells #[.int .i64 1] 3)).heap.size = w.heap.size + 1 + 1 by simp] at h2
  have h1 := (h1.below (below_new _ o2)).below (below_new _ (.cells #[.int .i64 1] 3))
  have k := nds_two h1 h2 T
  rw [show ((((w.alloc o1).alloc (.cells #[.int .i64 1] 3)).alloc o2).alloc (.cells #[.int .i64 1] 3)).heap.size = w.heap.size + 1 + 1 + 1 + 1 by simp] at k
  have n := inn_at 3 1 ⟨i64c _ (by decide), i64c _ (by decide)⟩ _ [oneN, oneN] _ (by decide) k
  have c := cells_new (((((w.alloc o1).alloc (.cells #[.int .i64 1] 3)).alloc o2).alloc (.cells #[.int .i64 1] 3)).alloc (.cells (oneV (w.heap.size + 1) ++ oneV (w.heap.size + 1 + 1 + 1)).toArray T)) (innV 3 1 (w.heap.size + 1 + 1 + 1 + 1) 2) T
  rw [show (((((w.alloc o1).alloc (.cells #[.int .i64 1] 3)).alloc o2).alloc (.cells #[.int .i64 1] 3)).alloc (.cells (oneV (w.heap.size + 1) ++ oneV (w.heap.size + 1 + 1 + 1)).toArray T)).heap.size = w.heap.size + 1 + 1 + 1 + 1 + 1 by simp] at c
  exact ⟨c, n.below (below_new _ _)⟩
theorem six (w : World) (a b c d e f : Obj) : Below w.heap.size w ((((((w.alloc a).alloc b).alloc c).alloc d).alloc e).alloc f) :=
  (Below.then (Below.then (Below.then (Below.then (Below.then (below_new w a) (below_new _ b)) (below_new _ c)) (below_new _ d)) (below_new _ e)) (below_new _ f))
def KidsAt (w : World) (g b : Nat) : Prop := ∃ b2 b6, TrainAt w b2 b6 ∧ Cells w g 0 (innV 16 2 b6 3 ++ innV 3 1 b 2) ∧ ∀ o, w.frozen? ⟨g, o, none⟩ = false
def F2 (n b : Nat) (L : List Value) (t : Nat) (v : Value) (w : World) : Prop :=
  if t = 10 then ∃ b2 b6, v = .agg (innV 16 2 b6 3).toArray ∧ TrainAt w b2 b6
  else if t = 11 then v = .agg (innV 3 1 b 2).toArray
  else if t = 12 then ∃ g, v = .slice (some ⟨g, 0, none⟩) 2 2 ∧ KidsAt w g b
  else if t = 13 then ∃ g, v = .agg (innV 4 1 g 2).toArray ∧ KidsAt w g b
  else if t = 2 then ∃ C, v = .pointer (some ⟨C, 0, none⟩) ∧ n ≤ C ∧ w.heap[C]? = some (.cells zNv.toArray 34 (0, 0))
  else v = L[t]?.getD undef
theorem TrainAt.below {w w' : World} {b2 b6 : Nat} (h : TrainAt w b2 b6) (hb : Below w.heap.size w w') : TrainAt w' b2 b6 :=
  h.kept (hb.block _ (h.1.1.lt (Nat.zero_lt_succ _))) (hb.block _ (h.2.1.lt (Nat.zero_lt_succ _)))
theorem KidsAt.below {w w' : World} {g b : Nat} (h : KidsAt w g b) (hb : Below w.heap.size w w') : KidsAt w' g b := by
  obtain ⟨b2, b6, h1, h2, h3⟩ := h
  exact ⟨b2, b6, h1.below hb, h2.below hb, fun o => (hb.frozen (p := ⟨g, o, none⟩) (h2.lt (Nat.zero_lt_succ _))).trans (h3 o)⟩
theorem F2.mono {n b : Nat} {L : List Value} (t : Nat) (v : Value) {x y : World} (hb : Below x.heap.size x y) (h : F2 n b L t v x) : F2 n b L t v y := by
  unfold F2 at h ⊢
  split
  · rename_i e; rw [if_pos e] at h; obtain ⟨b2, b6, h1, h2⟩ := h; exact ⟨b2, b6, h1, h2.below hb⟩
  rename_i e0; rw [if_neg e0] at h
  split
  · rename_i e; rw [if_pos e] at h; exact h
  rename_i e1; rw [if_neg e1] at h
  split
  · rename_i e; rw [if_pos e] at h; obtain ⟨g, h1, h2⟩ := h; exact ⟨g, h1, h2.below hb⟩
  rename_i e2; rw [if_neg e2] at h
  split
  · rename_i e; rw [if_pos e] at h; obtain ⟨g, h1, h2⟩ := h; exact ⟨g, h1, h2.below hb⟩
  rename_i e3; rw [if_neg e3] at h
  split
  · rename_i e; rw [if_pos e] at h; obtain ⟨C, h1, h2, h3⟩ := h; exact ⟨C, h1, h2, (hb.block _ (lt_of_heap h3)).trans h3⟩
  rename_i e4; rw [if_neg e4] at h; exact h
theorem run_slice_two {c1 c2 : List Value} (h1 : c1.length = 15) (h2 : c2.length = 15) (w : World) : (Instr.buildSlice 31 2 #[(0, .agg c1.toArray), (1, .agg c2.toArray)]).run Tryz.prog w = .ok (.slice (some ⟨w.heap.size, 0, none⟩) 2 2) (w.alloc (.cells (c1 ++ c2).toArray 34)) := by
  obtain ⟨a0, a1, a2, a3, a4, a5, a6, a7, a8, a9, a10, a11, a12, a13, a14, rfl⟩ := list15 h1
  obtain ⟨c0, c1, c2, c3, c4, c5, c6, c7, c8, c9, c10, c11, c12, c13, c14, rfl⟩ := list15 h2
  kernel_rfl
theorem store_row {w : World} {C : Nat} {cs : List Value} {z : Array Value} (hz : w.heap[C]? = some (.cells z 34 (0, 0))) (hl : cs.length = 15) (hzl : z.size = 15) (h1 : ∀ v ∈ cs, v.oneCell' = true) :
    (Instr.storeAt 34 (.pointer (some ⟨C, 0, none⟩)) (.agg cs.toArray)).run Tryz.prog w = .ok () (w.setRow C cs.toArray) := by
  have e := run_storeVar_row (P := Tryz.prog) w C 34 34 z cs.toArray hz (by rw [infoNode]; simp [hl]) (by simp [hl, hzl]) (by rw [Array.all_eq_true_iff_forall_mem]; intro v hv; exact h1 v (by simpa using hv))
  simp only [Instr.storeAt, Instr.sureAddr, Sem.run_bind, Sem.run_pure, Result.andThen]
  exact e
theorem setRow_other (w : World) (C k : Nat) (cs : Array Value) (h : k ≠ C) : (w.setRow C cs).heap[k]? = w.heap[k]? := by
  simp only [World.setRow, Array.getElem?_modify]
  rw [if_neg (by omega)]
theorem Below.row {n : Nat} {a w : World} (h : Below n a w) {C : Nat} (hC : n ≤ C) (cs : Array Value) : Below n a (w.setRow C cs) :=
  h.trans ⟨rfl, rfl, rfl, by simp [World.setRow], fun k hk => setRow_other w C k cs (by omega)⟩
theorem ne_row {w : World} {g C : Nat} {cs : List Value} {z : Array Value} {T : TypeId} {fr : Nat × Nat} (h : Cells w g 0 cs) (hl : 20 < cs.length) (hz : w.heap[C]? = some (.cells z T fr)) (hzl : z.size = 15) : g ≠ C := by
  intro e
  subst e
  have := h 20 hl
  rw [Nat.zero_add] at this
  simp [World.cell?, hz, hzl] at this
theorem row_cells {w : World} {C : Nat} {cs : List Value} {z : Array Value} {T : TypeId} (hz : w.heap[C]? = some (.cells z T (0, 0))) : Cells (w.setRow C cs.toArray) C 0 cs := by
  intro i hi
  have := setRow_heap w C z cs.toArray T (0, 0) hz
  rw [Nat.zero_add]
  simp [World.cell?, this, hi]
theorem ex_at {wc w : World} {B b C g : Nat} {z : Array Value} (hp : PairAt wc B b) (hb : Below wc.heap.size wc w) (hC : wc.heap.size ≤ C) (hz : w.heap[C]? = some (.cells z 34 (0, 0))) (hzl : z.size = 15) (hk : KidsAt w g b) :
    Cells (w.setRow C (innV 4 1 g 2).toArray) C 0 (innV 4 1 g 2) ∧ NdV (w.setRow C (innV 4 1 g 2).toArray) (innV 4 1 g 2) exN ∧ Below wc.heap.size wc (w.setRow C (innV 4 1 g 2).toArray) := by
  obtain ⟨b2, b6, ht, hc, hf⟩ := hk
  have n2 := ne_row ht.1.1 (by show 20 < 30; decide) hz hzl
  have n6 := ne_row ht.2.1 (by show 20 < 45; decide) hz hzl
  have ng := ne_row hc (by show 20 < 30; decide) hz hzl
  have hB := Below.row hb hC (innV 4 1 g 2).toArray
  have t := (ht.kept (setRow_other w C b2 _ n2) (setRow_other w C b6 (innV 4 1 g 2).toArray n6)).ndv
  have pr := hp.2.below hB
  have hg := setRow_other w C g (innV 4 1 g 2).toArray ng
  have cg : Cells (w.setRow C (innV 4 1 g 2).toArray) g 0 (innV 16 2 b6 3 ++ innV 3 1 b 2) := fun i hi => (kept_cell hg _).trans (hc i hi)
  have fg : ∀ o, (w.setRow C (innV 4 1 g 2).toArray).frozen? ⟨g, o, none⟩ = false := fun o => (kept_frozen hg o).trans (hf o)
  exact ⟨row_cells hz, inn_at 4 1 ⟨i64c _ (by decide), i64c _ (by decide)⟩ g [trainN, pairN] _ (by decide) (two_at cg fg t pr), hB⟩
theorem wp_store_row {o : Oper} {a : Act} {w : World} {K : Act → World → Prop} {Q : Exit → Act → World → Prop} {p v : Nat} (ho : o.op = .store 34 (.tmp p) (.tmp v)) {C : Nat} (hp : a.tmps.getD p undef = .pointer (some ⟨C, 0, none⟩))
    {cs : List Value} (hv : a.tmps.getD v undef = .agg cs.toArray) {z : Array Value} (hz : w.heap[C]? = some (.cells z 34 (0, 0))) (hl : cs.length = 15) (hzl : z.size = 15) (h1 : ∀ v ∈ cs, v.oneCell' = true)
    (hk : K (a.put o.dst undef) (w.setRow C cs.toArray)) : o.wp Tryz.prog a w K Q := by
  have e := store_row hz hl hzl h1
  have ev1 : a.eval (.tmp p) = .pointer (some ⟨C, 0, none⟩) := hp
  have ev2 : a.eval (.tmp v) = .agg cs.toArray := hv
  unfold Oper.wp execOp
  rw [ho]
  simp only [ev1, ev2, Sem.run_bind, e, Result.andThen_ok, Sem.run_pure, Oper.upon_skip]
  exact hk
theorem wp_load_nd {o : Oper} {a : Act} {w : World} {K : Act → World → Prop} {Q : Exit → Act → World → Prop} {p : Nat} (ho : o.op = .load 34 (.tmp p)) {C : Nat} (hp : a.tmps[p]?.getD undef = .pointer (some ⟨C, 0, none⟩))
    {cs : List Value} (hc : Cells w C 0 cs) (hl : cs.length = 15) (hk : K (a.put o.dst (.agg cs.toArray)) w) : o.wp Tryz.prog a w K Q := by
  have e := load_node hc hl
  have ev1 : a.eval (.tmp p) = .pointer (some ⟨C, 0, none⟩) := by rw [← hp]; simp [Act.eval]
  unfold Oper.wp execOp
  rw [ho]
  simp only [ev1, Sem.run_bind, e, Result.andThen_ok, Sem.run_pure, Oper.upon_value]
  exact hk
theorem wp_slice_two {o : Oper} {a : Act} {w : World} {K : Act → World → Prop} {Q : Exit → Act → World → Prop} {p q : Nat} (ho : o.op = .buildSlice 31 2 #[(0, .tmp p), (1, .tmp q)]) {c1 c2 : List Value} (hp : a.tmps[p]?.getD undef = .agg c1.toArray) (hq : a.tmps[q]?.getD undef = .agg c2.toArray)
    (h1 : c1.length = 15) (h2 : c2.length = 15) (hk : K (a.put o.dst (.slice (some ⟨w.heap.size, 0, none⟩) 2 2)) (w.alloc (.cells (c1 ++ c2).toArray 34))) : o.wp Tryz.prog a w K Q := by
  have e := run_slice_two h1 h2 w
  have ev1 : a.eval (.tmp p) = .agg c1.toArray := by rw [← hp]; simp [Act.eval]
  have ev2 : a.eval (.tmp q) = .agg c2.toArray := by rw [← hq]; simp [Act.eval]
  unfold Oper.wp execOp
  rw [ho]
  simp only [List.map_toArray, List.map_cons, List.map_nil, ev1, ev2, Sem.run_bind, e, Result.andThen_ok, Sem.run_pure, Oper.upon_value]
  exact hk
theorem innV_one (k c : Int) (g n : Nat) : ∀ v ∈ innV k c g n, v.oneCell' = true := by
  intro v hv; simp only [innV, List.mem_cons, List.not_mem_nil, or_false] at hv
  rcases hv with rfl | rfl | rfl | rfl | rfl | rfl | rfl | rfl | rfl | rfl | rfl | rfl | rfl | rfl | rfl <;> rfl
end Go.Proofs.YtghmbmjikkdbnaaGreatDoor.Syn

namespace Go.Proofs.YtghmbmjikkdbnaaGreatDoor.Syn
open Go.RowKit Go.Shelf Go.Maps Go.Proofs.YtghmbmjikkdbnaaGreatDoor.Shape Go.Proofs.YtghmbmjikkdbnaaGreatDoor.Draw
set_option linter.unusedVariables false
set_option linter.unusedSimpArgs false
set_option maxRecDepth 100000
def lt1 : Arr → ByteArray := fun _ => ⟨#[49]⟩
theorem lq_ex {R : Arr → Prop} (h : R oneA) : lqN R exN := by
  simp [exN, trainN, pairN, sumN, innN, leafN, lqN, lqK, lqB, oneN, h]
theorem know_show (cs : List Value) (w : World) (hT : Tab w) (hL : LitOK w oneA ⟨#[49]⟩) (w' : World) (g : Below w.heap.size w w') (h : NdV w' cs exN) :
    Calls Tryz.prog 20 #[.agg cs.toArray] w' fun e w'' => e = .returned (.string ⟨#[40, 32, 43, 32, 47, 32, 37, 32, 116, 97, 108, 108, 121, 32, 41, 32, 49, 32, 49]⟩) ∧ Below w'.heap.size w' w'' := by
  have := showP lt1 cs exN w' h (hT.below g) (by rw [ev_siz]; decide) (lq_ex ⟨hL.below g, by decide⟩)
  rw [ev_show lt1 rfl] at this
  exact this
theorem know_right (cs : List Value) (w : World) (hT : Tab w) (w' : World) (g : Below w.heap.size w w') (h : NdV w' cs exN) :
    Calls Tryz.prog 9 #[.agg cs.toArray] w' fun e w'' => e = .returned (.int .i64 0) ∧ Below w'.heap.size w' w'' :=
  (rightNodeP cs exN w' h (hT.below g) (by rw [ev_siz]; decide)).mono fun e w'' ⟨x, h1, h2, h3⟩ => ⟨by rw [h1, h2.2 (by rw [ev_siz]; decide), ev_right], h3⟩
theorem know_size (cs : List Value) (w w' : World) (g : Below w.heap.size w w') (h : NdV w' cs exN) :
    Calls Tryz.prog 11 #[.agg cs.toArray] w' fun e w'' => e = .returned (.int .i64 10) ∧ Below w'.heap.size w' w'' := by
  have := sizeP cs exN w' h
  rw [ev_siz] at this
  exact this
theorem know_class (cs : List Value) (w w' : World) (g : Below w.heap.size w w') (h : NdV w' cs exN) :
    Calls Tryz.prog 13 #[.agg cs.toArray] w' fun e w'' => e = .returned (.int .i64 1) ∧ Below w'.heap.size w' w'' := classP cs exN w' h
theorem know_same (cs : List Value) (w w' : World) (g : Below w.heap.size w w') (h : NdV w' cs exN) :
    Calls Tryz.prog 18 #[.agg cs.toArray, .agg cs.toArray] w' fun e w'' => e = .returned (.bool true) ∧ Below w'.heap.size w' w'' := by
  have := sameTopP cs cs exN exN w' h h
  rw [eqN_refl] at this
  exact this
def yV : List Value := [.int .i64 1, .int .i64 0, .string ⟨#[]⟩, .int .i64 0] ++ (zNv ++ leafV 7 1 0 0)
def idV (s : Nat) : List Value := [.int .i64 10, .int .i64 0, .int .i64 2, .string ⟨#[]⟩, .int .i64 0, .int .i64 0, .int .i64 0, .slice none 0 0, .slice none 0 0, .slice none 0 0, .slice none 0 0, .slice (some ⟨s, 0, none⟩) 1 1, .int .i64 0, .int .i64 0, .int .i64 0]
def idS (s : Nat) : List Value := [.int .i64 2, .int .i64 0, .string ⟨#[105, 100]⟩, .int .i64 0] ++ (zNv ++ idV s)
theorem sts_one {w : World} {cs : List Value} {S : St} (h : StV w cs S) (T : TypeId) : StsAt (w.alloc (.cells cs.toArray T)) w.heap.size 0 [S] := by
  rw [StsAt]
  exact ⟨⟨cs, cells_new w cs T, h.below (below_new _ _)⟩, ⟨frozen_off _ _ _ _, frozen_off _ _ _ _⟩, by rw [StsAt]; trivial⟩
theorem y_at (w : World) : StV w yV (.mk 1 0 ⟨#[]⟩ 0 zN yN) := by
  rw [StV]
  exact ⟨zNv, leafV 7 1 0 0, rfl, ⟨i64c _ (by decide), i64z, i64z⟩, by decide, zN_at w, leaf_at 7 1 0 0 ⟨i64c _ (by decide), i64c _ (by decide), i64z, i64z⟩ w⟩
theorem id_at {w : World} {s : Nat} (h : StsAt w s 0 yB) : NdV w (idV s) idN := by
  unfold idN
  rw [NdV]
  exact ⟨_, _, _, _, none, 0, some ⟨s, 0, none⟩, 1, rfl, ⟨i64c _ (by decide), i64z, i64c _ (by decide), i64z, i64z, i64z, i64z, i64z⟩, by decide, zA_at w, ⟨Nat.zero_le _, by decide⟩, ⟨Nat.le_refl _, by decide⟩, noKids w, ⟨s, 0, fun _ => rfl, h⟩⟩
theorem ids_at {w : World} {s : Nat} (h : StsAt w s 0 yB) : StV w (idS s) (.mk 2 0 ⟨#[105, 100]⟩ 0 zN idN) := by
  rw [StV]
  exact ⟨zNv, idV s, rfl, ⟨i64c _ (by decide), i64z, i64z⟩, by decide, zN_at w, id_at h⟩
theorem id_world (w : World) (A B : TypeId) (o : Obj) (s : Nat) (hs : s = w.heap.size) : StsAt ((((w.alloc (.cells yV.toArray A)).alloc (.cells (idV s).toArray B)).alloc (.cells (idS s).toArray A)).alloc o) s 0 yB ∧
    NdV ((((w.alloc (.cells yV.toArray A)).alloc (.cells (idV s).toArray B)).alloc (.cells (idS s).toArray A)).alloc o) (idV s) idN ∧ StsAt ((((w.alloc (.cells yV.toArray A)).alloc (.cells (idV s).toArray B)).alloc (.cells (idS s).toArray A)).alloc o) (s + 1 + 1) 0 idB ∧
    Below w.heap.size w ((((w.alloc (.cells yV.toArray A)).alloc (.cells (idV s).toArray B)).alloc (.cells (idS s).toArray A)).alloc o) := by
  subst hs
  have h1 := sts_one (y_at w) A
  have h2 := StsAt.below (below_new _ (.cells (idV w.heap.size).toArray B)) h1
  have h3 := sts_one (ids_at h2) A
  rw [show ((w.alloc (.cells yV.toArray A)).alloc (.cells (idV w.heap.size).toArray B)).heap.size = w.heap.size + 1 + 1 by simp] at h3
  have h4 := StsAt.below (below_new _ o) h3
  have h5 := StsAt.below (below_new _ o) (StsAt.below (below_new _ (.cells (idS w.heap.size).toArray A)) h2)
  exact ⟨h5, id_at h5, h4, Below.then (Below.then (Below.then (below_new w _) (below_new _ _)) (below_new _ _)) (below_new _ _)⟩
theorem know_showid (w : World) (hT : Tab w) (w' : World) (g : Below w.heap.size w w') (s : Nat) (h : NdV w' (idV s) idN) :
    Calls Tryz.prog 20 #[.agg (idV s).toArray] w' fun e w'' => e = .returned (.string ⟨#[123, 32, 89, 32, 125]⟩) ∧ Below w'.heap.size w' w'' := by
  have hz : siz idN = 2 := by simp [idN, yB, yN, leafN, sizB, sizS, siz, sizK, zN]
  have := showP lt1 (idV s) idN w' h (hT.below g) (by rw [hz]; decide) (by simp [idN, yB, yN, leafN, lqN, lqK, lqB, lqS, zN])
  rw [ev_showid] at this
  exact this
theorem know_rid (w : World) (hT : Tab w) (w' : World) (g : Below w.heap.size w w') (s : Nat) (h : StsAt w' s 0 idB) :
    Calls Tryz.prog 15 #[.agg #[.slice (some ⟨s, 0, none⟩) 1 1]] w' fun e w'' => e = .returned (.int .i64 0) ∧ Below w'.heap.size w' w'' := by
  have hz : sizB idB = 2 := by simp [idB, idN, yB, yN, leafN, sizB, sizS, siz, sizK, zN]
  exact (rightP (some ⟨s, 0, none⟩) 1 s 0 idB w' ⟨Nat.le_refl _, by decide⟩ (fun _ => rfl) h (hT.below g) (by rw [hz]; decide)).mono fun e w'' ⟨x, h1, h2, h3⟩ => ⟨by rw [h1, h2.2 (by rw [hz]; decide), ev_rid], h3⟩
theorem know_ry (w : World) (hT : Tab w) (w' : World) (g : Below w.heap.size w w') (s : Nat) (h : StsAt w' s 0 yB) :
    Calls Tryz.prog 15 #[.agg #[.slice (some ⟨s, 0, none⟩) 1 1]] w' fun e w'' => e = .returned (.int .i64 11) ∧ Below w'.heap.size w' w'' := by
  have hz : sizB yB = 1 := by simp [yB, yN, leafN, sizB, sizS, siz, sizK, zN]
  exact (rightP (some ⟨s, 0, none⟩) 1 s 0 yB w' ⟨Nat.le_refl _, by decide⟩ (fun _ => rfl) h (hT.below g) (by rw [hz]; decide)).mono fun e w'' ⟨x, h1, h2, h3⟩ => ⟨by rw [h1, h2.2 (by rw [hz]; decide), ev_ryb], h3⟩
theorem know_sp (w' : World) (s : Nat) (h : StsAt w' s 0 idB) :
    Calls Tryz.prog 17 #[.agg #[.slice (some ⟨s, 0, none⟩) 1 1], .agg #[.slice (some ⟨s, 0, none⟩) 1 1]] w' fun e w'' => e = .returned (.bool true) ∧ Below w'.heap.size w' w'' := by
  have := sameProgramP (some ⟨s, 0, none⟩) (some ⟨s, 0, none⟩) 1 s 0 1 s 0 idB idB w' (by decide) (by decide) (fun _ => rfl) h (fun _ => rfl) h
  rw [eqB_refl] at this
  exact this
theorem know_rz (w : World) (hT : Tab w) (w' : World) (g : Below w.heap.size w w') :
    Calls Tryz.prog 9 #[.agg zNv.toArray] w' fun e w'' => e = .returned (.int .i64 11) ∧ Below w'.heap.size w' w'' := by
  have hz : siz zN = 1 := by simp [zN, siz, sizK, sizB]
  exact (rightNodeP zNv zN w' (zN_at w') (hT.below g) (by rw [hz]; decide)).mono fun e w'' ⟨x, h1, h2, h3⟩ => ⟨by rw [h1, h2.2 (by rw [hz]; decide), ev_rightz], h3⟩
set_option maxHeartbeats 4000000 in
theorem knowsT (w : World) (hT : Tab w) (hLit : LitOK w oneA ⟨#[49]⟩) : Calls Tryz.prog 14 #[] w fun e w' => e = .returned (.bool true) ∧ Below w.heap.size w w' := by
  have K1 := fun (w : World) => oneP w
  have K2 := fun (w : World) => trainP w
  unfold oneV at K1
  go_enter Tryz.func14, Tryz.ntmps14
  go_upto_region 1 with (fail)
  go_cut [1] (fun s wx => ∃ B b, s = .pointer (some ⟨B, 0, none⟩) ∧ PairAt wx B b ∧ Below w.heap.size w wx)
  case first =>
    go_wp2_with (go_at_call 22; ((with_reducible refine (K1 _).mono ?_); rintro e w3 ⟨rfl, rfl⟩))
    go_meet
    exact ⟨_, _, rfl, pair_at w _ _ _, six w _ _ _ _ _ _⟩
  case rest =>
    obtain ⟨B, b, rfl, hp, hb⟩ := hcut
    go_upto_region 2 with (fail)
    go_cut [2] (fun s wx => ∃ B cs, s = .pointer (some ⟨B, 0, none⟩) ∧ Cells wx B 0 cs ∧ NdV wx cs exN ∧ Below w.heap.size w wx)
    case first =>
      have hB0 : Below wc.heap.size wc wc.drew := (Below.refl _ _).drew
      refine wp_region_lastL (l := [_, _, _, _, _]) (last := _) rfl (by kernel_rfl) (fun _ => 0) (fun x y => Below x.heap.size x y) (F2 wc.heap.size b) 2 12 (fun x => Below.refl _ _) (fun _ _ _ h g => Below.then h g) (fun t v x y hb h => F2.mono t v hb h) (by kernel_rfl) (by kernel_rfl) rfl (by simp) ?_ ?_ ?_ ?_
      · intro t v w' ht h
        unfold F2 at h
        rw [if_neg (by omega), if_neg (by omega), if_neg (by omega), if_neg (by omega), if_neg (by omega)] at h
        exact h
      · intro t ht
        unfold F2
        simp only [List.any_cons, List.any_nil, Bool.or_false, Bool.or_eq_false_iff, beq_eq_false_iff_ne, ne_eq, Option.some.injEq] at ht
        rw [if_neg (by omega), if_neg (by omega), if_neg (by omega), if_neg (by omega), if_neg (by omega)]
      · refine AllSteps.cons ?_ (AllSteps.cons ?_ (AllSteps.cons ?_ (AllSteps.cons ?_ (AllSteps.cons ?_ AllSteps.nil))))
        · intro a w' hle H
          refine ⟨trivial, fun K Q hK => ?_⟩
          go_simp
          go_at_call 33
          with_reducible refine (K2 _).mono ?_
          rintro e w3 ⟨rfl, n3, b3⟩
          exact hK.out _ _ b3 ⟨_, _, rfl, n3⟩
        · intro a w' hle H
          have h1 : a.tmps[1]?.getD undef = .pointer (some ⟨B, 0, none⟩) := H 1 rfl
          refine ⟨trivial, fun K Q hK => ?_⟩
          exact wp_load_nd rfl h1 (hp.below (Below.then hB0 hle)).1 rfl (hK.out _ _ (Below.refl _ _) rfl)
        · intro a w' hle H
          obtain ⟨b2, b6, h10, t10⟩ : F2 _ _ _ 10 (a.tmps[10]?.getD undef) w' := H 10 rfl
          have h11 : a.tmps[11]?.getD undef = .agg (innV 3 1 b 2).toArray := H 11 rfl
          refine ⟨trivial, fun K Q hK => ?_⟩
          exact wp_slice_two rfl h10 h11 rfl rfl (hK.out _ _ (below_new _ _) ⟨w'.heap.size, rfl, b2, b6, t10.below (below_new _ _), cells_new _ _ _, fun o => frozen_off _ _ _ o⟩)
        · intro a w' hle H
          obtain ⟨g, h12, k12⟩ : F2 _ _ _ 12 (a.tmps[12]?.getD undef) w' := H 12 rfl
          refine ⟨trivial, fun K Q hK => ?_⟩
          go_simp
          exact hK.out _ _ (Below.refl _ _) ⟨g, rfl, k12⟩
        · intro a w' hle H
          refine ⟨trivial, fun K Q hK => ?_⟩
          go_simp
          exact hK.out _ _ (below_new _ _) ⟨w'.heap.size, rfl, by have := (Below.then hB0 hle).size; exact this, heap_alloc_new _ _⟩
      · intro g w' hle H
        obtain ⟨C, h2, hC, hz⟩ : F2 _ _ _ 2 (g 2) w' := H 2
        obtain ⟨gg, h13, k13⟩ : F2 _ _ _ 13 (g 13) w' := H 13
        have h3 : g 3 = undef := H 3
        have h4 : g 4 = undef := H 4
        have h5 : g 5 = undef := H 5
        have h6 : g 6 = _ := H 6
        have h7 : g 7 = _ := H 7
        have h8 : g 8 = _ := H 8
        have h9 : g 9 = _ := H 9
        obtain ⟨x1, x2, x3⟩ := ex_at hp (Below.then hB0 hle) hC hz rfl k13
        refine wp_store_row rfl ((show _ = g 2 from rfl).trans h2) ((show _ = g 13 from rfl).trans h13) hz rfl rfl (innV_one _ _ _ _) ?_
        have hfin : Below w.heap.size w (w'.setRow C (innV 4 1 gg 2).toArray) := Below.then hb x3
        generalize w'.setRow C (innV 4 1 gg 2).toArray = W2 at *
        simp only [Act.put, List.range', List.map_cons, List.map_nil, List.take_succ_cons, List.take_zero, List.drop_succ_cons, List.drop_zero, List.cons_append, List.nil_append, Nat.reduceAdd, h2, h3, h4, h5]
        rw [h6, h7, h8, h9]
        simp only [List.getElem?_cons_succ, List.getElem?_cons_zero, Option.getD_some]
        go_wp2_with fail
        go_meet
        exact ⟨C, _, rfl, x1, x2, hfin⟩
    case rest =>
      obtain ⟨C, cs, rfl, hc, hn, hb2⟩ := hcut
      have lC := hn.len
      have SH := know_show cs w hT hLit wc hb2 hn
      have R := know_right cs w hT
      have Z := know_size cs w
      have CL := know_class cs w
      have SM := know_same cs w
      have q1 : ((⟨#[40, 32, 43, 32, 47, 32, 37, 32, 116, 97, 108, 108, 121, 32, 41, 32, 49, 32, 49]⟩ : ByteArray).toList == (⟨#[40, 32, 43, 32, 47, 32, 37, 32, 116, 97, 108, 108, 121, 32, 41, 32, 49, 32, 49]⟩ : ByteArray).toList) = true := str_yes rfl
      have q2 : ((⟨#[40, 32, 43, 32, 47, 32, 37, 32, 116, 97, 108, 108, 121, 32, 41, 32, 49, 32, 49]⟩ : ByteArray).toList != (⟨#[40, 32, 43, 32, 47, 32, 37, 32, 116, 97, 108, 108, 121, 32, 41, 32, 49, 32, 49]⟩ : ByteArray).toList) = false := by rw [bne, q1]; rfl
      go_upto_region 8 with (first | ((with_reducible show wpList _ _ _ ({ dst := _, op := Op.load 34 _, type := _, pos := _, after := _, guard := _ } :: _) _ _); first | refine wpList_load_nodeG rfl rfl rfl hc lC ?_ | refine wpList_load_nodeG rfl rfl rfl hc4 lC ?_ | refine wpList_load_nodeG rfl rfl rfl hc5 lC ?_ | refine wpList_load_nodeG rfl rfl rfl hc6 lC ?_ | refine wpList_load_nodeG rfl rfl rfl hc7 lC ?_) | (go_at_call 20; ((with_reducible refine SH.mono ?_); rintro e w4 ⟨rfl, b4⟩; (have B4 := Below.then hb2 b4); (have hc4 := hc.below b4); (have hn4 := hn.below b4); (have R4 := R _ B4 hn4))) | (go_at_call 9; ((with_reducible refine R4.mono ?_); rintro e w5 ⟨rfl, b5⟩; (have B5 := Below.then B4 b5); (have hc5 := hc4.below b5); (have hn5 := hn4.below b5); (have Z5 := Z _ B5 hn5))) | (go_at_call 11; ((with_reducible refine Z5.mono ?_); rintro e w6 ⟨rfl, b6⟩; (have B6 := Below.then B5 b6); (have hc6 := hc5.below b6); (have hn6 := hn5.below b6); (have C6 := CL _ B6 hn6))) | (go_at_call 13; ((with_reducible refine C6.mono ?_); rintro e w7 ⟨rfl, b7⟩; (have B7 := Below.then B6 b7); (have hc7 := hc6.below b7); (have hn7 := hn6.below b7); (have S7 := SM _ B7 hn7))) | (go_at_call 18; ((with_reducible refine S7.mono ?_); rintro e w8 ⟨rfl, b8⟩; (have B8 := Below.then B7 b8))))
      obtain ⟨f1, f2, f3, f4⟩ := id_world w8 59 34 (.cells #[.slice (some ⟨w8.heap.size + 1 + 1, 0, none⟩) 1 1] 42) w8.heap.size rfl
      have e4 := Below.then B8 f4
      have S1 := know_showid w hT _ e4 _ f2
      have P1 := fun w9 (g : Below w.heap.size w w9) (h : StsAt w9 (w8.heap.size + 1 + 1) 0 idB) => know_rid w hT w9 g _ h
      have P2 := fun w9 (g : Below w.heap.size w w9) (h : StsAt w9 w8.heap.size 0 yB) => know_ry w hT w9 g _ h
      have P3 := fun w9 (h : StsAt w9 (w8.heap.size + 1 + 1) 0 idB) => know_sp w9 _ h
      have P4 := fun w9 (g : Below w.heap.size w w9) => know_rz w hT w9 g
      have cE : ((((w8.alloc (.cells yV.toArray 59)).alloc (.cells (idV w8.heap.size).toArray 34)).alloc (.cells (idS w8.heap.size).toArray 59)).alloc (.cells #[.slice (some ⟨w8.heap.size + 1 + 1, 0, none⟩) 1 1] 42)).cell? ⟨w8.heap.size + 1 + 1 + 1, 0, none⟩ = some (.slice (some ⟨w8.heap.size + 1 + 1, 0, none⟩) 1 1) := by
        have := World.cell?_alloc_new (((w8.alloc (.cells yV.toArray 59)).alloc (.cells (idV w8.heap.size).toArray 34)).alloc (.cells (idS w8.heap.size).toArray 59)) #[.slice (some ⟨w8.heap.size + 1 + 1, 0, none⟩) 1 1] 42 0
        rw [show (((w8.alloc (.cells yV.toArray 59)).alloc (.cells (idV w8.heap.size).toArray 34)).alloc (.cells (idS w8.heap.size).toArray 59)).heap.size = w8.heap.size + 1 + 1 + 1 by simp] at this
        rw [this]; rfl
      have r1 : ((⟨#[123, 32, 89, 32, 125]⟩ : ByteArray).toList == (⟨#[123, 32, 89, 32, 125]⟩ : ByteArray).toList) = true := str_yes rfl
      clear SH R Z CL SM R4 Z5 C6 S7 hc4 hc5 hc6 hc7 hn4 hn5 hn6 hn7 hc hn hT hLit
      unfold yV idS idV zNv leafV at S1 f1 f2 f3 f4 e4 cE
      unfold zNv at P4
      simp only [List.cons_append, List.nil_append] at S1 f1 f2 f3 f4 e4 cE
      go_wp2_with (first | (go_at_call 20; ((with_reducible refine S1.mono ?_); rintro e w9 ⟨rfl, b9⟩; (have g9 := Below.then e4 b9); (have y9 := StsAt.below b9 f1); (have i9 := StsAt.below b9 f3); (have c9 := (b9.cell (cell_lt cE)).trans cE); (have Q1 := P1 _ g9 i9))) | (go_at_call 15; ((with_reducible refine Q1.mono ?_); rintro e w10 ⟨rfl, b10⟩; (have g10 := Below.then g9 b10); (have y10 := StsAt.below b10 y9); (have i10 := StsAt.below b10 i9); (have c10 := (b10.cell (cell_lt c9)).trans c9); (have Q2 := P2 _ g10 y10))) | (go_at_call 15; ((with_reducible refine Q2.mono ?_); rintro e w11 ⟨rfl, b11⟩; (have g11 := Below.then g10 b11); (have i11 := StsAt.below b11 i10); (have c11 := (b11.cell (cell_lt c10)).trans c10); (have Q3 := P3 _ i11))) | (go_at_call 17; ((with_reducible refine Q3.mono ?_); rintro e w12 ⟨rfl, b12⟩; (have g12 := Below.then g11 b12); (have Q4 := P4 _ g12))) | (go_at_call 9; ((with_reducible refine Q4.mono ?_); rintro e w13 ⟨rfl, b13⟩; (have g13 := Below.then g12 b13))))
      go_ret
      exact ⟨rfl, g13⟩
end Go.Proofs.YtghmbmjikkdbnaaGreatDoor.Syn
