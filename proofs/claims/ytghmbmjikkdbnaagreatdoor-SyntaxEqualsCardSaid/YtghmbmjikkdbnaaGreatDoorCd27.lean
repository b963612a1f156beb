/-
  Layer 10: the literal 1 is written as it is, over the tables that strconv and math/bits lay.
  Layer 10: the law SyntaxEquals, walked.
-/
import Derived.Test.YtghmbmjikkdbnaaGreatDoorCd26
import Derived.Test.YtghmbmjikkdbnaaGreatDoorCd24
import Derived.Test.YtghmbmjikkdbnaaGreatDoorCd7
namespace Go.Proofs.YtghmbmjikkdbnaaGreatDoor.Syn
open Go.RowKit Go.Shelf Go.Maps Go.Proofs.YtghmbmjikkdbnaaGreatDoor.Shape
set_option linter.unusedVariables false
set_option maxRecDepth 100000
theorem lit_one (w : World) (hT : Tok.TZ w) (hg : 5 < w.heap.size) : LitOK w oneA ⟨#[49]⟩ := by
  intro v w' hb h
  have := LiteralP v oneA w' h (by decide) (Tok.TZ.below hT hb) (Nat.lt_of_lt_of_le hg hb.size)
  have e : litA oneA = [49] := by kernel_rfl
  rw [e] at this
  exact this
/-- The law's knows says true. -/
theorem knowsL (w : World) (hT : Tab w) (hZ : Tok.TZ w) (hg : 5 < w.heap.size) : Calls Tryz.prog 14 #[] w fun e w' => e = .returned (.bool true) ∧ Below w.heap.size w w' :=
  knowsT w hT (lit_one w hZ hg)
/-- Equality up to offsets and slots goes both ways. -/
theorem sameB_comm (a b : List Int) : sameB a b = sameB b a := by
  unfold sameB; by_cases h : a = b
  · subst h; rfl
  · rw [decide_eq_false h, decide_eq_false (fun e => h e.symm)]
mutual
theorem eqA_comm : ∀ A B, eqA A B = eqA B A
  | .mk k sh nu it, .mk k2 sh2 nu2 it2 => by
    rw [eqA, eqA, eqL_comm it it2, sameB_comm sh sh2, sameB_comm nu nu2, Bool.beq_comm (a := k)]
theorem eqL_comm : ∀ a b, eqL a b = eqL b a
  | [], [] => rfl
  | [], _ :: _ => by simp [eqL]
  | _ :: _, [] => by simp [eqL]
  | A :: r, B :: q => by rw [eqL, eqL, eqA_comm A B, eqL_comm r q]
end
theorem int_comm (a b : Int) : (a == b) = (b == a) := by
  by_cases h : a = b
  · subst h; rfl
  · rw [beq_eq_false_iff_ne.2 h, beq_eq_false_iff_ne.2 (fun e => h e.symm)]
theorem ba_comm (a b : ByteArray) : (a == b) = (b == a) := by
  by_cases h : a = b
  · subst h; rfl
  · rw [ba_no h, ba_no (fun e => h e.symm)]
mutual
theorem eqN_comm : ∀ N M, eqN N M = eqN M N
  | .mk k a c t p o v ks bd d s z, .mk k2 a2 c2 t2 p2 o2 v2 ks2 bd2 d2 s2 z2 => by
    rw [eqN, eqN, int_comm k, int_comm c, ba_comm t, int_comm p, int_comm o, eqA_comm v, eqK_comm ks, eqB_comm bd]
theorem eqK_comm : ∀ a b, eqK a b = eqK b a
  | [], [] => rfl
  | [], _ :: _ => by simp [eqK]
  | _ :: _, [] => by simp [eqK]
  | N :: r, M :: q => by rw [eqK, eqK, eqN_comm N M, eqK_comm r q]
theorem eqS_comm : ∀ S T, eqS S T = eqS T S
  | .mk k a n s te nd, .mk k2 a2 n2 s2 te2 nd2 => by rw [eqS, eqS, int_comm k, ba_comm n, eqN_comm te, eqN_comm nd]
theorem eqB_comm : ∀ a b, eqB a b = eqB b a
  | [], [] => rfl
  | [], _ :: _ => by simp [eqB]
  | _ :: _, [] => by simp [eqB]
  | S :: r, T :: q => by rw [eqB, eqB, eqS_comm S T, eqB_comm r q]
end
end Go.Proofs.YtghmbmjikkdbnaaGreatDoor.Syn

namespace Go.Proofs.YtghmbmjikkdbnaaGreatDoor.Syn
open Go.RowKit Go.Shelf Go.Maps Go.Proofs.YtghmbmjikkdbnaaGreatDoor.Shape
set_option linter.unusedVariables false
set_option linter.unusedSimpArgs false
set_option maxRecDepth 100000
set_option maxHeartbeats 8000000 in
theorem equalsQ (xs ys : List Value) (N M : Nd) (w : World) (h : NdV w xs N) (g : NdV w ys M) (hT : Tab w) (hZ : Tok.TZ w) (hg : 5 < w.heap.size) :
    Calls Tryz.prog 5 #[.agg xs.toArray, .agg ys.toArray] w fun e w' => e = .returned (.bool true) ∧ Below w.heap.size w w' := by
  have B1 := below_new w (.cells xs.toArray 34)
  have B2 := below_new (w.alloc (.cells xs.toArray 34)) (.cells ys.toArray 34)
  have l1 := h.len
  have l2 := g.len
  have hc := Cells.below B2 (cells_new w xs 34)
  have hd := cells_new (w.alloc (.cells xs.toArray 34)) ys 34
  rw [show (w.alloc (.cells xs.toArray 34)).heap.size = w.heap.size + 1 by simp] at hd
  have B := Below.then B1 B2
  have hN := h.below B
  have hM := g.below B
  have hT := hT.below B
  have hZ := Tok.TZ.below hZ B
  have hg := Nat.lt_of_lt_of_le hg B.size
  obtain ⟨r, hr⟩ : ∃ r, eqN N M = r := ⟨_, rfl⟩
  have hr2 : eqN M N = r := by rw [eqN_comm, hr]
  have S1 := fun x : Sub ((w.alloc (.cells xs.toArray 34)).alloc (.cells ys.toArray 34)) => sameTopP xs ys N M x.w (hN.below x.below) (hM.below x.below)
  have R1 := fun x : Sub ((w.alloc (.cells xs.toArray 34)).alloc (.cells ys.toArray 34)) => sameR xs ys N M x.w (hN.below x.below) (hM.below x.below)
  have S2 := fun x : Sub ((w.alloc (.cells xs.toArray 34)).alloc (.cells ys.toArray 34)) => sameTopP ys xs M N x.w (hM.below x.below) (hN.below x.below)
  have K := fun x : Sub ((w.alloc (.cells xs.toArray 34)).alloc (.cells ys.toArray 34)) => knowsL x.w (hT.below x.below) (Tok.TZ.below hZ x.below) (Nat.lt_of_lt_of_le hg x.below.size)
  simp only [hr] at S1 R1
  simp only [hr2] at S2
  clear hr hr2 hN hM hT hZ hg h g B1 B2
  cases r
  all_goals
    go_enter Tryz.func5, Tryz.ntmps5
    go_wp2_with fail
    refine wp_region_sub (W := ((w.alloc (.cells xs.toArray 34)).alloc (.cells ys.toArray 34))) (by kernel_rfl) (by kernel_rfl) (Below.refl _ _) ?_
    repeat (first | (go_big_quiet_want; (first | refine quiet_load_node hc l1 rfl rfl ?_ | refine quiet_load_node hd l2 rfl rfl ?_); simp only [Act.put, List.setIfInBounds_toArray, List.set_cons_succ, List.set_cons_zero]; go_big_quiet_on) | go_big_quiet_step ((first | (go_at_call 18; with_reducible exact sub_call (S1 _)) | (go_at_call 18; with_reducible exact sub_call (S2 _)) | (go_at_call 19; with_reducible exact sub_call (R1 _)) | (go_at_call 14; with_reducible exact sub_call (K _)))))
    refine wpQuiet_nil ?_
    intro x
    have bx := x.below
    generalize x.w = w2 at *
    go_wp2_with fail
    go_ret
    exact ⟨rfl, Below.then B bx⟩
end Go.Proofs.YtghmbmjikkdbnaaGreatDoor.Syn
