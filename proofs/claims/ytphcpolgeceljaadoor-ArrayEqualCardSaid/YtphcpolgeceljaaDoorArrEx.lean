/-
  Layer 3: the values of the law's own example.
-/
import Derived.Test.YtphcpolgeceljaaDoorArrOf5
namespace Go.Proofs.YtphcpolgeceljaaDoor.Shape
open Go.RowKit

def exM : Arr := .mk 1 [2, 2] [1, 2, 3, 4] []
def exT : Arr := .mk 2 [2] [104, 105] []
def exB : Arr := .mk 3 [2] [] [exM, exT]
theorem ex_right {A : Arr} {x d : Int} (h : chk A = (x, d)) : rightE A = x := by rw [rightE, h]
theorem ex_valid {A : Arr} {d : Int} (h : chk A = (0, d)) : validA A = A := by rw [validA, if_pos (by rw [rightE, h])]
theorem ex_M : rightE exM = 0 := ex_right (d := 0) (by kernel_rfl)
theorem ex_Bv : validA (.mk 3 [((2 : Nat) : Int)] [] [exM, exT]) = exB := ex_valid (d := 1) (by kernel_rfl)
theorem ex_text_hi : textA ⟨#[104, 105]⟩ = exT := by kernel_rfl
theorem ex_text_0 : textA ⟨#[]⟩ = .mk 2 [0] [] [] := by kernel_rfl
theorem ex_text_1 : textA ⟨#[32]⟩ = .mk 2 [1] [32] [] := by kernel_rfl
theorem ex_size : aSize exB = 2 := by kernel_rfl
theorem ex_wt : wt exB = 8 := by kernel_rfl
theorem ex_at : atA exB 1 = .mk 3 [] [] [exT] := by kernel_rfl
theorem ex_boxT : validA (.mk 3 [] [] [exT]) = .mk 3 [] [] [exT] := ex_valid (d := 1) (by kernel_rfl)
theorem ex_eq1 : eqA (.mk 3 [] [] [exT]) (.mk 3 [] [] [exT]) = true := by kernel_rfl
theorem ex_v2 : validA (.mk 1 [((2 : Nat) : Int)] [1, 2] []) = .mk 1 [2] [1, 2] [] := ex_valid (d := 0) (by kernel_rfl)
theorem ex_of : ofA [5] (.mk 1 [2] [1, 2] []) = (.mk 1 [5] [1, 2, 1, 2, 1] [], 0) := by kernel_rfl
theorem ex_v5 : validA (.mk 1 [((5 : Nat) : Int)] [1, 2, 1, 2, 1] []) = .mk 1 [5] [1, 2, 1, 2, 1] [] := ex_valid (d := 0) (by kernel_rfl)
theorem ex_eq2 : eqA (.mk 1 [5] [1, 2, 1, 2, 1] []) (.mk 1 [5] [1, 2, 1, 2, 1] []) = true := by kernel_rfl
theorem ex_len : rightE (.mk 1 [3] [1] []) = 16 := ex_right (d := 0) (by kernel_rfl)
theorem ex_sc : validA (.mk 1 [] [1] []) = .mk 1 [] [1] [] := ex_valid (d := 0) (by kernel_rfl)
theorem ex_v1 : validA (.mk 1 [((1 : Nat) : Int)] [1] []) = .mk 1 [1] [1] [] := ex_valid (d := 0) (by kernel_rfl)
theorem ex_eq3 : eqA (.mk 1 [] [1] []) (.mk 1 [1] [1] []) = false := by kernel_rfl
theorem ex_fill : fillA (Arr.kind (.mk 2 [0] [] [])) = .mk 2 [] [32] [] := by kernel_rfl
theorem ex_at0 : atA (.mk 2 [1] [32] []) 0 = .mk 2 [] [32] [] := by kernel_rfl
theorem ex_eq4 : eqA (.mk 2 [] [32] []) (.mk 2 [] [32] []) = true := by kernel_rfl

/-- A result that is an array: its four cells, typed. -/
theorem GiveArr.form {A : Arr} {w w' : World} {e : Ending} (h : GiveArr A w e w') : ∃ k sa ls sc na ln nc ia li ic, e = .returned (.agg #[.int .i64 k, .slice sa ls sc, .slice na ln nc, .slice ia li ic]) ∧
    ArrAt w' (.agg #[.int .i64 k, .slice sa ls sc, .slice na ln nc, .slice ia li ic]) A ∧ Below w.heap.size w w' := by
  obtain ⟨v, rfl, hA, hb⟩ := h
  have hA' := hA
  obtain ⟨k, sh, nu, it⟩ := A
  rw [ArrAt] at hA
  obtain ⟨sa, sc, na, nc, ia, ic, rfl, -⟩ := hA
  exact ⟨k, sa, _, sc, na, _, nc, ia, _, ic, rfl, hA', hb⟩
/-- A slice that a literal has laid. -/
theorem lit_ints (w : World) (L : List Int) (t : TypeId) (C : Array Value) (n m : Nat) (hC : C = (L.map (Value.int .i64)).toArray) (hn : n = w.heap.size) (hm : m = L.length) (hb : ∀ x ∈ L, -9223372036854775808 ≤ x ∧ x ≤ 9223372036854775807) (hl : L.length ≤ 1000000) :
    IntsAt (w.alloc (.cells C t)) (some ⟨n, 0, none⟩) m L := by
  subst hC; subst hn; subst hm
  refine ⟨Nat.le_refl _, by omega, hb, w.heap.size, 0, fun _ => rfl, fun i hi => ?_⟩
  rw [Nat.zero_add, World.cell?_alloc_new]
  simp [hi]
end Go.Proofs.YtphcpolgeceljaaDoor.Shape
