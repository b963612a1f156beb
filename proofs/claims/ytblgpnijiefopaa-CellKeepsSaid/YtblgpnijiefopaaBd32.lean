/-
  Layer 4: small things for the law of padding with more rows.
-/
import Derived.Test.YtblgpnijiefopaaBd30
import Derived.Test.YtblgpnijiefopaaBd31
namespace Go.Proofs.Ytblgpnijiefopaa.Shape
open Go.RowKit Go.Proofs.Ytblgpnijiefopaa.Draw
set_option linter.unusedVariables false

/-- The rows more: a valid shape. -/
theorem keep_rows {x0 : Arr} {a1 f : Int} {ts : List Int} (hx : rightE x0 = 0) (hk : x0.kind ≠ 3) (hsh : x0.shape = f :: ts) (hall : ∀ i' (h : i' < x0.shape.length), i' < x0.shape.length → x0.shape[i'] ≤ 40) (h3 : ¬ 3 < x0.shape.length) (hfew : x0.items = [] → (x0.nums.length : Int) ≤ 300) (hb : 0 ≤ a1 ∧ a1 ≤ 255) :
    ∃ (m : Nat) (t : Int), a1.tmod 20 = (m : Int) ∧ f + (m : Int) = t ∧ f ≤ t ∧ f ≤ 40 ∧ t ≤ 59 ∧ ts.length ≤ 2 ∧ rightB (t :: ts) = true ∧ 0 ≤ f := by
  obtain ⟨-, -, h4, -, -, -⟩ := right_lens hx
  obtain ⟨g1, g2⟩ := h4 hk
  have hrs := right_short hx
  have hNN := (right_def.1 hrs).2.1
  rw [hsh] at hNN g1 h3
  have h40 : ∀ y ∈ f :: ts, y ≤ 40 := fun y hy => by
    rw [← hsh] at hy
    obtain ⟨i, hi, rfl⟩ := List.getElem_of_mem hy
    exact hall i hi hi
  have hp : pr (f :: ts) ≤ 300 := by
    have h5 := hfew g2
    have h6 := pr_nn hNN
    rw [g1] at h5
    unfold prN at h5
    omega
  have hm0 : 0 ≤ a1.tmod 20 := Int.tmod_nonneg _ hb.1
  have hm1 : a1.tmod 20 < 20 := Int.tmod_lt_of_pos _ (by decide)
  have hf0 := hNN.head
  have hf4 := h40 f (by simp)
  have hl : ts.length ≤ 2 := by simp only [List.length_cons] at h3; omega
  refine ⟨(a1.tmod 20).toNat, f + a1.tmod 20, by omega, by omega, by omega, hf4, by omega, hl, ?_, hf0⟩
  exact rows_right hNN h40 hl hp (by omega) (by omega)
/-- What the temporaries of the last loop's region hold (case 1). -/
def keepT1 (x0 : Arr) (w : World) (YB j L7 nc yc ab ao yb yo : Nat) (na yn : Option Addr) (yv : Int) : List FactS :=
  [.f .any, .f .any, .f (.val (.pointer (some ⟨w.heap.size, 0, none⟩))), .f .any, .f .any, .f .any, .f .any, .f .any, .f .any, .f (.val (.pointer (some ⟨YB, 0, none⟩))), .f .any, .f (.val (.int .i64 (j : Int))), .f .any, .f .any, .f .any, .f .any, .f .any, .f .any, .f .any, .f .any, .f .any, .f .any, .f .any, .f .any, .f .any, .f .any, .f .any, .f .any, .f .any, .f .any, .f .any, .f .any, .f .any, .f .any, .f .any, .f .any, .f .any, .f .any, .f .any, .f .any, .f .any, .f .any, .f .any, .f .any, .f .any, .f .any, .f .any, .f .any, .f .any, .f .any, .f .any, .f .any, .f .any, .f .any, .f .any, .f .any, .f .any, .f .any, .f .any, .f .any, .f .any, .f .any, .f .any, .f .any, .f .any, .f .any, .f .any, .f .any, .f .any, .f .any, .f .any, .f .any, .f .any, .f .any, .f .any, .f .any, .f .any, .f .any, .f .any, .f .any, .f .any, .f .any, .f .any, .f .any, .f .any, .f .any, .f .any, .f .any, .f .any, .f .any, .f .any, .f .any, .f .any, .f .any, .f .any, .f .any, .f .any, .f .any, .f .any, .f .any, .f .any, .f .any, .f .any, .f (.val (.int .i64 (j : Int))), .f (.val (.pointer (some ⟨w.heap.size, 2, none⟩))), .f (.val (.slice na x0.nums.length nc)), .f (.val (.int .i64 (x0.nums.length : Int))), .f (.val (.bool true)), .f (.val (.bool true)), .f (.val (.pointer (some ⟨YB, 2, none⟩))), .f (.val (.slice yn L7 yc)), .f (.val (.int .i64 (j : Int))), .f (.val (.pointer (some ⟨yb, yo, none⟩))), .f (.val (.int .i64 yv)), .f (.val (.pointer (some ⟨w.heap.size, 2, none⟩))), .f (.val (.slice na x0.nums.length nc)), .f (.val (.int .i64 (j : Int))), .f (.val (.pointer (some ⟨ab, ao, none⟩))), .f (.val (.int .i64 yv)), .f (.val (.bool false)), .f (.val (.bool false)), .f (.val (.bool false)), .f (.val (.int .i64 (j : Int))), .f (.val (.pointer (some ⟨w.heap.size, 2, none⟩))), .f (.val (.slice na x0.nums.length nc)), .f (.val (.int .i64 (x0.nums.length : Int))), .f (.val (.bool false)), .f (.val (.bool false)), .f (.val undef), .f (.val undef), .f (.val undef), .f (.val undef), .f (.val undef), .f (.val undef), .f (.val undef), .f (.val undef), .f (.val undef), .f (.val undef), .f (.val undef), .f (.val (.bool false)), .f (.val (.bool false)), .f .any, .f .any, .f .any, .f .any, .f .any, .f .any, .f .any]
/-- What the temporaries of the last loop's region hold (case 2). -/
def keepT2 (x0 : Arr) (w : World) (YB j L7 nc yc yb yo : Nat) (na yn : Option Addr) (yv : Int) : List FactS :=
  [.f .any, .f .any, .f (.val (.pointer (some ⟨w.heap.size, 0, none⟩))), .f .any, .f .any, .f .any, .f .any, .f .any, .f .any, .f (.val (.pointer (some ⟨YB, 0, none⟩))), .f .any, .f (.val (.int .i64 (j : Int))), .f .any, .f .any, .f .any, .f .any, .f .any, .f .any, .f .any, .f .any, .f .any, .f .any, .f .any, .f .any, .f .any, .f .any, .f .any, .f .any, .f .any, .f .any, .f .any, .f .any, .f .any, .f .any, .f .any, .f .any, .f .any, .f .any, .f .any, .f .any, .f .any, .f .any, .f .any, .f .any, .f .any, .f .any, .f .any, .f .any, .f .any, .f .any, .f .any, .f .any, .f .any, .f .any, .f .any, .f .any, .f .any, .f .any, .f .any, .f .any, .f .any, .f .any, .f .any, .f .any, .f .any, .f .any, .f .any, .f .any, .f .any, .f .any, .f .any, .f .any, .f .any, .f .any, .f .any, .f .any, .f .any, .f .any, .f .any, .f .any, .f .any, .f .any, .f .any, .f .any, .f .any, .f .any, .f .any, .f .any, .f .any, .f .any, .f .any, .f .any, .f .any, .f .any, .f .any, .f .any, .f .any, .f .any, .f .any, .f .any, .f .any, .f .any, .f .any, .f (.val (.int .i64 (j : Int))), .f (.val (.pointer (some ⟨w.heap.size, 2, none⟩))), .f (.val (.slice na x0.nums.length nc)), .f (.val (.int .i64 (x0.nums.length : Int))), .f (.val (.bool false)), .f (.val (.bool false)), .f (.val undef), .f (.val undef), .f (.val undef), .f (.val undef), .f (.val undef), .f (.val undef), .f (.val undef), .f (.val undef), .f (.val undef), .f (.val undef), .f (.val undef), .f (.val (.bool false)), .f (.val (.bool false)), .f (.val (.int .i64 (j : Int))), .f (.val (.pointer (some ⟨w.heap.size, 2, none⟩))), .f (.val (.slice na x0.nums.length nc)), .f (.val (.int .i64 (x0.nums.length : Int))), .f (.val (.bool true)), .f (.val (.bool true)), .f (.val (.pointer (some ⟨YB, 2, none⟩))), .f (.val (.slice yn L7 yc)), .f (.val (.int .i64 (j : Int))), .f (.val (.pointer (some ⟨yb, yo, none⟩))), .f (.val (.int .i64 yv)), .f (.arr x0), .f (.arr (.mk x0.kind [] [yv] [])), .f (.ints [yv]), .ptr (.int .i64 yv), .f (.val (.int .i64 yv)), .f (.val (.bool false)), .f (.val (.bool false)), .f (.val (.bool false)), .f .any, .f .any, .f .any, .f .any, .f .any, .f .any, .f .any]
end Go.Proofs.Ytblgpnijiefopaa.Shape
