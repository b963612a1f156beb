/-
  Layer 1: the examples of the chapter that each law asks ('awake') hold.
-/
import Derived.Test.YtjbabbbldepjgaaNumArith
import Derived.Test.YtjbabbbldepjgaaNumDiv
import Derived.Test.YtjbabbbldepjgaaNumPow
import Derived.Test.YtjbabbbldepjgaaNumReadP
import Derived.Test.YtjbabbbldepjgaaNumShowP
namespace Go.Proofs.Ytjbabbbldepjgaa.Num
open Go.RowKit

theorem ex_div : divS (-7) 2 = (-4, 0) := by decide
theorem ex_pow : powS 2 10 = (1024, 0) := by decide
theorem ex_read : rdS (ByteArray.mk #[95, 48, 48, 55]).data.toList = (-7, 0) := by decide
theorem ex_add : addS 4611686018427387903 1 = (0, 19) := by decide
theorem ex_show : shS (-5) = ⟨#[95, 53]⟩ := by
  rw [shS, shL_neg (by decide), dg_last (by decide)]; rfl

theorem Below.then {a b c : World} (h : Below a.heap.size a b) (k : Below b.heap.size b c) : Below a.heap.size a c := h.trans (k.mono h.size)

set_option maxHeartbeats 400000 in
theorem awakeL (w : World) :
    Calls Try.prog 22 #[] w fun e w' => e = .returned (.bool true) ∧ Below w.heap.size w w' := by
  have x1 := ex_div
  have x2 := ex_pow
  have x3 := ex_read
  have x4 := ex_add
  have x5 := ex_show
  go_enter Try.func22, Try.ntmps22
  go_wp2_with (first
    | (go_at_call 16; refine (divP (-7) 2 _).mono ?_; rintro e w' ⟨rfl, rfl⟩)
    | (go_at_call 23; refine (powP 2 10 _).mono ?_; rintro e w' ⟨rfl, rfl⟩)
    | (go_at_call 26; refine (readP ⟨#[95, 48, 48, 55]⟩ _ (by decide)).mono ?_; rintro e w1 ⟨rfl, hb1⟩)
    | (go_at_call 9; refine (addP 4611686018427387903 1 _).mono ?_; rintro e w' ⟨rfl, rfl⟩)
    | (go_at_call 25; refine (showP (-5) _ (by decide) (by decide)).mono ?_; rintro e w2 ⟨rfl, hb2⟩))
  go_ret
  exact ⟨rfl, Below.then hb1 hb2⟩
end Go.Proofs.Ytjbabbbldepjgaa.Num
