/-
  Layer 5: what the laws' cards share: the three listed tables as they are laid, a world that holds them, and what the walks read of them.
-/
import Derived.Test.YtngcahaidlgkfaaDoorFmGD
import Derived.Test.YtngcahaidlgkfaaDoorArrWeight
import Derived.Test.YtngcahaidlgkfaaDoorCards
import Derived.Test.YtngcahaidlgkfaaDoorTie
import Derived.Lib.LaidIn
import Derived.Lib.LaidTab
import Derived.Lib.LaidU8T
import Derived.Deep.DeepHandedRow
import Derived.Deep.DeepWitnessRowRef
import Derived.SevenTiedAt
import Derived.ProofKit
import Derived.SizedLaws
namespace Go.Proofs.YtngcahaidlgkfaaDoor.Shape
open Go.Shelf Go.RowKit Go.Lib
set_option linter.unusedVariables false
set_option maxRecDepth 100000

def Tabs5 (w : World) : Prop := Tok.TZ w ∧ 3 < w.heap.size
theorem cardOwn : ownKnob Tryd.prog.godebug = none := by kernel_rfl
def dbTab : List Int := [0, 1, 56, 2, 57, 49, 28, 3, 61, 58, 42, 50, 38, 29, 17, 4, 62, 47, 59, 36, 45, 43, 51, 22, 53, 39, 33, 30, 24, 18, 12, 5, 63, 55, 48, 27, 60, 41, 37, 16, 46, 35, 44, 21, 52, 32, 23, 11, 54, 26, 40, 15, 34, 20, 31, 10, 25, 14, 19, 9, 13, 8, 7, 6]
theorem db_eq : (Rows.laid_math_bits_deBruijn64tab : DataW Unit) = Lib.tabData .u8 dbTab := by kernel_rfl
theorem tz_of {w : World} (h : VarReads Tryd.prog w "math/bits.deBruijn64tab" (Lib.tabData .u8 dbTab)) : Tok.TZ w := by
  obtain ⟨g, t, cs, fuel, p, hg, hty, hvar, hd⟩ := h
  obtain rfl := Option.some.inj ((show Tryd.prog.globalNamed "math/bits.deBruijn64tab" = some 3 by kernel_rfl).symm.trans hg)
  obtain rfl := Option.some.inj ((show (Tryd.prog.globals[3]?).map (·.type) = some 113 by kernel_rfl).symm.trans hty)
  have hcs := cells_of_tab Tryd.underlying113 Tryd.underlying5 (by kernel_rfl) (by kernel_rfl) hd
  have := World.var?_cell hg hvar 15
  rw [Tok.TZ, this]
  have e : cs[15]? = (dbTab.map fun z => Value.int .u8 z)[15]? := by rw [← hcs, Array.getElem?_toList]
  rw [e]
  rfl
/-- A settled world, the listed variables holding what their initialisers lay. -/
noncomputable def laidWorld (os : Os) : World :=
  let w0 := World.holding Tryd.prog os ⟨#[], #[], []⟩
  let put (h : Array Obj) (g : Nat) (cs : Array Value) : Array Obj := h.modify g fun
    | .cells _ t frozen => .cells cs t frozen
    | o => o
  let h4 := put w0.heap 1 (((List.range 20).map fun i => Value.int .u64 ((10 ^ i : Nat) : Int))).toArray
  let h5 := put h4 2 (([0, 1, 28, 2, 29, 14, 24, 3, 30, 22, 20, 15, 25, 17, 4, 8, 31, 27, 13, 23, 21, 19, 16, 7, 26, 12, 18, 6, 11, 5, 10, 9] : List Int).map fun z => Value.int .u8 z).toArray
  let h6 := put h5 3 (dbTab.map fun z => Value.int .u8 z).toArray
  { w0 with heap := h6 }
theorem laid_met (os : Os) (args : Array Value) : laidMet Tryd.prog Rows.formatLiteralsRow.laid ((laidWorld os).forCall (fun _ _ => 0) ⟨#[], args, []⟩).memory :=
  (LaidIn.of_run (l := Rows.formatLiteralsRow.laid) [2, 3, 1] 8 (by kernel_rfl) (by kernel_rfl) (by kernel_rfl) (by kernel_rfl)).met
theorem tabs_of {W : World} (hL : laidMetH Tryd.prog Rows.formatLiteralsRow.laid W) : Tabs5 W := by
  have h5 := Lib.laidMet.reads (d := (Rows.laid_math_bits_deBruijn64tab : DataW Unit)) hL (.tail _ (.head _))
  rw [db_eq] at h5
  have hz := tz_of h5
  refine ⟨hz, ?_⟩
  rw [Tok.TZ] at hz
  exact World.block_lt_of_cell? W _ hz
set_option maxHeartbeats 4000000 in
theorem fewR5 {v : Value} {A : Arr} {w : World} (h : ArrAt w v A) : Calls Tryd.prog 7 #[v] w fun e w' => e = .returned (.bool (decide (wt A ≤ 400))) ∧ Below w.heap.size w w' := by
  obtain ⟨c0, c1, c2, c3, rfl⟩ : ∃ c0 c1 c2 c3 : Value, v = .agg #[c0, c1, c2, c3] := by
    obtain ⟨k, sh, nu, it⟩ := A
    rw [ArrAt] at h
    obtain ⟨sa, sc, na, nc, ia, ic, rfl, -⟩ := h
    exact ⟨_, _, _, _, rfl⟩
  have bw := below_new w (.cells #[c0, c1, c2, c3] 26)
  have q0 := Quad.new w c0 c1 c2 c3
  obtain ⟨p0, p1, p2, p3, -⟩ := q0.cells
  have cW := weightR _ _ _ (h.below bw)
  generalize wt A = x at *
  clear h
  go_enter Tryd.func7, Tryd.ntmps7
  go_wp2_with (go_at_call 17; (with_reducible refine cW.mono ?_); rintro e1 w1 ⟨rfl, b1⟩)
  go_ret
  exact ⟨rfl, Below.then bw b1⟩
end Go.Proofs.YtngcahaidlgkfaaDoor.Shape
