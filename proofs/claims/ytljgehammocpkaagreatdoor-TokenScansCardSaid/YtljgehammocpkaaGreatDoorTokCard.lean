/-
  Layer 8: what the laws' cards share: the listed variables as they are laid, a world that holds them, and what the walks read of them.
-/
import Derived.Test.YtljgehammocpkaaGreatDoorTokFmt
import Derived.Test.YtljgehammocpkaaGreatDoorTokPlain
import Derived.Test.YtljgehammocpkaaGreatDoorCards
import Derived.Test.YtljgehammocpkaaGreatDoorTie
import Derived.Lib.LaidIn
import Derived.Lib.LaidU8T
import Derived.Lib.LaidTab
import Derived.Stop.LaidErr
import Derived.Lib.LaidCaseMet
import Derived.PinnedBridge
import Derived.Deep.DeepHandedRow
import Derived.Deep.DeepWitnessRowRef
import Derived.SevenTiedAt
import Derived.ProofKit
import Derived.SizedLaws
namespace Go.Proofs.YtljgehammocpkaaGreatDoor.Tok
open Go.Shelf Go.RowKit Go.Lib
set_option linter.unusedVariables false
set_option maxRecDepth 100000

/-- What the walks read of the listed variables. -/
def Tabs8 (w : World) : Prop := Tabs w ∧ TZ w
theorem Tabs8.below {w w' : World} (h : Tabs8 w) (hb : Below w.heap.size w w') : Tabs8 w' := ⟨h.1.below hb, h.2.below hb⟩
theorem Tabs8.size {w : World} (h : Tabs8 w) : 7 < w.heap.size := by
  obtain ⟨tp, p, e⟩ := h.1.2
  exact World.block_lt_of_cell? w _ e
theorem acc_eq : (Rows.laid_unicode_utf8_acceptRanges : DataW Unit) = Lib.acceptData := by kernel_rfl
theorem first_eq : Rows.laid_unicode_utf8_first = Lib.firstData := Pinned.utf8First_eq
theorem case_eq : Rows.laid_unicode_CaseRanges = Lib.caseData := Pinned.caseRanges_eq
def dbTab : List Int := [0, 1, 56, 2, 57, 49, 28, 3, 61, 58, 42, 50, 38, 29, 17, 4, 62, 47, 59, 36, 45, 43, 51, 22, 53, 39, 33, 30, 24, 18, 12, 5, 63, 55, 48, 27, 60, 41, 37, 16, 46, 35, 44, 21, 52, 32, 23, 11, 54, 26, 40, 15, 34, 20, 31, 10, 25, 14, 19, 9, 13, 8, 7, 6]
theorem db_eq : (Rows.laid_math_bits_deBruijn64tab : DataW Unit) = Lib.tabData .u8 dbTab := by kernel_rfl
theorem tz_of {w : World} (h : VarReads Tryz.prog w "math/bits.deBruijn64tab" (Lib.tabData .u8 dbTab)) : TZ w := by
  obtain ⟨g, t, cs, fuel, p, hg, hty, hvar, hd⟩ := h
  obtain rfl := Option.some.inj ((show Tryz.prog.globalNamed "math/bits.deBruijn64tab" = some 10 by kernel_rfl).symm.trans hg)
  obtain rfl := Option.some.inj ((show (Tryz.prog.globals[10]?).map (·.type) = some 253 by kernel_rfl).symm.trans hty)
  have hcs := cells_of_tab Tryz.underlying253 Tryz.underlying5 (by kernel_rfl) (by kernel_rfl) hd
  have := World.var?_cell hg hvar 15
  rw [TZ, this]
  have e : cs[15]? = (dbTab.map fun z => Value.int .u8 z)[15]? := by rw [← hcs, Array.getElem?_toList]
  rw [e]
  rfl
/-- The last two of a list of variables, the other way round. -/
theorem laid_swap {P : Program} {w : World} {a b : String × DataW Unit} : ∀ {l : List (String × DataW Unit)} {ps : List MemPlace}, DataW.LaidVars P w (l ++ [a, b]) ps → ∃ ps', DataW.LaidVars P w (l ++ [b, a]) ps' ∧ ps'.Perm ps
  | [], ps, h => by
    obtain ⟨na, da⟩ := a
    obtain ⟨nb, db⟩ := b
    obtain ⟨g, t, cs, fuel, p, q, h1, h2, h3, h4, h5, rfl⟩ := h
    obtain ⟨g', t', cs', fuel', p', q', k1, k2, k3, k4, k5, rfl⟩ := h5
    cases k5
    refine ⟨_, ⟨g', t', cs', fuel', p', _, k1, k2, k3, k4, ⟨g, t, cs, fuel, p, _, h1, h2, h3, h4, rfl, rfl⟩, rfl⟩, ?_⟩
    simp only [List.append_nil]
    exact List.perm_append_comm
  | (n, d) :: r, ps, h => by
    obtain ⟨g, t, cs, fuel, p, q, h1, h2, h3, h4, h5, rfl⟩ := h
    obtain ⟨q', k1, k2⟩ := laid_swap h5
    exact ⟨_, ⟨g, t, cs, fuel, p, q', h1, h2, h3, h4, k1, rfl⟩, List.Perm.append_left _ k2⟩
theorem met_swap {P : Program} {w : World} {a b : String × DataW Unit} {l : List (String × DataW Unit)} (h : laidMet P (l ++ [a, b]) w) : laidMet P (l ++ [b, a]) w := by
  obtain ⟨ps, h1, h2, h3⟩ := h
  obtain ⟨ps', k1, k2⟩ := laid_swap h1
  exact ⟨ps', k1, k2.nodup_iff.2 h2, fun b off hp => h3 b off (k2.mem_iff.1 hp)⟩
theorem cardOwn : ownKnob Tryz.prog.godebug = none := by kernel_rfl
/-- A settled world with three blocks more, the listed variables holding what their initialisers lay. -/
noncomputable def laidWorld (os : Os) : World :=
  let N := (World.settled Tryz.prog os).heap.size
  let w0 := World.holding Tryz.prog os ⟨#[.cells Lib.caseCells5 (Tryz.lays159_ren.t 208), .cells #[.string ⟨#[118, 97, 108, 117, 101, 32, 111, 117, 116, 32, 111, 102, 32, 114, 97, 110, 103, 101]⟩] 256, .cells #[.string ⟨#[105, 110, 118, 97, 108, 105, 100, 32, 115, 121, 110, 116, 97, 120]⟩] 256], #[], []⟩
  let put (h : Array Obj) (g : Nat) (cs : Array Value) : Array Obj := h.modify g fun
    | .cells _ t frozen => .cells cs t frozen
    | o => o
  let h1 := put w0.heap 2 (Lib.firstTab.map fun z => Value.int .u8 z).toArray
  let h2 := put h1 3 ((List.range 16).flatMap fun i => [Value.int .u8 (Lib.accLo i), Value.int .u8 (Lib.accHi i)]).toArray
  let h3 := put h2 5 #[.slice (some ⟨N, 0, none⟩) 336 336]
  let h4 := put h3 6 (((List.range 20).map fun i => Value.int .u64 ((10 ^ i : Nat) : Int))).toArray
  let h5 := put h4 9 (([0, 1, 28, 2, 29, 14, 24, 3, 30, 22, 20, 15, 25, 17, 4, 8, 31, 27, 13, 23, 21, 19, 16, 7, 26, 12, 18, 6, 11, 5, 10, 9] : List Int).map fun z => Value.int .u8 z).toArray
  let h6 := put h5 10 (dbTab.map fun z => Value.int .u8 z).toArray
  let h7 := put h6 8 #[.iface 254 (.pointer (some ⟨N + 1, 0, none⟩))]
  let h8 := put h7 7 #[.iface 254 (.pointer (some ⟨N + 2, 0, none⟩))]
  { w0 with heap := h8 }
def smallL : List (String × DataW Unit) := [("math/bits.deBruijn32tab", Rows.laid_math_bits_deBruijn32tab), ("math/bits.deBruijn64tab", Rows.laid_math_bits_deBruijn64tab), ("internal/strconv.uint64pow10", Rows.laid_internal_strconv_uint64pow10), ("unicode/utf8.acceptRanges", Rows.laid_unicode_utf8_acceptRanges), ("strconv.ErrRange", Rows.laid_strconv_ErrRange), ("strconv.ErrSyntax", Rows.laid_strconv_ErrSyntax)]
theorem laid_met0 (os : Os) (args : Array Value) : laidMet Tryz.prog ((smallL ++ [("unicode/utf8.first", Rows.laid_unicode_utf8_first)]) ++ [("unicode.CaseRanges", Lib.caseData)]) ((laidWorld os).forCall (fun _ _ => 0) ⟨#[], args, []⟩).memory :=
  laidMet_with_case (ρ := Tryz.lays159_ren) { Tryz.lays159 with } Tryz.lays159.t206 ⟨by kernel_rfl, by kernel_rfl, by kernel_rfl, by kernel_rfl, by kernel_rfl, by kernel_rfl⟩
    (l := smallL ++ [("unicode/utf8.first", Rows.laid_unicode_utf8_first)])
    10 (by kernel_rfl) (by kernel_rfl) (by kernel_rfl) ((World.settled Tryz.prog default).heap.size) (Tryz.lays159_ren.t 208) (of_decide_eq_true (by kernel_rfl)) (by kernel_rfl) (by kernel_rfl) (by kernel_rfl)
theorem laid_met (os : Os) (args : Array Value) : laidMet Tryz.prog Rows.tokenScansRow.laid ((laidWorld os).forCall (fun _ _ => 0) ⟨#[], args, []⟩).memory := by
  have h : laidMet Tryz.prog (smallL ++ [("unicode/utf8.first", Rows.laid_unicode_utf8_first), ("unicode.CaseRanges", Rows.laid_unicode_CaseRanges)]) ((laidWorld os).forCall (fun _ _ => 0) ⟨#[], args, []⟩).memory := by
    rw [case_eq]
    exact laid_met0 os args
  exact met_swap h
theorem err_star : "*" ++ "errors.errorString" = "*errors.errorString" := by decide
theorem err_row (u : TypeId) (h : Tryz.prog.typeName? 3 u = some "*errors.errorString") : u = 254 :=
  typeName_ptr_named (nm := "errors.errorString") (by rw [err_star]; kernel_rfl) (by kernel_rfl) (by decide) u (by rw [err_star]; exact h)
theorem err_g : Tryz.prog.globalNamed "strconv.ErrSyntax" = some 7 := by kernel_rfl
theorem err_t : (Tryz.prog.globals[7]?).map (·.type) = some 119 := by kernel_rfl
theorem err_c : Tryz.prog.cellsOf 256 = 1 := by kernel_rfl
theorem err_s : Tryz.prog.cellsOf 9 = 1 := by kernel_rfl
theorem err_var {W : World} (hM : laidMet Tryz.prog Rows.tokenScansRow.laid W) : ∃ a, W.var? Tryz.prog "strconv.ErrSyntax" = some #[.iface 254 (.pointer (some a))] := by
  obtain ⟨a, _, ha, _, _, _⟩ := laid_sentinel hM.tail.tail.tail.tail.tail err_g err_t Tryz.underlying119 err_row Tryz.underlying254 Tryz.underlying256 rfl rfl Tryz.underlying9 err_c err_s
  exact ⟨a, ha⟩
theorem tabs_of {W : World} (hL : laidMetH Tryz.prog Rows.tokenScansRow.laid W) : Tabs8 W := by
  have h3 := Lib.laidMet.reads (d := Rows.laid_unicode_utf8_first) hL (.tail _ (.tail _ (.tail _ (.tail _ (.tail _ (.tail _ (.tail _ (.head _))))))))
  have h4 := Lib.laidMet.reads (d := (Rows.laid_unicode_utf8_acceptRanges : DataW Unit)) hL (.tail _ (.tail _ (.tail _ (.head _))))
  have h5 := Lib.laidMet.reads (d := (Rows.laid_math_bits_deBruijn64tab : DataW Unit)) hL (.tail _ (.head _))
  rw [first_eq] at h3
  rw [acc_eq] at h4
  rw [db_eq] at h5
  have hM : laidMet Tryz.prog Rows.tokenScansRow.laid W := hL
  obtain ⟨a, ha⟩ := err_var hM
  have hE : ES W := ⟨_, _, by have h0 := World.var?_cell (show Tryz.prog.globalNamed "strconv.ErrSyntax" = some 7 by kernel_rfl) ha 0; simpa using h0⟩
  exact ⟨⟨utf8Tabs_of_readsT (U8Types.of196 Tryz.laysValid) ⟨by kernel_rfl, by kernel_rfl, by kernel_rfl, by kernel_rfl, by kernel_rfl, by kernel_rfl, by kernel_rfl⟩ h3 h4, hE⟩, tz_of h5⟩
end Go.Proofs.YtljgehammocpkaaGreatDoor.Tok
