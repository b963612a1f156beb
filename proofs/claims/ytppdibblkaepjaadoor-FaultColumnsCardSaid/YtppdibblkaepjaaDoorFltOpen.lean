/-
  Layer 7: an argument that is a fault, as the row's reading gives it; the program's table, as the row lists it.
-/
import Derived.Test.YtppdibblkaepjaaDoorFltKnows
import Derived.Test.YtppdibblkaepjaaDoorIntsOpen
import Derived.Test.YtppdibblkaepjaaDoorCards
import Derived.Test.YtppdibblkaepjaaDoorTie
import Derived.ProofKit
import Derived.Deep.DeepHandedRow
import Derived.Deep.DeepWitnessRowRef
import Derived.SevenTiedAt
import Derived.Lib.LaidTab
import Derived.Lib.LaidIn
import Derived.Lib.SmallJoins
import Derived.SizedLaws
namespace Go.Proofs.YtppdibblkaepjaaDoor.Flt
open Go.ChangeShapes Go.WideShapes Go.ChangeAt Go.RowKit Go.Joins Go.Proofs.YtppdibblkaepjaaDoor.Shape
set_option linter.unusedVariables false

/-! ### A fault that came in -/
theorem bulk_len {H : Type} : ∀ l : List (DataW H), l.length ≤ Rows.uptoBulkAll l
  | [] => by simp
  | d :: r => by
    have h1 : 1 ≤ Rows.uptoBulk d := by cases d with
      | lit l => cases l <;> simp [Rows.uptoBulk]
      | _ => simp [Rows.uptoBulk]
    have h2 := bulk_len r
    simp only [Rows.uptoBulkAll, List.length_cons]
    omega
theorem bulk_part {H : Type} {d : DataW H} : ∀ {l : List (DataW H)}, d ∈ l → Rows.uptoBulk d ≤ Rows.uptoBulkAll l
  | [], h => by cases h
  | x :: r, h => by
    simp only [Rows.uptoBulkAll]
    rcases List.mem_cons.1 h with rfl | h
    · omega
    · have := bulk_part h; omega
theorem ints_cellB {H : Type} {enc : TypeId × Value → H} {W : World} {fuel : Nat} {c : Value} {x : DataW H × List MemPlace}
    (hf : DataW.trod enc Tryd.prog W 0 (fun _ => true) true fuel 29 [c] = some x) :
    ∃ a cap xs, c = .slice a (List.length xs) cap ∧ IntsAt W a cap xs ∧ xs.length ≤ Rows.uptoBulk x.1 := by
  rcases open_ints Tryd.underlying29 Tryd.underlying3 (by kernel_rfl) hf with ⟨hcs, _⟩ | ⟨x0, l, c0, zs, hcs, _, hl, hm, hz, hx, hcell, hwz⟩
  · simp only [List.cons.injEq, and_true] at hcs
    exact ⟨none, 0, [], hcs, ⟨Nat.zero_le _, by decide, fun x hx => absurd hx (by simp), 0, 0, fun hn => absurd rfl hn, fun i hi => absurd hi (by simp)⟩, by simp⟩
  · simp only [List.cons.injEq, and_true] at hcs
    have hz' : zs.length = c0 := by simpa using hz
    have hlen : (zs.take l).length = l := by rw [List.length_take, Nat.min_eq_left (by omega)]
    have hb : ∀ y ∈ zs.take l, -9223372036854775808 ≤ y ∧ y ≤ 9223372036854775807 := fun y hy => i64_bd (hwz y (List.mem_of_mem_take hy))
    obtain ⟨b, off, spot⟩ := x0
    refine ⟨some ⟨b, off, spot⟩, c0, zs.take l, by rw [hlen]; exact hcs, ⟨by omega, by unfold maxLen at hm; omega, hb, ?_⟩, ?_⟩
    rotate_left
    · rw [hx]
      simp only [Rows.uptoBulk]
      have h1 := bulk_len (H := H) (lits .i64 (zs.take l))
      simp only [lits, List.length_map] at h1
      refine Nat.le_trans h1 ?_
      simp only [lits]
      omega
    by_cases h0 : l = 0
    · subst h0
      exact ⟨0, 0, fun hn => absurd (by simp) hn, fun i hi => by simp at hi⟩
    · have hc := hcell 0 (by omega)
      have hspot : spot = none := by simpa [Addr.add] using World.cell?_spot hc
      subst hspot
      refine ⟨b, off, fun _ => rfl, fun i hi => ?_⟩
      have hi' : i < zs.length := by omega
      have := hcell i hi'
      rw [Shape.add_plain] at this
      rw [this]
      simp [hi']
theorem cellsFlt : Tryd.prog.cellsOf 31 = 5 := by kernel_rfl
theorem cellsOne : Tryd.prog.cellsOf 23 = 1 ∧ Tryd.prog.cellsOf 3 = 1 ∧ Tryd.prog.cellsOf 29 = 1 ∧ Tryd.prog.cellsOf 9 = 1 := ⟨by kernel_rfl, by kernel_rfl, by kernel_rfl, by kernel_rfl⟩
theorem flt_open {H : Type} {enc : TypeId × Value → H} {W : World} {base : Nat} {v : Value} {d : DataW H} {ps : List MemPlace}
    (hok : Value.okWide Tryd.prog W .any base 31 v) (hj : DataW.Trod enc Tryd.prog W 0 (fun _ => true) true 31 v d ps) :
    ∃ (k n : Int) (la : Option Addr) (lc : Nat) (L : List Int) (ra : Option Addr) (rc : Nat) (R : List Int) (nm : ByteArray), v = fltV k n la L.length lc ra R.length rc nm ∧ IntsAt W la lc L ∧ IntsAt W ra rc R ∧
      (-9223372036854775808 ≤ n ∧ n ≤ 9223372036854775807) ∧ nm.size ≤ 9223372036854775807 ∧ L.length ≤ Rows.uptoBulk d ∧ R.length ≤ Rows.uptoBulk d ∧ nm.size ≤ Rows.uptoBulk d := by
  obtain ⟨cs, rfl, hsz⟩ := okWide_struct Tryd.underlying31 hok
  obtain ⟨l⟩ := cs
  obtain ⟨c0, c1, c2, c3, c4, rfl⟩ : ∃ c0 c1 c2 c3 c4, l = [c0, c1, c2, c3, c4] := by
    have h5 : l.length = 5 := hsz.trans cellsFlt
    match l, h5 with
    | [c0, c1, c2, c3, c4], _ => exact ⟨c0, c1, c2, c3, c4, rfl⟩
  obtain ⟨fuel, h⟩ := hj
  have h' : DataW.trod enc Tryd.prog W 0 (fun _ => true) true fuel 31 [c0, c1, c2, c3, c4] = some (d, ps) := h
  obtain ⟨xs, n, hfu, hx, hl, hlen, hf⟩ := DataW.trod_struct Tryd.underlying31 h'
  have hlen5 : xs.length = 5 := hlen
  obtain ⟨y0, y1, y2, y3, y4, rfl⟩ : ∃ y0 y1 y2 y3 y4, xs = [y0, y1, y2, y3, y4] := by
    match xs, hlen5 with
    | [y0, y1, y2, y3, y4], _ => exact ⟨y0, y1, y2, y3, y4, rfl⟩
  obtain ⟨n0, n1, n2, n3⟩ := cellsOne
  have f0 : DataW.trod enc Tryd.prog W 0 (fun _ => true) true n 23 (([c0, c1, c2, c3, c4].drop 0).take (Tryd.prog.cellsOf 23)) = some y0 := hf 0 _ rfl
  have f1 : DataW.trod enc Tryd.prog W 0 (fun _ => true) true n 3 (([c0, c1, c2, c3, c4].drop 1).take (Tryd.prog.cellsOf 3)) = some y1 := hf 1 _ rfl
  have f2 : DataW.trod enc Tryd.prog W 0 (fun _ => true) true n 29 (([c0, c1, c2, c3, c4].drop 2).take (Tryd.prog.cellsOf 29)) = some y2 := hf 2 _ rfl
  have f3 : DataW.trod enc Tryd.prog W 0 (fun _ => true) true n 29 (([c0, c1, c2, c3, c4].drop 3).take (Tryd.prog.cellsOf 29)) = some y3 := hf 3 _ rfl
  have f4 : DataW.trod enc Tryd.prog W 0 (fun _ => true) true n 9 (([c0, c1, c2, c3, c4].drop 4).take (Tryd.prog.cellsOf 9)) = some y4 := hf 4 _ rfl
  rw [n0] at f0
  rw [n1] at f1
  rw [n2] at f2 f3
  rw [n3] at f4
  have g0 : DataW.trod enc Tryd.prog W 0 (fun _ => true) true n 23 [c0] = some y0 := f0
  have g1 : DataW.trod enc Tryd.prog W 0 (fun _ => true) true n 3 [c1] = some y1 := f1
  have g2 : DataW.trod enc Tryd.prog W 0 (fun _ => true) true n 29 [c2] = some y2 := f2
  have g3 : DataW.trod enc Tryd.prog W 0 (fun _ => true) true n 29 [c3] = some y3 := f3
  have g4 : DataW.trod enc Tryd.prog W 0 (fun _ => true) true n 9 [c4] = some y4 := f4
  obtain ⟨k, e0, _, wk⟩ := DataW.trod_int Tryd.underlying23 g0
  obtain ⟨m, e1, _, wm⟩ := DataW.trod_int Tryd.underlying3 g1
  obtain ⟨la, lc, L, e2, hL, zL⟩ := ints_cellB g2
  obtain ⟨ra, rc, R, e3, hR, zR⟩ := ints_cellB g3
  obtain ⟨nm, e4, e5, wn⟩ := DataW.trod_string Tryd.underlying9 g4
  simp only [List.cons.injEq, and_true] at e0 e1 e4
  subst e0 e1 e2 e3 e4
  have hd : d = .agg [y0.1, y1.1, y2.1, y3.1, y4.1] := by
    have := congrArg Prod.fst hx
    simpa using this
  have b2 : Rows.uptoBulk y2.1 ≤ Rows.uptoBulkAll [y0.1, y1.1, y2.1, y3.1, y4.1] := bulk_part (by simp)
  have b3 : Rows.uptoBulk y3.1 ≤ Rows.uptoBulkAll [y0.1, y1.1, y2.1, y3.1, y4.1] := bulk_part (by simp)
  have b4 : Rows.uptoBulk y4.1 ≤ Rows.uptoBulkAll [y0.1, y1.1, y2.1, y3.1, y4.1] := bulk_part (by simp)
  have b5 : nm.size ≤ Rows.uptoBulk y4.1 := by
    rw [e5]
    simp only [Rows.uptoBulk]
    have : nm.data.toList.length = nm.size := by simp
    omega
  have bd : Rows.uptoBulk d = Rows.uptoBulkAll [y0.1, y1.1, y2.1, y3.1, y4.1] + 1 := by rw [hd]; simp only [Rows.uptoBulk]
  exact ⟨k, m, la, lc, L, ra, rc, R, nm, rfl, hL, hR, i64_bd wm, by unfold maxLen at wn; omega, by omega, by omega, by omega⟩

/-! ### The program's table -/
def strData {H : Type} (ss : List ByteArray) : DataW H := .agg (ss.map fun s => .lit (.string s.data.toList))
theorem cells_of_strs {H : Type} {enc : TypeId × Value → H} {P : Program} {w : World} {base : Nat} {sp : Nat → Bool} {held : Bool} {fuel : Nat} {t e : TypeId} {n : Nat} {cs : List Value} {ss : List ByteArray} {p : List MemPlace}
    (ht : P.underlying t = some (.array n e)) (he : P.underlying e = some .string) (hce : P.cellsOf e = 1) (hct : P.cellsOf t = n)
    (h : DataW.trod enc P w base sp held fuel t cs = some (strData ss, p)) : cs = ss.map Value.string := by
  cases fuel with
  | zero => simp [DataW.trod] at h
  | succ fuel =>
    simp only [DataW.trod, ht, hce, hct, Nat.mul_one] at h
    split at h
    · rename_i hl
      obtain ⟨xs, hm, hx⟩ := Option.map_eq_some_iff.1 h
      have hxs : xs.map (·.1) = ss.map fun s => (DataW.lit (.string s.data.toList) : DataW H) := by
        have := congrArg Prod.fst hx
        simpa [strData] using this
      have hxl : xs.length = n := by simpa using Lib.mapM_length hm
      have hzl : ss.length = n := by
        have := congrArg List.length hxs
        simp at this
        omega
      apply List.ext_getElem?
      intro i
      by_cases hi : i < n
      · obtain ⟨b, hb, hf⟩ := Lib.mapM_at hm i i (by simp [hi])
        obtain ⟨s, hc, rfl, _⟩ := DataW.trod_string he hf
        have h1 : cs[i]? = some (.string s) := by
          have := congrArg (·[0]?) hc
          simpa [List.getElem?_take, List.getElem?_drop] using this
        have h2 : (xs.map (·.1))[i]? = some (DataW.lit (.string s.data.toList) : DataW H) := by simp [hb]
        rw [hxs] at h2
        simp only [List.getElem?_map, Option.map_eq_some_iff, DataW.lit.injEq, Lit.string.injEq] at h2
        obtain ⟨s', hs', e⟩ := h2
        have : s' = s := by
          obtain ⟨⟨a⟩⟩ := s
          obtain ⟨⟨b⟩⟩ := s'
          simp only at e
          rw [e]
        subst this
        simp [h1, hs']
      · rw [List.getElem?_eq_none (by omega), List.getElem?_eq_none (by simp; omega)]
    · cases h
theorem gWords : Tryd.prog.globalNamed "arraylang/fault.words" = some 0 := by kernel_rfl
theorem gWordsType : (Tryd.prog.globals[0]?).map (·.type) = some 35 := by kernel_rfl
theorem cellsWords : Tryd.prog.cellsOf 35 = 29 := by kernel_rfl
theorem words_eq : (Rows.laid_arraylang_fault_words : DataW Unit) = strData wT := by kernel_rfl
theorem tabs_of {W : World} (h : laidMetH Tryd.prog Rows.faultWordsRow.laid W) : TabW W := by
  have h' : laidMet Tryd.prog [("arraylang/fault.words", strData wT)] W := by rw [← words_eq]; exact h
  obtain ⟨ps, ⟨g', t', cs, fuel, p, q, hg', ht', hvar, hd, _, _⟩, _⟩ := h'
  obtain rfl := Option.some.inj (gWords.symm.trans hg')
  obtain rfl := Option.some.inj (gWordsType.symm.trans ht')
  have e := cells_of_strs Tryd.underlying35 Tryd.underlying9 cellsOne.2.2.2 cellsWords hd
  intro j hj
  have hc := World.var?_cell gWords hvar j
  have hj' : j < wT.length := hj
  rw [hc]
  have e2 : cs = (wT.map Value.string).toArray := by rw [← e]
  rw [e2]
  simp [hj']
theorem cardOwn : ownKnob Tryd.prog.godebug = none := by kernel_rfl
theorem laidOut : laidOutB Tryd.prog = true := by kernel_rfl
/-- A world for the witness: the settled one, the table holding what its initialiser lays. -/
noncomputable def laidWorld (os : Os) : World :=
  { World.holding Tryd.prog os ⟨#[], #[], []⟩ with heap := (World.holding Tryd.prog os ⟨#[], #[], []⟩).heap.modify 0 fun
      | .cells _ t frozen => .cells (wT.map Value.string).toArray t frozen
      | o => o }
theorem laid_met (os : Os) (args : Array Value) : laidMet Tryd.prog Rows.faultWordsRow.laid ((laidWorld os).forCall (fun _ _ => 0) ⟨#[], args, []⟩).memory :=
  laidMet_of_run' 40 (by kernel_rfl) (by kernel_rfl)
end Go.Proofs.YtppdibblkaepjaaDoor.Flt
