/-
  Layer 8: the examples of the chapter that each law asks. (Written by wip/gen/token-ex.py.)
-/
import Derived.Test.YtljgehammocpkaaGreatDoorTokResR
import Derived.Test.YtljgehammocpkaaGreatDoorTokScan
import Derived.Test.YtljgehammocpkaaGreatDoorTokSame
namespace Go.Proofs.YtljgehammocpkaaGreatDoor.Tok
open Go.RowKit
set_option linter.unusedVariables false
set_option linter.unusedSimpArgs false

theorem escOK_of {s : ByteArray} (h : ∀ j, j < s.size → inB s j 92 92 = false) : EscOK s := fun w b i hi h0 hq => by
  have := h (i - 1) (by omega)
  rw [this] at hq; cases hq
theorem cellsT_at : ∀ (l : List T5) (j : Nat) (hj : j < l.length) (i : Nat), i < 5 → (cellsT l)[j * 5 + i]? = (cells5 l[j])[i]?
  | x :: r, 0, hj, i, hi => by
    rw [cellsT, List.map_cons, List.flatten_cons, List.getElem?_append_left (by simp [cells5]; omega)]
    simp
  | x :: r, j + 1, hj, i, hi => by
    have ih := cellsT_at r j (by simpa using hj) i hi
    have e : (j + 1) * 5 + i = 5 + (j * 5 + i) := by omega
    rw [cellsT, List.map_cons, List.flatten_cons, e, List.getElem?_append_right (by simp [cells5])]
    have e2 : 5 + (j * 5 + i) - (cells5 x).length = j * 5 + i := by simp [cells5]
    rw [e2]
    exact ih
theorem Own.toks {B n c : Nat} {w : World} {a : Option Addr} {l : List T5} (h : Own B w (.slice a n c) l) : n = l.length ∧ ToksAt w a c l := by
  have hcell := fun g => World.ownsRow.cells (g := g) h
  rcases h.2 with ⟨e, hn⟩ | ⟨g, cap, cur, e, -, -, hcap, -⟩
  · simp only [Value.slice.injEq] at e
    obtain ⟨rfl, rfl, rfl⟩ := e
    refine ⟨hn.symm, by omega, 0, 0, fun q => absurd (List.length_eq_zero_iff.1 hn) q, fun j hj => absurd hj (by omega)⟩
  · simp only [Value.slice.injEq] at e
    obtain ⟨rfl, rfl, rfl⟩ := e
    refine ⟨rfl, hcap, g, 0, fun _ => rfl, fun j hj => ?_⟩
    have go : ∀ i u, i < 5 → (cells5 l[j])[i]? = some u → w.cell? ⟨g, 0 + j * 5 + i, none⟩ = some u := fun i u hi hu => by
      have := hcell g rfl (j * 5 + i) u (by rw [cellsT_at l j hj i hi]; exact hu)
      rw [add_plain] at this
      rw [Nat.zero_add] at this ⊢
      exact this
    exact ⟨go 0 _ (by decide) rfl, go 1 _ (by decide) rfl, go 2 _ (by decide) rfl, go 3 _ (by decide) rfl, go 4 _ (by decide) rfl⟩
theorem block_toks {w : World} {g : Nat} {l : List T5} {cs : Array Value} {fz : Nat × Nat} (h : w.heap[g]? = some (.cells cs 62 fz)) (hc : cs.toList = cellsT l) : TokCells w g 0 l := fun j hj => by
  have go : ∀ i u, i < 5 → (cells5 l[j])[i]? = some u → w.cell? ⟨g, 0 + j * 5 + i, none⟩ = some u := fun i u hi hu => by
    have e := cellsT_at l j hj i hi
    rw [hu, ← hc] at e
    simp only [World.cell?, h, Option.isSome_none]
    rw [Nat.zero_add]
    simpa using e
  exact ⟨go 0 _ (by decide) rfl, go 1 _ (by decide) rfl, go 2 _ (by decide) rfl, go 3 _ (by decide) rfl, go 4 _ (by decide) rfl⟩
theorem ex_s1 : scanS ⟨#[120, 32, 60, 45, 32, 95, 49, 50]⟩ = .ok [⟨4, 0, 1, 0, ⟨#[120]⟩⟩, ⟨5, 2, 2, 0, ⟨#[60, 45]⟩⟩, ⟨1, 5, 3, -12, ⟨#[]⟩⟩] := by kernel_rfl
theorem ex_s2 : scanS ⟨#[39, 97, 98, 39]⟩ = .bad 3 0 := by kernel_rfl
theorem ex_s3 : scanS ⟨#[49, 50, 97]⟩ = .bad 4 0 := by kernel_rfl
theorem ex_s4 : scanS ⟨#[34, 97]⟩ = .bad 5 0 := by kernel_rfl
theorem ex_sh : showS [⟨3, 0, 0, 0, ⟨#[34, 7]⟩⟩] = [34, 92, 34, 92, 117, 123, 55, 125, 34] := by kernel_rfl
theorem ex_r1 : resB (⟨#[115, 101, 108, 102]⟩ : ByteArray).toList = true := by rw [ByteArray.toList_eq]; decide
theorem ex_r2 : resB (⟨#[115, 101, 108, 102, 115]⟩ : ByteArray).toList = false := by rw [ByteArray.toList_eq]; decide
theorem scan1 (w : World) (hw2 : 7 < w.heap.size) (hT : Tabs w) : Calls Tryz.prog 11 #[.string ⟨#[120, 32, 60, 45, 32, 95, 49, 50]⟩] w fun e w' => ∃ a c, e = .returned (.tuple #[.slice a 3 c, .agg #[.int .i64 0, .int .i64 0, .slice none 0 0, .slice none 0 0, .string ⟨#[]⟩]]) ∧ ToksAt w' a c [⟨4, 0, 1, 0, ⟨#[120]⟩⟩, ⟨5, 2, 2, 0, ⟨#[60, 45]⟩⟩, ⟨1, 5, 3, -12, ⟨#[]⟩⟩] ∧ Below w.heap.size w w' :=
  (scanQ ⟨#[120, 32, 60, 45, 32, 95, 49, 50]⟩ (by decide) (escOK_of (by decide)) w hw2 hT).mono fun e w' q => by
    rw [ex_s1] at q
    obtain ⟨hb, v, rfl, ho⟩ := q
    obtain ⟨a, c, rfl⟩ := ho.form
    exact ⟨a, c, rfl, ho.toks.2, hb⟩
theorem scan2 (w : World) (hw2 : 7 < w.heap.size) (hT : Tabs w) : Calls Tryz.prog 11 #[.string ⟨#[39, 97, 98, 39]⟩] w fun e w' => e = .returned (.tuple #[.slice none 0 0, .agg #[.int .i64 3, .int .i64 0, .slice none 0 0, .slice none 0 0, .string ⟨#[]⟩]]) ∧ Below w.heap.size w w' :=
  (scanQ ⟨#[39, 97, 98, 39]⟩ (by decide) (escOK_of (by decide)) w hw2 hT).mono fun e w' q => by
    rw [ex_s2] at q
    exact ⟨q.2, q.1⟩
theorem scan3 (w : World) (hw2 : 7 < w.heap.size) (hT : Tabs w) : Calls Tryz.prog 11 #[.string ⟨#[49, 50, 97]⟩] w fun e w' => e = .returned (.tuple #[.slice none 0 0, .agg #[.int .i64 4, .int .i64 0, .slice none 0 0, .slice none 0 0, .string ⟨#[]⟩]]) ∧ Below w.heap.size w w' :=
  (scanQ ⟨#[49, 50, 97]⟩ (by decide) (escOK_of (by decide)) w hw2 hT).mono fun e w' q => by
    rw [ex_s3] at q
    exact ⟨q.2, q.1⟩
theorem scan4 (w : World) (hw2 : 7 < w.heap.size) (hT : Tabs w) : Calls Tryz.prog 11 #[.string ⟨#[34, 97]⟩] w fun e w' => e = .returned (.tuple #[.slice none 0 0, .agg #[.int .i64 5, .int .i64 0, .slice none 0 0, .slice none 0 0, .string ⟨#[]⟩]]) ∧ Below w.heap.size w w' :=
  (scanQ ⟨#[34, 97]⟩ (by decide) (escOK_of (by decide)) w hw2 hT).mono fun e w' q => by
    rw [ex_s4] at q
    exact ⟨q.2, q.1⟩
theorem res1 (w : World) : Calls Tryz.prog 31 #[.string ⟨#[115, 101, 108, 102]⟩] w fun e w' => e = .returned (.bool true) ∧ w = w' := by
  have := reservedQ ⟨#[115, 101, 108, 102]⟩ w
  rw [ex_r1] at this; exact this
theorem res2 (w : World) : Calls Tryz.prog 31 #[.string ⟨#[115, 101, 108, 102, 115]⟩] w fun e w' => e = .returned (.bool false) ∧ w = w' := by
  have := reservedQ ⟨#[115, 101, 108, 102, 115]⟩ w
  rw [ex_r2] at this; exact this
theorem show1 (w : World) (g : Nat) (hT : Tabs w) (hZ : TZ w) (hc : TokCells w g 0 [⟨3, 0, 0, 0, ⟨#[34, 7]⟩⟩]) : Calls Tryz.prog 30 #[.slice (some ⟨g, 0, none⟩) 1 1] w fun e w' => e = .returned (.string ⟨#[34, 92, 34, 92, 117, 123, 55, 125, 34]⟩) ∧ Below w.heap.size w w' := by
  have := ShowQ [⟨3, 0, 0, 0, ⟨#[34, 7]⟩⟩] (some ⟨g, 0, none⟩) 1 g 0 w hT hZ (by decide) (by decide) (fun _ => rfl) hc (fun x hx => by
    rw [List.mem_singleton] at hx
    subst hx
    exact ⟨⟨by decide, by decide⟩, by decide⟩) (by rw [ex_sh]; decide)
  rw [ex_sh] at this
  exact this
end Go.Proofs.YtljgehammocpkaaGreatDoor.Tok
