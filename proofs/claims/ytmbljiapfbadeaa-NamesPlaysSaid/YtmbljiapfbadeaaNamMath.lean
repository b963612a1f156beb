/-
  Layer 11: what a scope knows, as plain data; its block and its map in memory.
-/
import Derived.Test.YtmbljiapfbadeaaProg
import Derived.OwnWalk
import Derived.Maps.OwnSet
import Derived.Maps.RangeWalk
import Derived.Maps.AppendAt
import Derived.Deep.RegionHeld3
import Derived.Deep.RegionLaw
import Derived.RegionTactic
import Derived.Handy
import Derived.Below
namespace Go.Proofs.Ytmbljiapfbadeaa.Nam
open Go.RowKit Go.Maps
set_option linter.unusedVariables false

theorem Below.then {a b c : World} (h : Below a.heap.size a b) (k : Below b.heap.size b c) : Below a.heap.size a c := h.trans (k.mono h.size)
theorem below_new (w : World) (o : Obj) : Below w.heap.size w (w.alloc o) := (Below.refl _ _).alloc (Nat.le_refl _) _
theorem heap_alloc_new (w : World) (o : Obj) : (w.alloc o).heap[w.heap.size]? = some o := by
  show (w.heap.push o)[w.heap.size]? = _
  simp
/-- All blocks stand, save one. -/
structure But (b : Nat) (w w' : World) : Prop where
  os : w'.os = w.os
  tape : w'.tape = w.tape
  output : w'.output = w.output
  size : w.heap.size ≤ w'.heap.size
  block : ∀ k, k < w.heap.size → k ≠ b → w'.heap[k]? = w.heap[k]?
theorem But.refl (b : Nat) (w : World) : But b w w := ⟨rfl, rfl, rfl, Nat.le_refl _, fun _ _ _ => rfl⟩
theorem But.trans {b : Nat} {u v w : World} (h : But b u v) (k : But b v w) : But b u w :=
  ⟨k.os.trans h.os, k.tape.trans h.tape, k.output.trans h.output, Nat.le_trans h.size k.size, fun n hn hb => (k.block n (Nat.lt_of_lt_of_le hn h.size) hb).trans (h.block n hn hb)⟩
theorem But.of {b : Nat} {w w' : World} (h : Below w.heap.size w w') : But b w w' := ⟨h.os, h.tape, h.output, h.size, fun k hk _ => h.block k hk⟩
theorem But.grown {b : Nat} {w w' : World} (h : w.grownBy w' (some b)) : But b w w' := ⟨h.os, h.tape, h.output, h.size, fun k hk hb => h.block k hk (fun e => hb (Option.some.inj e))⟩
theorem But.drew {b : Nat} {a w : World} (h : But b a w) : But b a w.drew := ⟨h.os, h.tape, h.output, h.size, h.block⟩
theorem But.below {b B : Nat} {W w w' : World} (h : But b w w') (hb : B ≤ b) (hW : B ≤ W.heap.size) (hB : Below B W w) : Below B W w' :=
  ⟨h.os.trans hB.os, h.tape.trans hB.tape, h.output.trans hB.output, Nat.le_trans hB.size h.size, fun k hk => (h.block k (Nat.lt_of_lt_of_le hk (by have := hB.size; omega)) (by omega)).trans (hB.block k hk)⟩

/-! ### Names and classes -/
/-- A definition: its name and its class. -/
abbrev Def := ByteArray × Int
def kl (s : ByteArray) : Lit := .string s.data.toList
theorem kl_inj {s t : ByteArray} (h : kl s = kl t) : s = t := by
  have h1 : s.data.toList = t.data.toList := by simpa [kl] using h
  exact ByteArray.ext (Array.toList_inj.1 h1)
theorem kl_key (s : ByteArray) : WideAt.IsKeyLit (kl s) := trivial
def dE (c p : Int) : DataW Unit := .agg [.lit (.int .i64 c), .lit (.int .i64 p)]
theorem dE_inj {c p c' p' : Int} (h : dE c p = dE c' p') : c = c' ∧ p = p' := by simpa [dE] using h
/-- How the map's elements read: a class and a place. -/
def defR : Value → Option (DataW Unit × List MemPlace)
  | .agg cs => match cs.toList with
    | [.int .i64 c, .int .i64 p] => some (dE c p, [])
    | _ => none
  | _ => none
theorem defR_mk (c p : Int) : defR (.agg #[.int .i64 c, .int .i64 p]) = some (dE c p, []) := rfl
theorem defR_inv {v : Value} {y : DataW Unit × List MemPlace} (h : defR v = some y) : ∃ x : Int × Int, v = .agg #[.int .i64 x.1, .int .i64 x.2] ∧ y = (dE x.1 x.2, []) := by
  unfold defR at h
  split at h
  · rename_i cs
    split at h
    · rename_i c p e
      have e2 : cs = #[.int .i64 c, .int .i64 p] := Array.toList_inj.1 e
      exact ⟨(c, p), by rw [e2], by simpa using h.symm⟩
    · cases h
  · cases h
/-- The map's datum behind the first n definitions. -/
def datTo (ds : List Def) : Nat → DataW Unit
  | 0 => .map []
  | n + 1 => (datTo ds n).put (kl (ds.getD n (⟨#[]⟩, 0)).1) (dE (ds.getD n (⟨#[]⟩, 0)).2 n)
def dat (ds : List Def) : DataW Unit := datTo ds ds.length
theorem getD_app {ds : List Def} {x z : Def} {i : Nat} (h : i < ds.length) : (ds ++ [x]).getD i z = ds.getD i z := by
  simp [List.getD_eq_getElem?_getD, List.getElem?_append_left h]
theorem datTo_app (ds : List Def) (x : Def) : ∀ n, n ≤ ds.length → datTo (ds ++ [x]) n = datTo ds n
  | 0, _ => rfl
  | n + 1, h => by rw [datTo, datTo, datTo_app ds x n (by omega), getD_app (by omega)]
theorem dat_app (ds : List Def) (x : Def) : dat (ds ++ [x]) = (dat ds).put (kl x.1) (dE x.2 ds.length) := by
  unfold dat
  rw [List.length_append, List.length_singleton, datTo, datTo_app ds x _ (Nat.le_refl _)]
  simp [List.getD_eq_getElem?_getD]
theorem datTo_map (ds : List Def) : ∀ n, IsMap (datTo ds n)
  | 0 => isMap_empty
  | n + 1 => (datTo_map ds n).put _ _
def Uniq (ds : List Def) : Prop := ∀ i j (hi : i < ds.length) (hj : j < ds.length), ds[i].1 = ds[j].1 → i = j
theorem uniq_nil : Uniq [] := fun i j hi => absurd hi (by simp)
theorem getD_lt {ds : List Def} {i : Nat} {z : Def} (h : i < ds.length) : ds.getD i z = ds[i] := by
  simp [List.getD_eq_getElem?_getD, List.getElem?_eq_getElem h]
theorem datTo_has (ds : List Def) (s : ByteArray) : ∀ n, n ≤ ds.length → (has (datTo ds n) (kl s) = true ↔ ∃ i, ∃ h : i < ds.length, i < n ∧ ds[i].1 = s)
  | 0, _ => ⟨fun h => (by simp [datTo, has] at h), fun ⟨i, _, h, _⟩ => absurd h (by omega)⟩
  | n + 1, h => by
    rw [datTo, getD_lt (by omega)]
    have ih := datTo_has ds s n (by omega)
    by_cases e : kl s = kl ds[n].1
    · rw [e, has_put_same (datTo_map ds n) (kl_key _)]
      exact ⟨fun _ => ⟨n, by omega, by omega, (kl_inj e).symm⟩, fun _ => rfl⟩
    · rw [has_put_other e, ih]
      refine ⟨fun ⟨i, h1, h2, h3⟩ => ⟨i, h1, by omega, h3⟩, fun ⟨i, h1, h2, h3⟩ => ⟨i, h1, ?_, h3⟩⟩
      rcases Nat.lt_or_ge i n with h4 | h4
      · exact h4
      · obtain rfl : i = n := by omega
        exact absurd (by rw [h3]) e
theorem datTo_at (ds : List Def) (hu : Uniq ds) (z : DataW Unit) : ∀ n, n ≤ ds.length → ∀ i (h : i < ds.length), i < n → (datTo ds n).atKey (kl ds[i].1) z = dE ds[i].2 i
  | 0, _, i, _, h => absurd h (by omega)
  | n + 1, hn, i, hi, h => by
    rw [datTo, getD_lt (by omega)]
    by_cases e : i = n
    · subst e
      rw [atKey_put_same (datTo_map ds i) (kl_key _)]
    · rw [atKey_put_other (fun q => e (hu i n hi (by omega) (kl_inj q)))]
      exact datTo_at ds hu z n (by omega) i hi (by omega)
/-- Where a name is defined. -/
def pos (ds : List Def) (s : ByteArray) : Option Nat := ds.findIdx? fun x => decide (x.1 = s)
theorem pos_some {ds : List Def} {s : ByteArray} {j : Nat} (h : pos ds s = some j) : ∃ hj : j < ds.length, ds[j].1 = s ∧ ∀ i (hi : i < j), ds[i].1 ≠ s := by
  obtain ⟨hj, h1, h2⟩ := List.findIdx?_eq_some_iff_getElem.1 h
  exact ⟨hj, by simpa using h1, fun i hi => by simpa using h2 i hi⟩
theorem pos_none {ds : List Def} {s : ByteArray} (h : pos ds s = none) : ∀ i (hi : i < ds.length), ds[i].1 ≠ s := fun i hi e => by
  have := List.findIdx?_eq_none_iff.1 h ds[i] (List.getElem_mem hi)
  simp [e] at this
theorem has_pos {ds : List Def} {s : ByteArray} : has (dat ds) (kl s) = (pos ds s).isSome := by
  cases h : pos ds s with
  | some j =>
    obtain ⟨hj, h1, _⟩ := pos_some h
    exact (datTo_has ds s ds.length (Nat.le_refl _)).2 ⟨j, hj, hj, h1⟩
  | none =>
    cases e : has (dat ds) (kl s) with
    | false => rfl
    | true =>
      obtain ⟨i, hi, _, h1⟩ := (datTo_has ds s ds.length (Nat.le_refl _)).1 e
      exact absurd h1 (pos_none h i hi)
theorem at_pos {ds : List Def} (hu : Uniq ds) {s : ByteArray} {j : Nat} (h : pos ds s = some j) (z : DataW Unit) : (dat ds).atKey (kl s) z = dE (ds.getD j (⟨#[]⟩, 0)).2 j := by
  obtain ⟨hj, h1, _⟩ := pos_some h
  rw [getD_lt hj, ← h1]
  exact datTo_at ds hu z ds.length (Nat.le_refl _) j hj hj
theorem uniq_app {ds : List Def} (hu : Uniq ds) {s : ByteArray} (c : Int) (h : pos ds s = none) : Uniq (ds ++ [(s, c)]) := by
  have hn := pos_none h
  intro i j hi hj e
  rw [List.length_append, List.length_singleton] at hi hj
  rcases Nat.lt_or_ge i ds.length with h1 | h1 <;> rcases Nat.lt_or_ge j ds.length with h2 | h2
  · rw [List.getElem_append_left h1, List.getElem_append_left h2] at e
    exact hu i j h1 h2 e
  · rw [List.getElem_append_left h1, List.getElem_append_right h2] at e
    exact absurd (by simpa using e) (hn i h1)
  · rw [List.getElem_append_right h1, List.getElem_append_left h2] at e
    exact absurd (by simpa using e.symm) (hn j h2)
  · omega

/-! ### Valid names and what Define answers -/
def isL (s : ByteArray) (i : Nat) : Bool := if h : i < s.size then decide (97 ≤ (s[i].toNat : Int) ∧ (s[i].toNat : Int) ≤ 122) else false
def isD (s : ByteArray) (i : Nat) : Bool := if h : i < s.size then decide (48 ≤ (s[i].toNat : Int) ∧ (s[i].toNat : Int) ≤ 57) else false
def okName (s : ByteArray) : Bool := decide (1 ≤ s.size ∧ s.size ≤ 32) && isL s 0 && (List.range s.size).all fun i => isL s i || isD s i
def errD (ds : List Def) (s : ByteArray) (c : Int) : Int := if ¬ (1 ≤ c ∧ c ≤ 4) then 1 else if okName s = false then 9 else if (pos ds s).isSome then 10 else 0
def addD (ds : List Def) (s : ByteArray) (c : Int) : List Def := if errD ds s c = 0 then ds ++ [(s, c)] else ds

/-! ### The program's scope -/
def ptr (o : Option Nat) : Value := .pointer (o.map fun b => ⟨b, 0, none⟩)
structure PSc (w : World) (b m : Nat) (out : Option Nat) (d : Nat) (ds : List Def) : Prop where
  blk : w.heap[b]? = some (.cells #[ptr out, .int .i64 (d : Int), .map (some m)] 46 (0, 0))
  map : w.ownsMap Try.prog 9 defR m ds.length (dat ds)
  uniq : Uniq ds
theorem PSc.cells {w : World} {b m : Nat} {out : Option Nat} {d : Nat} {ds : List Def} (h : PSc w b m out d ds) :
    w.cell? ⟨b, 0, none⟩ = some (ptr out) ∧ w.cell? ⟨b, 1, none⟩ = some (.int .i64 (d : Int)) ∧ w.cell? ⟨b, 2, none⟩ = some (.map (some m)) ∧ ∀ j, w.frozen? ⟨b, j, none⟩ = false := by
  have := h.blk
  refine ⟨?_, ?_, ?_, fun j => ?_⟩ <;> simp [World.cell?, World.frozen?, this]
theorem PSc.lt {w : World} {b m : Nat} {out : Option Nat} {d : Nat} {ds : List Def} (h : PSc w b m out d ds) : b < w.heap.size := (Array.getElem?_eq_some_iff.1 h.blk).1
theorem PSc.ne {w : World} {b m : Nat} {out : Option Nat} {d : Nat} {ds : List Def} (h : PSc w b m out d ds) : b ≠ m := fun e => by
  obtain ⟨es, clock, hb, _⟩ := h.map
  rw [← e, h.blk] at hb
  cases hb
theorem grown_of {w w' : World} (h : Below w.heap.size w w') : w.grownBy w' none := ⟨h.os, h.tape, h.output, h.size, fun k hk _ => h.block k hk⟩
theorem PSc.below {w w' : World} {b m : Nat} {out : Option Nat} {d : Nat} {ds : List Def} (h : PSc w b m out d ds) (hb : Below w.heap.size w w') : PSc w' b m out d ds :=
  ⟨(hb.block b h.lt).trans h.blk, h.map.kept (grown_of hb) (by simp), h.uniq⟩
theorem PSc.but {w w' : World} {b m k : Nat} {out : Option Nat} {d : Nat} {ds : List Def} (h : PSc w b m out d ds) (hb : But k w w') (h1 : b ≠ k) (h2 : m ≠ k) : PSc w' b m out d ds :=
  ⟨(hb.block b h.lt h1).trans h.blk, h.map.kept (row := some k) ⟨hb.os, hb.tape, hb.output, hb.size, fun i hi e => hb.block i hi (fun q => e (by rw [q]))⟩ (fun e => h2 (Option.some.inj e)), h.uniq⟩
theorem PSc.drew {w : World} {b m : Nat} {out : Option Nat} {d : Nat} {ds : List Def} (h : PSc w b m out d ds) : PSc w.drew b m out d ds := h.below ((Below.refl _ _).drew)
theorem keyLaw : Keyed Try.prog 9 := string_keyed Try.underlying9
theorem key_kl {s : ByteArray} (h : s.size ≤ maxLen) : keyOf Try.prog 9 (.string s) = some (kl s) := WideMaps.keyOf_string_mk Try.underlying9 h
theorem zeroDef (w : World) : (zeroValue 53).run Try.prog w = .ok (.agg #[.int .i64 0, .int .i64 0]) w := by kernel_rfl
end Go.Proofs.Ytmbljiapfbadeaa.Nam
