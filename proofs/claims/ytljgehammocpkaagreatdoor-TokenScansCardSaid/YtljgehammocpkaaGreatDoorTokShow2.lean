/-
  Layer 8: the text of tokens. (Written by wip/gen/token-show2.py.)
-/
import Derived.Test.YtljgehammocpkaaGreatDoorTokShow
import Derived.Test.YtljgehammocpkaaGreatDoorTokScan0
import Derived.Laws.OwnMore
namespace Go.Proofs.YtljgehammocpkaaGreatDoor.Tok
open Go.RowKit
set_option linter.unusedVariables false
set_option linter.unusedSimpArgs false

theorem add_plain (b off k : Nat) : (⟨b, off, none⟩ : Addr).add k = ⟨b, off + k, none⟩ := by unfold Addr.add; split <;> simp_all
theorem elemToks : Tryz.prog.underlying 23 = some (.slice (Tryz.prog.elem 23)) := by kernel_rfl
theorem sizeToks (w : World) : (sizeOf (Tryz.prog.elem 23)).run Tryz.prog w = .ok 5 w := by kernel_rfl
theorem elemStrs : Tryz.prog.underlying 92 = some (.slice (Tryz.prog.elem 92)) := by kernel_rfl
theorem sizeStrs (w : World) : (sizeOf (Tryz.prog.elem 92)).run Tryz.prog w = .ok 1 w := by kernel_rfl
theorem elem_tok (w' : World) (m o n cap j : Nat) (hj : j < n) : (Instr.indexAt 23 (.slice (some ⟨m, o, none⟩) n cap) (.int .i64 (j : Int))).run Tryz.prog w' = .ok (.pointer (some ⟨m, o + j * 5, none⟩)) w' := by
  rw [run_indexAt_slice w' _ _ _ _ .i64 j elemToks, if_pos (by omega), sizeToks]
  show Result.ok _ w' = _
  rw [show ((j : Int).toNat * 5) = j * 5 by omega, add_plain]
theorem elem_str (w' : World) (m n cap j : Nat) (hj : j < n) : (Instr.indexAt 92 (.slice (some ⟨m, 0, none⟩) n cap) (.int .i64 (j : Int))).run Tryz.prog w' = .ok (.pointer (some ⟨m, j, none⟩)) w' := by
  rw [run_indexAt_slice w' _ _ _ _ .i64 j elemStrs, if_pos (by omega), sizeStrs]
  show Result.ok _ w' = _
  rw [show ((j : Int).toNat * 1) = j by omega, add_plain, Nat.zero_add]
/-- The number that a value holds. -/
def intOf : Value → Int
  | .int _ n => n
  | _ => 0
theorem infoStr : (Tryz.prog.info? 9).map (fun i => (i.zero, i.size, i.bytes)) = some (some (.string ⟨#[]⟩), 1, 16) := by kernel_rfl

/-- Tokens in a row of memory. -/
def TokCells (w : World) (m o : Nat) (l : List T5) : Prop := ∀ (j : Nat) (hj : j < l.length), w.cell? ⟨m, o + j * 5, none⟩ = some (.int .i64 l[j].k) ∧ w.cell? ⟨m, o + j * 5 + 1, none⟩ = some (.int .i64 l[j].at') ∧ w.cell? ⟨m, o + j * 5 + 2, none⟩ = some (.int .i64 l[j].len) ∧ w.cell? ⟨m, o + j * 5 + 3, none⟩ = some (.int .i64 l[j].n) ∧ w.cell? ⟨m, o + j * 5 + 4, none⟩ = some (.string l[j].t)
theorem TokCells.below {w w' : World} {m o : Nat} {l : List T5} (h : TokCells w m o l) (hb : Below w.heap.size w w') : TokCells w' m o l := fun j hj => by
  obtain ⟨a, b, c, d, e⟩ := h j hj
  exact ⟨cell_below a hb, cell_below b hb, cell_below c hb, cell_below d hb, cell_below e hb⟩
/-- Texts in a row of one's own. -/
def Strs (w : World) (G : Nat) (xs : List ByteArray) : Prop := w.heap[G]? = some (.cells (xs.map Value.string).toArray 9 (0, 0))
theorem Strs.lt {w : World} {G : Nat} {xs : List ByteArray} (h : Strs w G xs) : G < w.heap.size := (Array.getElem?_eq_some_iff.1 h).1
theorem Strs.cell {w : World} {G : Nat} {xs : List ByteArray} (h : Strs w G xs) {j : Nat} {x : ByteArray} (hj : xs[j]? = some x) : w.cell? ⟨G, j, none⟩ = some (.string x) := by
  unfold Strs at h
  simp [World.cell?, h, hj]
theorem Strs.free {w : World} {G : Nat} {xs : List ByteArray} (h : Strs w G xs) (j : Nat) : w.frozen? ⟨G, j, none⟩ = false := by
  unfold Strs at h
  simp [World.frozen?, h]
theorem Strs.below {w w' : World} {G : Nat} {xs : List ByteArray} (h : Strs w G xs) (hb : Below w.heap.size w w') : Strs w' G xs := (hb.block G h.lt).trans h
theorem Strs.set {w : World} {G : Nat} {xs : List ByteArray} (h : Strs w G xs) (j : Nat) (x : ByteArray) : Strs (w.setCell ⟨G, j, none⟩ (.string x)) G (xs.set j x) := by
  unfold Strs at h ⊢
  simp only [World.setCell]
  rw [Array.getElem?_modify, if_pos rfl, h]
  simp
def txt (x : T5) : ByteArray := ⟨(oneW x.k x.n x.t).toArray⟩
def rowS (l : List T5) (j : Nat) : List ByteArray := (l.take j).map txt ++ List.replicate (l.length - j) ⟨#[]⟩
theorem rowS_set {l : List T5} {j : Nat} (hj : j < l.length) : (rowS l j).set j (txt l[j]) = rowS l (j + 1) := by
  unfold rowS
  have h1 : ((l.take j).map txt).length = j := by simp; omega
  rw [List.set_append_right _ _ (by omega), h1, Nat.sub_self, List.take_succ_eq_append_getElem hj, List.map_append, List.append_assoc]
  obtain ⟨m, hm⟩ : ∃ m, l.length - j = m + 1 := ⟨l.length - j - 1, by omega⟩
  have hm2 : l.length - (j + 1) = m := by omega
  rw [hm, hm2, List.replicate_succ]
  rfl
theorem rowS_at {l : List T5} {j : Nat} (hj : j < l.length) : (rowS l j)[j]? = some ⟨#[]⟩ := by
  unfold rowS
  have h1 : ((l.take j).map txt).length = j := by simp; omega
  rw [List.getElem?_append_right (by omega), h1, Nat.sub_self, List.getElem?_replicate, if_pos (by omega)]
theorem rowS_all (l : List T5) : rowS l l.length = l.map txt := by simp [rowS]
def showS (l : List T5) : List UInt8 := Lib.join ((l.map txt).map (·.data.toList)) [32]

set_option maxRecDepth 100000 in
set_option maxHeartbeats 8000000 in
theorem ShowQ (l : List T5) (a : Option Addr) (c m o : Nat) (w : World) (hT : Tabs w) (hZ : TZ w) (hl : l.length ≤ 100000) (hlc : l.length ≤ c) (ha : l ≠ [] → a = some ⟨m, o, none⟩) (hc : TokCells w m o l)
    (hn : ∀ x ∈ l, (-9223372036854775808 ≤ x.n ∧ x.n ≤ 9223372036854775807) ∧ x.t.size ≤ 100000) (hlen : (showS l).length ≤ 140737488355328) :
    Calls Tryz.prog 30 #[.slice a l.length c] w fun e w' => e = .returned (.string ⟨(showS l).toArray⟩) ∧ Below w.heap.size w w' := by
  obtain ⟨i0, hi0, hz0, hz1, hz2⟩ := info_parts infoStr
  obtain ⟨n, hNl⟩ : ∃ n, Hid (l.length = n) := ⟨_, rfl⟩
  have hln : (l.length : Int) = (n : Int) := by rw [hNl.out]
  rw [hNl.out]
  have hn1 : n ≤ 100000 := by rw [← hNl.out]; exact hl
  clear hln
  go_enter Tryz.func30, Tryz.ntmps30
  go_wp2_with (at_make; refine wpList_make_full _ rfl _ _ 92 rfl w.heap.size 9 i0 (.string ⟨#[]⟩) 1 Tryz.underlying92 hi0 hz0 hz1 .i64 .i64 (n : Int) (n : Int) n rfl rfl rfl rfl (by rw [hz2]; omega) (by unfold maxLen; omega) (Nat.le_refl _) ?_; intro w1 hown hgrow)
  have hlw : w.heap.size < w1.heap.size := (World.ownsRow.lt hown w.heap.size rfl).2
  have S1 : Strs w1 w.heap.size (rowS l 0) := by
    rcases hown.2 with ⟨h, -⟩ | ⟨g, cap, cur, h1, h2, h3, h4, h5, h6, h7⟩
    · cases h
    · simp only [Value.slice.injEq, Option.some.injEq, Addr.mk.injEq] at h1
      obtain ⟨⟨rfl, -, -⟩, -, rfl⟩ := h1
      have e : cur.toList = List.replicate n (Value.string ⟨#[]⟩) := by
        have hz : (Value.string ⟨#[]⟩).cells = #[Value.string ⟨#[]⟩] := rfl
        rw [← toList_madeCells_one, ← Nat.mul_one n, ← hz, ← h7, Nat.mul_one, List.take_of_length_le (by simp [h6])]
      rw [Strs, h3, rowS, List.take_zero, List.map_nil, List.nil_append, Nat.sub_zero, hNl.out, List.map_replicate, ← e]
  have E1 : Below w.heap.size w w1 := ⟨hgrow.os, hgrow.tape, hgrow.output, hgrow.size, fun k hk => hgrow.block k hk (by simp)⟩
  clear hown hgrow
  have hi64 : (n : Int) ≤ 100000 := by omega
  generalize hG : w.heap.size = G at *
  go_loopw [11] (fun i wr => ∃ j : Nat, j ≤ n ∧ i = .int .i64 (j : Int) ∧ Strs wr G (rowS l j) ∧ Below G w wr) (fun i _ => n - (intOf i).toNat)
  case atStart => exact ⟨0, Nat.zero_le _, rfl, S1, E1⟩
  case round =>
    clear S1 E1 hlw
    obtain ⟨j, hj, rfl, hS, hb⟩ := hrel
    have hb0 : Below w.heap.size w wr := by rw [hG]; exact hb
    by_cases hlt : j < n
    · have hlt' : (j : Int) < (n : Int) := by omega
      have hjl : j < l.length := by rw [hNl.out]; exact hlt
      have hane := ha (fun e => by rw [e] at hjl; exact absurd hjl (by simp))
      obtain ⟨c0, c1, c2, c3, c4⟩ := hc.below hb0 j hjl
      have hset := rowS_set hjl
      have hat := rowS_at hjl
      obtain ⟨⟨n0, n1⟩, ts⟩ := hn _ (List.getElem_mem hjl)
      have htx : Hid (txt l[j] = (⟨(oneW l[j].k l[j].n l[j].t).toArray⟩ : ByteArray)) := rfl
      generalize l[j] = x at *
      obtain ⟨k, p, z, nn, t⟩ := x
      simp only [] at c0 c1 c2 c3 c4 n0 n1 ts htx
      have hx1 := fun w' => elem_tok w' m o n c j hlt
      have hx2 := fun w' => elem_str w' G n n j hlt
      have cS := fun w hT hZ => showQ k p z nn t n0 n1 ts w hT hZ
      have hT2 : ∀ o, Tabs (wr.alloc o) := fun o => hT.below (Below.then hb0 (below_new wr o))
      have hZ2 : ∀ o, TZ (wr.alloc o) := fun o => hZ.below (Below.then hb0 (below_new wr o))
      subst hane
      go_wp2_with (go_at_call 60; with_reducible refine (cS _ (hT2 _) (hZ2 _)).mono ?_; rintro e2 w2 ⟨rfl, b2⟩; have b3 := Below.then (below_new wr _) b2; have S2 := hS.below b3; have g1 := S2.cell hat; have g2 := S2.free j)
      have S3 := S2.set j ⟨(oneW k nn t).toArray⟩
      rw [← htx.out, hset] at S3
      go_roundw
      case rel => exact ⟨j + 1, by omega, by go_num, S3, (hb.trans (b3.mono (by rw [← hG]; exact hb0.size))).setCell (Nat.le_refl _) _⟩
      case measure => simp [intOf]; omega
    · obtain rfl : n = j := by omega
      have hS2 : Strs wr G (l.map txt) := by rw [← rowS_all, hNl.out]; exact hS
      have hml : (l.map txt).length = n := by rw [List.length_map, hNl.out]
      have hn0 : ¬ (n : Int) < (n : Int) := by omega
      have cJ : Calls Tryz.prog 58 #[.slice (some ⟨G, 0, none⟩) n n, .string ⟨#[32]⟩] wr fun e w' => e = .returned (.string ⟨(showS l).toArray⟩) ∧ Below wr.heap.size wr w' := by
        have := Tryz.strings_Join G 0 n (l.map txt) ⟨#[32]⟩ wr (fun j x hx => by rw [Nat.zero_add]; exact hS2.cell hx) hS2.lt (by rw [hml]; omega) (by rw [hml]; omega) hlen
        rw [hml] at this
        exact this
      go_wp2_with (go_at_call 58; with_reducible refine cJ.mono ?_; rintro e2 w2 ⟨rfl, b2⟩)
      go_ret
      exact ⟨rfl, by rw [hG]; exact hb.trans (b2.mono (by rw [← hG]; exact hb0.size))⟩
end Go.Proofs.YtljgehammocpkaaGreatDoor.Tok
