/-
  Layer 8: tokens appended to a list of one's own, wherever they lie.
-/
import Derived.Test.YtafjdncajpjmlaaDoorTokJoins
import Derived.Deep.Upon
namespace Go.Proofs.YtafjdncajpjmlaaDoor.Tok
open Go.RowKit
set_option linter.unusedVariables false
set_option linter.unusedSimpArgs false

theorem cellsT_app (a b : List T5) : cellsT (a ++ b) = cellsT a ++ cellsT b := by simp [cellsT]
theorem TokCells.news {w : World} {m o : Nat} {l : List T5} (h : TokCells w m o l) : ∀ j u, (cellsT l)[j]? = some u → w.cell? ((⟨m, o, none⟩ : Addr).add j) = some u := by
  intro j u hj
  have hlt := (List.getElem?_eq_some_iff.1 hj).1
  rw [cellsT_len] at hlt
  have hk : j / 5 < l.length := by omega
  have hf : j % 5 < 5 := Nat.mod_lt _ (by decide)
  have e := cellsT_at l (j / 5) hk (j % 5) hf
  rw [show j / 5 * 5 + j % 5 = j by omega] at e
  rw [e] at hj
  obtain ⟨x0, x1, x2, x3, x4⟩ := h (j / 5) hk
  have ea : (⟨m, o, none⟩ : Addr).add j = ⟨m, o + j / 5 * 5 + j % 5, none⟩ := by
    rw [add_plain]
    congr 1
    omega
  rw [ea]
  generalize l[j / 5] = x at *
  have : j % 5 = 0 ∨ j % 5 = 1 ∨ j % 5 = 2 ∨ j % 5 = 3 ∨ j % 5 = 4 := by omega
  rcases this with q | q | q | q | q <;> rw [q] at hj ⊢ <;> simp [cells5] at hj <;> subst hj
  · exact x0
  · exact x1
  · exact x2
  · exact x3
  · exact x4
theorem cellsT_one (l : List T5) : ∀ u ∈ cellsT l, u.oneCell' = true := by
  intro u hu
  simp only [cellsT, List.mem_flatten, List.mem_map] at hu
  obtain ⟨c, ⟨x, -, rfl⟩, h⟩ := hu
  simp only [cells5, List.mem_cons, List.not_mem_nil, or_false] at h
  rcases h with rfl | rfl | rfl | rfl | rfl <;> rfl
/-- want = append(want, l...) -/
theorem wpList_toks {ops : Array Oper} {rest : List Oper} {o : Oper} {a : Act} {w : World} {Q : Exit → Act → World → Prop} (hgd : o.guard = none) (s x : Operand)
    (ho : o.op = .call { callee := .builtin .append, args := #[s, x], argTypes := #[23, 23] }) (B : Nat)
    (v : Value) (hs : a.eval s = v) (l : List T5) (hown : Own B w v l) (hB : B ≤ w.heap.size) (p : Option Addr) (c n0 : Nat) (m : List T5) (hn0 : m.length = n0) (hx : a.eval x = .slice p n0 c) (hm : ToksAt w p c m)
    (hl : l.length + m.length ≤ 1000000)
    (h : ∀ v' w', Own B w' v' (l ++ m) → Below B w w' → wpList Tryd.prog ops Q rest (a.put o.dst v') w') :
    wpList Tryd.prog ops Q (o :: rest) a w := by
  subst hn0
  obtain ⟨i0, hi, hz0, hz1, hz2⟩ := info_parts infoTok
  obtain ⟨hmc, mm, oo, hne, hcells⟩ := hm
  by_cases h0 : m = []
  · subst h0
    have hsrc : Src Tryd.prog i0.size 23 (.slice p 0 c) 0 [] w := by
      cases p with
      | none => exact Src.ofNil w Tryd.underlying23 c
      | some ad => exact Src.ofSlice w Tryd.underlying23 ad 0 c [] (by simp) (fun j u hj => by simp at hj) (fun u hu => by cases hu)
    have hform : ∃ b n k, v = .slice b n k ∧ n ≤ k := by
      rcases hown.2 with ⟨rfl, hn⟩ | ⟨g, cap, cur, rfl, hg, hh, hnc, r⟩
      · exact ⟨none, 0, 0, rfl, Nat.le_refl _⟩
      · exact ⟨_, _, _, rfl, hnc⟩
    obtain ⟨b, n, k, rfl, hnk⟩ := hform
    have hr := run_append_nothing (P := Tryd.prog) w 23 23 o.type 36 i0 Tryd.underlying23 hi b n k hnk (.slice p 0 c) hsrc
    refine wpList_plain hgd fun K hK => ?_
    unfold Oper.wp execOp
    have hx' : a.eval x = .slice p 0 c := hx
    simp only [ho, resolve, invoke, builtin, Sem.run_bind, Sem.run_pure, Result.andThen_ok, List.map_toArray, List.map_cons, List.map_nil, hs, hx', hr]
    exact hK _ _ (h _ _ (by rw [List.append_nil]; exact hown) (Below.refl _ _))
  · have hp := hne h0
    subst hp
    refine wpList_append_own _ hgd _ _ 23 ho B 36 i0 _ 5 48 Tryd.underlying23 hi hz0 hz1 hz2 rfl (by decide) v l.length (cellsT l) hs hown ⟨mm, oo, none⟩ m.length c (cellsT m) hx (cellsT_len m) hcells.news (cellsT_one m) (by unfold maxLen; omega) (by omega) hB ?_
    intro v' w' hown' hgrow _
    refine h v' w' ?_ (hown.grown hgrow hB)
    rw [Own, List.length_append, cellsT_app]
    exact hown'
theorem scan_few {s : ByteArray} {l : List T5} (h : scanS s = .ok l) : l.length ≤ 16384 := (scanS_asc h).2
theorem asc_at {s : ByteArray} : ∀ {e : Nat} {l : List T5}, Asc s e l → ∀ x ∈ l, 0 ≤ x.at' ∧ x.at' ≤ s.size
  | e, [], _, x, hx => by cases hx
  | e, y :: r, ⟨a, j, h1, h2, h3, h4, h5, h6, h7, h8⟩, x, hx => by
    rcases List.mem_cons.1 hx with rfl | q
    · rw [h1]; omega
    · exact asc_at h8 x q
theorem scan_at {s : ByteArray} {l : List T5} (h : scanS s = .ok l) : ∀ x ∈ l, 0 ≤ x.at' ∧ x.at' ≤ s.size := asc_at (scanS_asc h).1
theorem Own.form3 {B : Nat} {w : World} {v : Value} {l : List T5} (h : Own B w v l) : ∃ a n c, v = .slice a n c := by
  obtain ⟨a, c, e⟩ := h.form
  exact ⟨a, _, c, e⟩
theorem Own.emptied (w : World) : Own w.heap.size (w.alloc (.cells #[] 36)) (.slice (some ⟨w.heap.size, 0, none⟩) 0 0) [] := by
  have h := World.ownsRow_lit (base := w.heap.size) (e := 36) (size := 5) w #[] 0 (Nat.le_refl _) (by unfold maxLen; omega) (by simp)
  exact h
theorem toks_one (w : World) (x : T5) : ToksAt (w.alloc (.cells #[.int .i64 x.k, .int .i64 x.at', .int .i64 x.len, .int .i64 x.n, .string x.t] 36)) (some ⟨w.heap.size, 0, none⟩) 1 [x] := by
  refine ⟨Nat.le_refl _, w.heap.size, 0, fun _ => rfl, fun j hj => ?_⟩
  obtain rfl : j = 0 := by simpa using hj
  refine ⟨?_, ?_, ?_, ?_, ?_⟩ <;> (rw [World.cell?_alloc_new]; rfl)
end Go.Proofs.YtafjdncajpjmlaaDoor.Tok
