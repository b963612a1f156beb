/-
  Layer 8: Reserved of the reference, and that the program says the same. (Written by wip/gen/token-resr.py.)
-/
import Derived.Test.YtljgehammocpkaaGreatDoorTokAmong
namespace Go.Proofs.YtljgehammocpkaaGreatDoor.Tok
open Go.RowKit
set_option linter.unusedVariables false
set_option linter.unusedSimpArgs false
set_option maxRecDepth 100000

def wordsL : List UInt8 := [32, 88, 32, 89, 32, 70, 32, 71, 32, 115, 101, 108, 102, 32, 97, 114, 103, 32, 109, 105, 110, 32, 109, 97, 120, 32, 97, 110, 100, 32, 111, 114, 32, 110, 111, 116, 32, 115, 104, 97, 112, 101, 32, 114, 101, 115, 104, 97, 112, 101, 32, 116, 97, 108, 108, 121, 32, 100, 101, 112, 116, 104, 32, 115, 116, 97, 99, 107, 32, 105, 111, 116, 97, 32, 116, 97, 107, 101, 32, 100, 114, 111, 112, 32, 102, 105, 114, 115, 116, 32, 114, 101, 118, 101, 114, 115, 101, 32, 114, 111, 116, 97, 116, 101, 32, 116, 114, 97, 110, 115, 112, 111, 115, 101, 32, 102, 114, 111, 109, 32, 112, 105, 99, 107, 32, 115, 101, 108, 101, 99, 116, 32, 97, 109, 101, 110, 100, 32, 117, 112, 32, 100, 111, 119, 110, 32, 115, 111, 114, 116, 32, 102, 105, 110, 100, 32, 105, 110, 32, 117, 110, 105, 113, 117, 101, 32, 119, 104, 101, 114, 101, 32, 99, 111, 112, 121, 32, 101, 120, 112, 97, 110, 100, 32, 99, 117, 116, 32, 101, 110, 99, 111, 100, 101, 32, 100, 101, 99, 111, 100, 101, 32, 98, 111, 120, 32, 111, 112, 101, 110, 32, 115, 97, 109, 101, 32, 107, 105, 110, 100, 32, 111, 114, 100, 32, 99, 104, 114, 32, 102, 111, 114, 109, 97, 116, 32, 108, 101, 102, 116, 32, 114, 105, 103, 104, 116, 32, 101, 97, 99, 104, 32, 115, 119, 97, 112, 32, 111, 117, 116, 101, 114, 32, 105, 110, 110, 101, 114, 32, 114, 97, 110, 107, 32, 112, 111, 119, 101, 114, 32, 115, 116, 101, 110, 99, 105, 108, 32, 97, 116, 111, 112, 32, 111, 118, 101, 114, 32]
def namesL : List UInt8 := [32, 43, 32, 45, 32, 42, 32, 37, 32, 124, 32, 94, 32, 60, 32, 60, 61, 32, 61, 32, 126, 61, 32, 62, 61, 32, 62, 32, 44, 32, 47, 32, 92, 32]
def resR (t : List UInt8) : Bool := amB wordsL t || amB namesL t
set_option maxHeartbeats 800000 in
theorem reservedR (s : ByteArray) (hs : s.size ≤ 1000000) (w : World) : Calls Tryz.prog 122 #[.string s] w fun e w' => e = .returned (.bool (resR s.data.toList)) ∧ w = w' := by
  have a1 : ∀ w, Calls Tryz.prog 120 #[.string ⟨#[32, 88, 32, 89, 32, 70, 32, 71, 32, 115, 101, 108, 102, 32, 97, 114, 103, 32, 109, 105, 110, 32, 109, 97, 120, 32, 97, 110, 100, 32, 111, 114, 32, 110, 111, 116, 32, 115, 104, 97, 112, 101, 32, 114, 101, 115, 104, 97, 112, 101, 32, 116, 97, 108, 108, 121, 32, 100, 101, 112, 116, 104, 32, 115, 116, 97, 99, 107, 32, 105, 111, 116, 97, 32, 116, 97, 107, 101, 32, 100, 114, 111, 112, 32, 102, 105, 114, 115, 116, 32, 114, 101, 118, 101, 114, 115, 101, 32, 114, 111, 116, 97, 116, 101, 32, 116, 114, 97, 110, 115, 112, 111, 115, 101, 32, 102, 114, 111, 109, 32, 112, 105, 99, 107, 32, 115, 101, 108, 101, 99, 116, 32, 97, 109, 101, 110, 100, 32, 117, 112, 32, 100, 111, 119, 110, 32, 115, 111, 114, 116, 32, 102, 105, 110, 100, 32, 105, 110, 32, 117, 110, 105, 113, 117, 101, 32, 119, 104, 101, 114, 101, 32, 99, 111, 112, 121, 32, 101, 120, 112, 97, 110, 100, 32, 99, 117, 116, 32, 101, 110, 99, 111, 100, 101, 32, 100, 101, 99, 111, 100, 101, 32, 98, 111, 120, 32, 111, 112, 101, 110, 32, 115, 97, 109, 101, 32, 107, 105, 110, 100, 32, 111, 114, 100, 32, 99, 104, 114, 32, 102, 111, 114, 109, 97, 116, 32, 108, 101, 102, 116, 32, 114, 105, 103, 104, 116, 32, 101, 97, 99, 104, 32, 115, 119, 97, 112, 32, 111, 117, 116, 101, 114, 32, 105, 110, 110, 101, 114, 32, 114, 97, 110, 107, 32, 112, 111, 119, 101, 114, 32, 115, 116, 101, 110, 99, 105, 108, 32, 97, 116, 111, 112, 32, 111, 118, 101, 114, 32]⟩, .string s] w fun e w' => e = .returned (.bool (amB wordsL s.data.toList)) ∧ w = w' := fun w => amongQ ⟨#[32, 88, 32, 89, 32, 70, 32, 71, 32, 115, 101, 108, 102, 32, 97, 114, 103, 32, 109, 105, 110, 32, 109, 97, 120, 32, 97, 110, 100, 32, 111, 114, 32, 110, 111, 116, 32, 115, 104, 97, 112, 101, 32, 114, 101, 115, 104, 97, 112, 101, 32, 116, 97, 108, 108, 121, 32, 100, 101, 112, 116, 104, 32, 115, 116, 97, 99, 107, 32, 105, 111, 116, 97, 32, 116, 97, 107, 101, 32, 100, 114, 111, 112, 32, 102, 105, 114, 115, 116, 32, 114, 101, 118, 101, 114, 115, 101, 32, 114, 111, 116, 97, 116, 101, 32, 116, 114, 97, 110, 115, 112, 111, 115, 101, 32, 102, 114, 111, 109, 32, 112, 105, 99, 107, 32, 115, 101, 108, 101, 99, 116, 32, 97, 109, 101, 110, 100, 32, 117, 112, 32, 100, 111, 119, 110, 32, 115, 111, 114, 116, 32, 102, 105, 110, 100, 32, 105, 110, 32, 117, 110, 105, 113, 117, 101, 32, 119, 104, 101, 114, 101, 32, 99, 111, 112, 121, 32, 101, 120, 112, 97, 110, 100, 32, 99, 117, 116, 32, 101, 110, 99, 111, 100, 101, 32, 100, 101, 99, 111, 100, 101, 32, 98, 111, 120, 32, 111, 112, 101, 110, 32, 115, 97, 109, 101, 32, 107, 105, 110, 100, 32, 111, 114, 100, 32, 99, 104, 114, 32, 102, 111, 114, 109, 97, 116, 32, 108, 101, 102, 116, 32, 114, 105, 103, 104, 116, 32, 101, 97, 99, 104, 32, 115, 119, 97, 112, 32, 111, 117, 116, 101, 114, 32, 105, 110, 110, 101, 114, 32, 114, 97, 110, 107, 32, 112, 111, 119, 101, 114, 32, 115, 116, 101, 110, 99, 105, 108, 32, 97, 116, 111, 112, 32, 111, 118, 101, 114, 32]⟩ s w (by decide) hs
  have a2 : ∀ w, Calls Tryz.prog 120 #[.string ⟨#[32, 43, 32, 45, 32, 42, 32, 37, 32, 124, 32, 94, 32, 60, 32, 60, 61, 32, 61, 32, 126, 61, 32, 62, 61, 32, 62, 32, 44, 32, 47, 32, 92, 32]⟩, .string s] w fun e w' => e = .returned (.bool (amB namesL s.data.toList)) ∧ w = w' := fun w => amongQ ⟨#[32, 43, 32, 45, 32, 42, 32, 37, 32, 124, 32, 94, 32, 60, 32, 60, 61, 32, 61, 32, 126, 61, 32, 62, 61, 32, 62, 32, 44, 32, 47, 32, 92, 32]⟩ s w (by decide) hs
  unfold resR
  go_enter Tryz.func122, Tryz.ntmps122
  cases h1 : amB wordsL s.data.toList
  · rw [h1] at a1
    go_wp2_with (first | (go_at_call 120; with_reducible refine (a1 _).mono ?_; rintro e1 w1 ⟨rfl, rfl⟩) | (go_at_call 120; with_reducible refine (a2 _).mono ?_; rintro e2 w2 ⟨rfl, rfl⟩))
    go_ret
    exact ⟨rfl, rfl⟩
  · rw [h1] at a1
    go_wp2_with (go_at_call 120; with_reducible refine (a1 _).mono ?_; rintro e1 w1 ⟨rfl, rfl⟩)
    go_ret
    exact ⟨rfl, rfl⟩

/-! ### Parts of a list between blanks -/
/-- Blanks behind each part, and one ahead of all. -/
def spaced : List (List UInt8) → List UInt8
  | [] => [32]
  | x :: r => 32 :: (x ++ spaced r)
theorem spaced_head (l : List (List UInt8)) : ∃ r, spaced l = 32 :: r := by cases l <;> exact ⟨_, rfl⟩
def occ (L t : List UInt8) : Bool := (List.range L.length).any (hitB L t)
theorem hit_cons (c : UInt8) (L t : List UInt8) (i : Nat) : hitB (c :: L) t (i + 1) = hitB L t i := by
  have e : i + 1 + 1 + t.length = (i + 1 + t.length) + 1 := by omega
  rw [hitB, hitB, List.getD_cons_succ, List.drop_succ_cons, e, List.getD_cons_succ]
theorem occ_cons (c : UInt8) (L t : List UInt8) : occ (c :: L) t = (hitB (c :: L) t 0 || occ L t) := by
  have e : occ (c :: L) t = (hitB (c :: L) t 0 || (List.range L.length).any fun i => hitB (c :: L) t (i + 1)) := by
    rw [occ, List.length_cons, List.range_succ_eq_map, List.any_cons, List.any_map]
    rfl
  rw [e, occ]
  simp only [hit_cons]
theorem occ_skip (x L t : List UInt8) (h : noSp x = true) : occ (x ++ L) t = occ L t := by
  induction x with
  | nil => rfl
  | cons c r ih =>
    rw [noSp, List.all_cons, Bool.and_eq_true] at h
    rw [List.cons_append, occ_cons, ih h.2]
    have : hitB (c :: (r ++ L)) t 0 = false := by
      have hc : (c == 32) = false := by simpa using h.1
      rw [hitB, List.getD_cons_zero, hc, Bool.false_and, Bool.false_and]
    rw [this, Bool.false_or]
theorem hit_far {L t : List UInt8} {i : Nat} (h : L.length ≤ i + 1 + t.length) : hitB L t i = false := by
  have : L.getD (i + 1 + t.length) 0 = 0 := by rw [List.getD_eq_getElem?_getD, List.getElem?_eq_none h]; rfl
  rw [hitB, this]
  exact Bool.and_false _
theorem amB_occ (L t : List UInt8) : amB L t = (t.length != 0 && noSp t && occ L t) := by
  have e : (List.range (L.length - (t.length + 1))).any (hitB L t) = occ L t := by
    rw [Bool.eq_iff_iff, occ, List.any_eq_true, List.any_eq_true]
    constructor
    · rintro ⟨i, hi, h⟩
      exact ⟨i, List.mem_range.2 (by have := List.mem_range.1 hi; omega), h⟩
    · rintro ⟨i, hi, h⟩
      refine ⟨i, List.mem_range.2 ?_, h⟩
      rcases Nat.lt_or_ge i (L.length - (t.length + 1)) with q | q
      · exact q
      · rw [hit_far (by omega)] at h; cases h
  rw [amB, e]
theorem noSp_get {x : List UInt8} (h : noSp x = true) {n : Nat} (hn : n < x.length) : x[n] ≠ 32 := by
  rw [noSp, List.all_eq_true] at h
  simpa using h x[n] (List.getElem_mem hn)
theorem hit_first {x t r : List UInt8} (hx : noSp x = true) (ht : noSp t = true) : hitB (32 :: (x ++ 32 :: r)) t 0 = (t == x) := by
  have e1 : hitB (32 :: (x ++ 32 :: r)) t 0 = ((x ++ 32 :: r).take t.length == t && (x ++ 32 :: r).getD t.length 0 == 32) := by
    have e : 0 + 1 + t.length = t.length + 1 := by omega
    rw [hitB, List.getD_cons_zero, e, List.getD_cons_succ]
    rfl
  rw [e1]
  rcases Nat.lt_trichotomy t.length x.length with h | h | h
  · have q : ((x ++ 32 :: r).getD t.length 0 == 32) = false := by
      rw [List.getD_eq_getElem?_getD, List.getElem?_append_left h, List.getElem?_eq_getElem h]
      simpa using noSp_get hx h
    have q2 : (t == x) = false := by rw [beq_eq_false_iff_ne]; intro e; rw [e] at h; omega
    rw [q, q2, Bool.and_false]
  · have q : ((x ++ 32 :: r).getD t.length 0 == 32) = true := by
      rw [List.getD_eq_getElem?_getD, h, List.getElem?_append_right (Nat.le_refl _), Nat.sub_self]; rfl
    rw [q, Bool.and_true, h, List.take_append_of_le_length (Nat.le_refl _), List.take_length, Bool.eq_iff_iff, beq_iff_eq, beq_iff_eq]
    exact eq_comm
  · have q : ((x ++ 32 :: r).take t.length == t) = false := by
      rw [beq_eq_false_iff_ne]
      intro e
      have hlt : x.length < t.length := h
      apply noSp_get ht hlt
      have e2 : ((x ++ 32 :: r).take t.length)[x.length]? = t[x.length]? := by rw [e]
      rw [List.getElem?_take, if_pos hlt, List.getElem?_append_right (Nat.le_refl _), Nat.sub_self, List.getElem?_eq_getElem hlt] at e2
      simpa using e2.symm
    have q2 : (t == x) = false := by rw [beq_eq_false_iff_ne]; intro e; rw [e] at h; omega
    rw [q, q2, Bool.false_and]
theorem occ_spaced {t : List UInt8} (ht : noSp t = true) : ∀ (ws : List (List UInt8)), (∀ x ∈ ws, noSp x = true) → occ (spaced ws) t = ws.any fun x => t == x
  | [], _ => by
    rw [spaced, occ_cons, hit_far (by simp)]; rfl
  | x :: r, h => by
    obtain ⟨q, hq⟩ := spaced_head r
    have ih := occ_spaced ht r fun y hy => h y (List.mem_cons_of_mem _ hy)
    have hx := h x List.mem_cons_self
    rw [spaced, occ_cons, occ_skip x _ _ hx, ih, List.any_cons]
    rw [hq, hit_first hx ht]
def ws1 : List (List UInt8) := [[88], [89], [70], [71], [115, 101, 108, 102], [97, 114, 103], [109, 105, 110], [109, 97, 120], [97, 110, 100], [111, 114], [110, 111, 116], [115, 104, 97, 112, 101], [114, 101, 115, 104, 97, 112, 101], [116, 97, 108, 108, 121], [100, 101, 112, 116, 104], [115, 116, 97, 99, 107], [105, 111, 116, 97], [116, 97, 107, 101], [100, 114, 111, 112], [102, 105, 114, 115, 116], [114, 101, 118, 101, 114, 115, 101], [114, 111, 116, 97, 116, 101], [116, 114, 97, 110, 115, 112, 111, 115, 101], [102, 114, 111, 109], [112, 105, 99, 107], [115, 101, 108, 101, 99, 116], [97, 109, 101, 110, 100], [117, 112], [100, 111, 119, 110], [115, 111, 114, 116], [102, 105, 110, 100], [105, 110], [117, 110, 105, 113, 117, 101], [119, 104, 101, 114, 101], [99, 111, 112, 121], [101, 120, 112, 97, 110, 100], [99, 117, 116], [101, 110, 99, 111, 100, 101], [100, 101, 99, 111, 100, 101], [98, 111, 120], [111, 112, 101, 110], [115, 97, 109, 101], [107, 105, 110, 100], [111, 114, 100], [99, 104, 114], [102, 111, 114, 109, 97, 116], [108, 101, 102, 116], [114, 105, 103, 104, 116], [101, 97, 99, 104], [115, 119, 97, 112], [111, 117, 116, 101, 114], [105, 110, 110, 101, 114], [114, 97, 110, 107], [112, 111, 119, 101, 114], [115, 116, 101, 110, 99, 105, 108], [97, 116, 111, 112], [111, 118, 101, 114]]
def ws2 : List (List UInt8) := [[43], [45], [42], [37], [124], [94], [60], [60, 61], [61], [126, 61], [62, 61], [62], [44], [47], [92]]
theorem words_eq : wordsL = spaced ws1 := by decide
theorem names_eq : namesL = spaced ws2 := by decide
theorem ws_ok : (∀ x ∈ ws1, noSp x = true) ∧ (∀ x ∈ ws2, noSp x = true) ∧ (∀ x ∈ ws1, x ∈ resWords) ∧ (∀ x ∈ ws2, x ∈ resWords) ∧ (∀ x ∈ resWords, x ∈ ws1 ∨ x ∈ ws2) ∧ (∀ x ∈ resWords, (x.length != 0 && noSp x) = true) := by
  refine ⟨by decide, by decide, by decide, by decide, by decide, by decide⟩
/-- The program and the reference say the same of every word. -/
theorem res_same (t : List UInt8) : resB t = resR t := by
  obtain ⟨o1, o2, o3, o4, o5, o6⟩ := ws_ok
  rw [resR, amB_occ, amB_occ, words_eq, names_eq, Bool.eq_iff_iff]
  by_cases hn : (t.length != 0 && noSp t) = true
  · have hnt : noSp t = true := (Bool.and_eq_true _ _ ▸ hn).2
    rw [hn, Bool.true_and, Bool.true_and, occ_spaced hnt _ o1, occ_spaced hnt _ o2, Bool.or_eq_true, List.any_eq_true, List.any_eq_true, resB, List.any_eq_true]
    constructor
    · rintro ⟨x, hx, e⟩
      rcases o5 x hx with h | h
      · exact Or.inl ⟨x, h, e⟩
      · exact Or.inr ⟨x, h, e⟩
    · rintro (⟨x, hx, e⟩ | ⟨x, hx, e⟩)
      · exact ⟨x, o3 x hx, e⟩
      · exact ⟨x, o4 x hx, e⟩
  · have hf : (t.length != 0 && noSp t) = false := by simpa using hn
    rw [hf]
    constructor
    · intro h
      rw [resB, List.any_eq_true] at h
      obtain ⟨x, hx, e⟩ := h
      rw [beq_iff_eq] at e
      subst e
      exact absurd (o6 _ hx) hn
    · intro h; cases h
end Go.Proofs.YtljgehammocpkaaGreatDoor.Tok
