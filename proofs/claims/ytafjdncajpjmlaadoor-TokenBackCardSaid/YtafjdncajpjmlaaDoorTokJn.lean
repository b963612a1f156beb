/-
  Layer 8: the tokens of two texts that a newline joins.
-/
import Derived.Test.YtafjdncajpjmlaaDoorTokPre
namespace Go.Proofs.YtafjdncajpjmlaaDoor.Tok
open Go.RowKit
set_option linter.unusedVariables false

theorem asc_len {s : ByteArray} : ∀ {l : List T5} {e : Nat}, Asc s e l → l.length ≤ s.size - e
  | [], e, _ => Nat.zero_le _
  | x :: r, e, ⟨a, j, h1, h2, h3, h4, h5, h6, h7, h8⟩ => by
    have := asc_len h8
    rw [List.length_cons]; omega
theorem scan_fuel {s : ByteArray} : ∀ (f g i : Nat) (acc : List T5), s.size - i < f → s.size - i < g → scanGo s f i acc = scanGo s g i acc
  | 0, g, i, acc, hf, hg => by omega
  | f + 1, g, i, acc, hf, hg => by
    obtain ⟨g', rfl⟩ : ∃ g', g = g' + 1 := ⟨g - 1, by omega⟩
    rw [scanGo, scanGo]
    by_cases hi : i < s.size
    · rw [if_pos hi, if_pos hi]
      cases ht : tokenS s i with
      | bad e a => rfl
      | tok k n t j =>
        simp only
        have hj := tokenS_le hi ht
        have hp := sepTo_ge (s := s) (i := j) hj.2
        by_cases hl : acc.length = 16384
        · rw [if_pos hl, if_pos hl]
        · rw [if_neg hl, if_neg hl]
          exact scan_fuel f g' _ _ (by omega) (by omega)
    · rw [if_neg hi, if_neg hi]
theorem scan_pre {J s : ByteArray} (h : Pre J s) (F : Nat) : ∀ (g i : Nat) (acc : List T5), i ≤ s.size → s.size - i < g →
    (∀ e a, scanGo s g i acc = .bad e a → scanGo J (F + g) i acc = .bad e a) ∧ (∀ l, scanGo s g i acc = .ok l → ∃ F', F < F' ∧ F' ≤ F + g ∧ scanGo J (F + g) i acc = scanGo J F' s.size l)
  | 0, i, acc, hi, hg => by omega
  | g + 1, i, acc, hi, hg => by
    have hz := h.size
    rw [show F + (g + 1) = F + g + 1 by omega, scanGo]
    by_cases hlt : i < s.size
    · rw [scanGo, if_pos hlt, if_pos (show i < J.size by omega), h.tokenS hlt]
      cases ht : tokenS s i with
      | bad e a => exact ⟨fun e' a' q => q, fun l q => (by cases q)⟩
      | tok k n t j =>
        simp only
        have hj := tokenS_le hlt ht
        have hp := sepTo_ge (s := s) (i := j) hj.2
        by_cases hl : acc.length = 16384
        · rw [if_pos hl, if_pos hl]
          exact ⟨fun e' a' q => q, fun l q => (by cases q)⟩
        · rw [if_neg hl, if_neg hl, h.sepTo hj.2]
          obtain ⟨k1, k2⟩ := scan_pre h F g (sepTo s j) (acc ++ [⟨k, (i : Int), (j : Int) - (i : Int), n, t⟩]) hp.2 (by omega)
          exact ⟨k1, fun l q => by obtain ⟨F', q1, q2, q3⟩ := k2 l q; exact ⟨F', q1, by omega, q3⟩⟩
    · obtain rfl : i = s.size := by omega
      rw [if_neg hlt]
      refine ⟨fun e a q => (by cases q), fun l q => ?_⟩
      injection q with q
      subst q
      exact ⟨F + g + 1, by omega, by omega, rfl⟩
/-- What is scanned of two texts that a newline joins. -/
def joinR (n : Nat) : Sr → Sr → Sr
  | .bad e a, _ => .bad e a
  | .ok l, .ok m => .ok (l ++ [⟨6, (n : Int), 1, 0, ⟨#[]⟩⟩] ++ m.map (T5.sft (n + 1)))
  | .ok _, .bad e a => .bad e (n + 1 + a)
theorem scan_join {J s t : ByteArray} (h : Pre J s) (k : Sh J t (s.size + 1)) (hs : s.size ≤ 2000) (ht : t.size ≤ 2000) : scanS J = joinR s.size (scanS s) (scanS t) := by
  have hz := k.size
  have hp := sepTo_ge (s := s) (i := 0) (Nat.zero_le _)
  obtain ⟨k1, k2⟩ := scan_pre h (t.size + 1) (s.size + 1) (sepTo s 0) [] hp.2 (by omega)
  have e0 : scanS J = scanGo J (t.size + 1 + (s.size + 1)) (sepTo s 0) [] := by
    unfold scanS
    rw [h.sepTo (Nat.zero_le _), show J.size + 1 = t.size + 1 + (s.size + 1) by omega]
  cases hr : scanS s with
  | bad e a =>
    rw [e0, k1 e a hr]
    rfl
  | ok l =>
    obtain ⟨F', f1, f2, f3⟩ := k2 l hr
    obtain ⟨f, rfl⟩ : ∃ f, F' = f + 1 := ⟨F' - 1, by omega⟩
    have hl := asc_len (scanS_asc hr).1
    have hpt := sepTo_ge (s := t) (i := 0) (Nat.zero_le _)
    have e1 : sepTo J (s.size + 1) = s.size + 1 + sepTo t 0 := k.sepTo 0
    have sh := scan_shift k (l ++ [⟨6, (s.size : Int), 1, 0, ⟨#[]⟩⟩]) f (sepTo t 0) [] (by rw [List.length_append, List.length_cons, List.length_nil]; omega)
    rw [List.map_nil, List.append_nil] at sh
    have e2 : scanGo t f (sepTo t 0) [] = scanS t := scan_fuel _ _ _ _ (by omega) (by omega)
    rw [e2] at sh
    have e3 : scanGo J (f + 1) s.size l = scanGo J f (s.size + 1 + sepTo t 0) (l ++ [⟨6, (s.size : Int), 1, 0, ⟨#[]⟩⟩]) := by
      rw [scanGo, if_pos h.size, h.brk]
      simp only
      rw [if_neg (show ¬ l.length = 16384 by omega), e1, show (((s.size + 1 : Nat) : Int) - (s.size : Int)) = 1 by omega]
    rw [e0, f3, e3, sh]
    cases scanS t with
    | bad e a => rfl
    | ok m => rfl
end Go.Proofs.YtafjdncajpjmlaaDoor.Tok
