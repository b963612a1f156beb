/-
  Layer 8: the law TokenJoins where the first text has a fault. (Written by wip/gen/token-joins.py.)
-/
import Derived.Test.YtljgehammocpkaaGreatDoorTokEx
import Derived.Test.YtljgehammocpkaaGreatDoorTokGF
import Derived.Test.YtljgehammocpkaaGreatDoorTokMovg
namespace Go.Proofs.YtljgehammocpkaaGreatDoor.Tok
open Go.RowKit
set_option linter.unusedVariables false
set_option linter.unusedSimpArgs false

/-- Scan, where it fails. -/
theorem scanB (s : ByteArray) (hs : s.size ≤ 65536) (e : Int) (a : Nat) (hr : scanS s = .bad e a) (w : World) (h1 : 7 < w.heap.size) (h2 : Tabs w) :
    Calls Tryz.prog 11 #[.string s] w fun r w' => r = .returned (.tuple #[.slice none 0 0, .agg #[.int .i64 e, .int .i64 (a : Int), .slice none 0 0, .slice none 0 0, .string ⟨#[]⟩]]) ∧ Below w.heap.size w w' :=
  (scanQ s hs (escOK s hs) w h1 h2).mono fun r w' q => by
    rw [hr] at q
    exact ⟨q.2, q.1⟩
/-- Scan, where it doesn't. -/
theorem scanO (s : ByteArray) (hs : s.size ≤ 65536) (l : List T5) (hr : scanS s = .ok l) (w : World) (h1 : 7 < w.heap.size) (h2 : Tabs w) :
    Calls Tryz.prog 11 #[.string s] w fun r w' => ∃ p c, r = .returned (.tuple #[.slice p l.length c, .agg #[.int .i64 0, .int .i64 0, .slice none 0 0, .slice none 0 0, .string ⟨#[]⟩]]) ∧ ToksAt w' p c l ∧ Below w.heap.size w w' :=
  (scanQ s hs (escOK s hs) w h1 h2).mono fun r w' q => by
    rw [hr] at q
    obtain ⟨q1, v, q2, q3⟩ := q
    obtain ⟨p, c, rfl⟩ := q3.form
    exact ⟨p, c, q2, q3.toks.2, q1⟩
theorem scan_err {s : ByteArray} {e : Int} {a : Nat} : ∀ (f i : Nat) (acc : List T5), scanGo s f i acc = .bad e a → ¬ e = 0
  | 0, i, acc, h => by rw [scanGo] at h; cases h
  | f + 1, i, acc, h => by
    rw [scanGo] at h
    split at h
    · cases ht : tokenS s i with
      | bad e' a' =>
        rw [ht] at h
        injection h with h1 h2
        rw [← h1]; exact tokenS_bad ht
      | tok k n t j =>
        rw [ht] at h
        simp only at h
        split at h
        · injection h with h1 h2
          rw [← h1]; decide
        · exact scan_err f _ _ h
    · cases h
theorem scanA (s : ByteArray) (hs : s.size ≤ 65536) (w : World) (h1 : 7 < w.heap.size) (h2 : Tabs w) :
    Calls Tryz.prog 11 #[.string s] w fun r w' => ∃ p n c x y, r = .returned (.tuple #[.slice p n c, .agg #[.int .i64 x, .int .i64 y, .slice none 0 0, .slice none 0 0, .string ⟨#[]⟩]]) ∧ Below w.heap.size w w' := by
  cases hr : scanS s with
  | bad e a => exact (scanB s hs e a hr w h1 h2).mono fun r w' q => ⟨_, _, _, _, _, q.1, q.2⟩
  | ok l => exact (scanO s hs l hr w h1 h2).mono fun r w' ⟨p, c, q1, q2, q3⟩ => ⟨_, _, _, _, _, q1, q3⟩
end Go.Proofs.YtljgehammocpkaaGreatDoor.Tok
