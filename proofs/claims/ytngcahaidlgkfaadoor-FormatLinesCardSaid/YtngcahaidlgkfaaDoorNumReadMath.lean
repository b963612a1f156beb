/-
  Plain mathematics of decimal writing: what a string of bytes denotes.
-/
import Derived.Test.YtngcahaidlgkfaaDoorNumMath
namespace Go.Proofs.YtngcahaidlgkfaaDoor.Num

/-- The number that digits denote, n being what the digits before them denote. -/
def rdGo : Int → List UInt8 → Option Int
  | n, [] => some n
  | n, c :: r => if c.toNat < 48 ∨ 57 < c.toNat then none else if (4611686018427387903 - ((c.toNat : Int) - 48)) / 10 < n then none else rdGo (10 * n + ((c.toNat : Int) - 48)) r
def rdAns (s : Int) : Option Int → Int × Int
  | none => (0, 4)
  | some n => (s * n, 0)
def rdS (l : List UInt8) : Int × Int :=
  match l with
  | [] => (0, 4)
  | c :: r => if c.toNat = 95 then (if r = [] then (0, 4) else rdAns (-1) (rdGo 0 r)) else rdAns 1 (rdGo 0 (c :: r))

theorem rdGo_low {n : Int} {c : UInt8} {r : List UInt8} (h : c.toNat < 48) : rdGo n (c :: r) = none := by simp [rdGo, h]
theorem rdGo_high {n : Int} {c : UInt8} {r : List UInt8} (h : 57 < c.toNat) : rdGo n (c :: r) = none := by simp [rdGo, h]
theorem rdGo_big {n : Int} {c : UInt8} {r : List UInt8} (h : (4611686018427387903 - ((c.toNat : Int) - 48)) / 10 < n) : rdGo n (c :: r) = none := by
  simp [rdGo, h]
theorem rdGo_step {n : Int} {c : UInt8} {r : List UInt8} (h1 : 48 ≤ c.toNat) (h2 : c.toNat ≤ 57) (h3 : n ≤ (4611686018427387903 - ((c.toNat : Int) - 48)) / 10) :
    rdGo n (c :: r) = rdGo (10 * n + ((c.toNat : Int) - 48)) r := by
  rw [rdGo, if_neg (by omega), if_neg (by omega)]
theorem rdGo_bd {n : Int} {c : UInt8} (h1 : 48 ≤ c.toNat) (h2 : c.toNat ≤ 57) (h0 : 0 ≤ n) (h3 : n ≤ (4611686018427387903 - ((c.toNat : Int) - 48)) / 10) :
    0 ≤ 10 * n + ((c.toNat : Int) - 48) ∧ 10 * n + ((c.toNat : Int) - 48) ≤ 4611686018427387903 := by omega

theorem rdS_nil : rdS [] = (0, 4) := rfl
theorem rdS_sign : rdS [95] = (0, 4) := rfl
theorem rdS_neg {r : List UInt8} (h : r ≠ []) : rdS (95 :: r) = rdAns (-1) (rdGo 0 r) := by simp [rdS, h]
theorem rdS_pos {c : UInt8} {r : List UInt8} (h : ¬ c.toNat = 95) : rdS (c :: r) = rdAns 1 (rdGo 0 (c :: r)) := by simp [rdS, h]

/-- A leading zero changes nothing. -/
theorem rdS_zero {c : UInt8} {r : List UInt8} (h : ¬ c.toNat = 95) : rdS (48 :: c :: r) = rdS (c :: r) := by
  rw [rdS_pos h, rdS_pos (by decide), rdGo_step (by decide) (by decide) (by decide)]
  rfl
end Go.Proofs.YtngcahaidlgkfaaDoor.Num
