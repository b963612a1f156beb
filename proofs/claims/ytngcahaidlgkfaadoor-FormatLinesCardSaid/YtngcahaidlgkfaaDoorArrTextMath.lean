/-
  Layer 3: the code points of a string, as the conversion to runes gives them.
-/
import Derived.Test.YtngcahaidlgkfaaDoorInts
import Derived.Laws.IdiomStrings
import Derived.Laws.Cover4
namespace Go.Proofs.YtngcahaidlgkfaaDoor.Shape
open Go.RowKit

def rnF (s : ByteArray) : Nat → Nat → List Int
  | 0, _ => []
  | b + 1, i => if i < s.size then ((Utf8.decode s i).1 : Int) :: rnF s b (i + (Utf8.decode s i).2) else []
/-- The code points of s. -/
def rn (s : ByteArray) : List Int := rnF s s.size 0
theorem rnF_eq (s : ByteArray) : ∀ (b i : Nat) (acc : Array Value), Conv.runesFrom s b i acc = acc ++ ((rnF s b i).map (Value.int .i32)).toArray
  | 0, _, acc => by simp [Conv.runesFrom, rnF]
  | b + 1, i, acc => by
    unfold Conv.runesFrom rnF
    split
    · show Conv.runesFrom s b (i + (Utf8.decode s i).2) (acc.push (.int .i32 (Int.ofNat (Utf8.decode s i).1))) = _
      rw [rnF_eq s b]; simp
    · simp
theorem rn_eq (s : ByteArray) : Conv.runesFrom s s.size 0 #[] = ((rn s).map (Value.int .i32)).toArray := by rw [rnF_eq, rn]; simp
theorem decode_bd (s : ByteArray) (i : Nat) : (Utf8.decode s i).1 < 2097152 := by
  have h : ∀ k, (s.get! k).toNat < 256 := fun k => (s.get! k).toNat_lt
  have h0 := h (i + 0)
  have h1 := h (i + 1)
  have h2 := h (i + 2)
  have h3 := h (i + 3)
  unfold Utf8.decode Utf8.runeError
  simp only
  repeat' split
  all_goals simp only
  all_goals omega
theorem rnF_bd (s : ByteArray) : ∀ (b i : Nat), ∀ x ∈ rnF s b i, 0 ≤ x ∧ x < 2097152
  | 0, _, x, hx => by simp [rnF] at hx
  | b + 1, i, x, hx => by
    unfold rnF at hx
    split at hx
    · rcases List.mem_cons.1 hx with e | e
      · have := decode_bd s i
        rw [e]; omega
      · exact rnF_bd s b _ x e
    · simp at hx
theorem rn_bd {s : ByteArray} : ∀ x ∈ rn s, 0 ≤ x ∧ x < 2097152 := rnF_bd s _ _
theorem rnF_len (s : ByteArray) : ∀ (b i : Nat), (rnF s b i).length ≤ b
  | 0, _ => by simp [rnF]
  | b + 1, i => by
    unfold rnF
    split
    · have := rnF_len s b (i + (Utf8.decode s i).2)
      simp only [List.length_cons]; omega
    · simp
theorem rn_len (s : ByteArray) : (rn s).length ≤ s.size := rnF_len s _ _
end Go.Proofs.YtngcahaidlgkfaaDoor.Shape
