/-
  Layer 3: the code points of a string, as the conversion to runes gives them.
-/
import Derived.Test.YtphcpolgeceljaaDoorInts
import Derived.Laws.IdiomStrings
import Derived.Laws.Cover4
namespace Go.Proofs.YtphcpolgeceljaaDoor.Shape
open Go.RowKit

def rnF (s : ByteArray) : Nat → Nat → List Int
  | 0, _ => []
  | b + 1, i => if i < s.size then ((Utf8.decode s i).1 : Int) :: rnF s b (i + (Utf8.decode s i).2) else []
/-- The code points of s. -/
def rn (s : ByteArray) : List Int := rnF s s.size 0
theorem rnF_eq (s : ByteArray) : ∀ (b i : Nat) (acc : Array Value), Conv.runesFrom s b i acc = acc ++ ((rnF s b i).map (Value.int .i32)).toArray
  | 0, _, acc => by simp [Conv.runesFrom, rnF]
  | b + 1, i, acc => by
    unfold Conv.runesFrom rnF
    split
    · show Conv.runesFrom s b (i + (Utf8.decode s i).2) (acc.push (.int .i32 (Int.ofNat (Utf8.decode s i).1))) = _
      rw [rnF_eq s b]; simp
    · simp
theorem rn_eq (s : ByteArray) : Conv.runesFrom s s.size 0 #[] = ((rn s).map (Value.int .i32)).toArray := by rw [rnF_eq, rn]; simp
theorem decode_bd (s : ByteArray) (i : Nat) : (Utf8.decode s i).1 < 2097152 := by
  have h : ∀ k, (s.get! k).toNat < 256 := fun k => (s.get! k).toNat_lt
  have h0 := h (i + 0)
  have h1 := h (i + 1)
  have h2 := h (i + 2)
  have h3 := h (i + 3)
  unfold Utf8.decode Utf8.runeError
  simp only
  repeat' split
  all_goals simp only
  all_goals omega
theorem rnF_bd (s : ByteArray) : ∀ (b i : Nat), ∀ x ∈ rnF s b i, 0 ≤ x ∧ x < 2097152
  | 0, _, x, hx => by simp [rnF] at hx
  | b + 1, i, x, hx => by
    unfold rnF at hx
    split at hx
    · rcases List.mem_cons.1 hx with e | e
      · have := decode_bd s i
        rw [e]; omega
      · exact rnF_bd s b _ x e
    · simp at hx
theorem rn_bd {s : ByteArray} : ∀ x ∈ rn s, 0 ≤ x ∧ x < 2097152 := rnF_bd s _ _
theorem rnF_len (s : ByteArray) : ∀ (b i : Nat), (rnF s b i).length ≤ b
  | 0, _ => by simp [rnF]
  | b + 1, i => by
    unfold rnF
    split
    · have := rnF_len s b (i + (Utf8.decode s i).2)
      simp only [List.length_cons]; omega
    · simp
theorem rn_len (s : ByteArray) : (rn s).length ≤ s.size := rnF_len s _ _
/-- What the conversions of Text do. -/
theorem to_runes (s : ByteArray) (hs : s.size ≤ 1000000) (W : World) : ∃ cap W2, (convert 9 60 (.string s)).run Tryd.prog W = .ok (.slice (some ⟨W.heap.size, 0, none⟩) (rn s).length cap) W2 ∧
    Below W.heap.size W W2 ∧ W2.heap.size = W.heap.size + 1 ∧ ∀ j (h : j < (rn s).length), W2.cell? ⟨W.heap.size, j, none⟩ = some (.int .i32 (rn s)[j]) := by
  have hl := rn_len s
  have e := run_runes_of_string W 9 60 21 s Tryd.underlying9 Tryd.underlying60 Tryd.underlying21 (by rw [rn_eq]; simp; omega)
  rw [rn_eq] at e
  simp only [List.size_toArray, List.length_map] at e
  refine ⟨_, _, e, (Below.refl _ _).drew.alloc (Nat.le_refl _) _, by simp, fun j hj => ?_⟩
  rw [show W.heap.size = W.drew.heap.size from rfl, World.cell?_alloc_new]
  rw [Array.getElem?_append_left (by simp only [List.size_toArray, List.length_map]; exact hj), List.getElem?_toArray, List.getElem?_map, List.getElem?_eq_getElem hj]
  rfl
theorem of_runes {W : World} {b cap : Nat} {l : List Int} (h : ∀ j (hj : j < l.length), W.cell? ⟨b, j, none⟩ = some (.int .i32 l[j])) :
    (convert 60 9 (.slice (some ⟨b, 0, none⟩) l.length cap)).run Tryd.prog W = .ok (.string (runesBytes l)) W := by
  rw [run_convert_runes_string W 60 9 21 _ _ _ Tryd.underlying60 Tryd.underlying21 Tryd.underlying9]
  refine run_runesToString W _ _ _ l ?_
  have hl := run_loadCells_list (P := Tryd.prog) W ⟨b, 0, none⟩ (l.map (Value.int .i32)) (fun j v hj => by
    have hj' : j < l.length := by
      have := (List.getElem?_eq_some_iff.1 hj).1
      simpa using this
    rw [add_plain, Nat.zero_add, h j hj']
    rw [← hj, List.getElem?_map, List.getElem?_eq_getElem hj']
    rfl)
  rw [List.length_map] at hl; exact hl
end Go.Proofs.YtphcpolgeceljaaDoor.Shape
