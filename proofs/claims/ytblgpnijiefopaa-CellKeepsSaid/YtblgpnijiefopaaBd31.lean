/-
  Layer 4: plain mathematics: an array padded with more rows.
-/
import Derived.Test.YtblgpnijiefopaaBd21
namespace Go.Proofs.Ytblgpnijiefopaa.Shape
open Go.RowKit
set_option linter.unusedVariables false

/-- More rows: the elements first, then fill. -/
theorem padS_more {α : Type} (z : α) (t f : Int) (ts : List Int) (els : List α) (hf : 0 ≤ f) (hft : f ≤ t) (hn : NN ts) (he : els.length = f.toNat * prN ts) :
    padS z (t :: ts) (f :: ts) els = els ++ List.replicate ((t.toNat - f.toNat) * prN ts) z := by
  rw [padS]
  have e : t.toNat = f.toNat + (t.toNat - f.toNat) := by omega
  conv => lhs; rw [e, List.range_add, List.map_append, List.flatten_append]
  congr 1
  · conv => rhs; rw [← flatten_blocks _ _ els he]
    refine flatten_congr _ _ _ fun i hi => ?_
    by_cases h0 : 0 < prN ts
    · rw [if_pos ⟨hi, h0⟩, padS_self z ts _ hn (block_len _ _ _ _ he hi)]
    · rw [if_neg (fun g => h0 g.2)]
      have : prN ts = 0 := by omega
      rw [this]; simp
  · rw [List.map_map, ← flatten_rep]
    refine flatten_congr _ _ _ fun i hi => ?_
    rw [Function.comp_apply, if_neg (fun g => by omega)]
theorem wt_plain {k : Int} {sh nu : List Int} (hk : k = 1 ∨ k = 2) (h : nu.length ≤ 262144) : ¬ 262144 < wt (.mk k sh nu []) := by
  have e : aSize (.mk k sh nu []) = nu.length := by unfold aSize; exact if_pos hk
  rw [wt, e, if_neg (by omega)]
  omega
theorem padA_rows {A : Arr} (hx : rightE A = 0) (hk : A.kind ≠ 3) {t f : Int} {ts : List Int} (hs : A.shape = f :: ts) (hft : f ≤ t) (hr : rightB (t :: ts) = true) :
    ∃ m, padA A (t :: ts) = (.mk A.kind (t :: ts) (A.nums ++ List.replicate m (fillZ A.kind)) [], 0) ∧ A.nums.length + m ≤ 65536 := by
  have hrs := right_short hx
  obtain ⟨h1, h2, h3, h4, h5, h6⟩ := right_lens hx
  obtain ⟨g1, g2⟩ := h3 hk
  have hNN := (right_def.1 hrs).2.1
  have hNt := (right_def.1 hr).2.1
  have htb := part_bd (a := t :: ts) (b := []) (by rw [List.append_nil]; exact hr)
  obtain ⟨k, sh, nu, it⟩ := A
  simp only [Arr.kind, Arr.shape, Arr.nums, Arr.items] at *
  subst hs; subst g2
  have hlen : nu.length = f.toNat * prN ts := by rw [g1, prN_cons hNN.head hNN.tail]
  have hp := padS_more (fillZ k) t f ts nu hNN.head hft hNN.tail hlen
  have hl2 := padS_len (fillZ k) (t :: ts) (f :: ts) nu rfl hNt hNN g1
  rw [hp] at hl2
  have htot : prN (t :: ts) ≤ 65536 := by unfold prN; omega
  have hlm : nu.length + (t.toNat - f.toNat) * prN ts ≤ 65536 := by rw [List.length_append, List.length_replicate] at hl2; omega
  refine ⟨(t.toNat - f.toNat) * prN ts, ?_, hlm⟩
  have hsm : smallB (t :: ts) (f :: ts) = true := smallB_iff.2 fun i hi => by
    simp only [List.length_cons, Nat.sub_self, Nat.zero_add]
    cases i with
    | zero => simpa using hft
    | succ i => simp
  have hA : asmA k ([] ++ t :: ts) (t :: ts) [.mk k (f :: ts) nu []] = .mk k (t :: ts) (nu ++ List.replicate ((t.toNat - f.toNat) * prN ts) (fillZ k)) [] := by
    rw [asmA]
    simp only [if_neg hk, List.nil_append, List.map_cons, List.map_nil, List.flatten_cons, List.flatten_nil, List.append_nil, partN, Arr.shape, Arr.nums]
    rw [leadS_full (by simp), hp]
  rw [padA, if_pos hx, if_pos hr, if_neg (by simp [Arr.shape]), if_pos (by simpa [Arr.shape] using hsm), asmS, List.nil_append, if_pos hr]
  rw [List.nil_append] at hA
  show outA (asmA k (t :: ts) (t :: ts) [.mk k (f :: ts) nu []]) = _
  rw [hA, outA_ok]
  exact wt_plain (by omega) (by rw [List.length_append, List.length_replicate]; omega)
/-- Few rows more of a small array: a valid shape. -/
theorem rows_right {f t : Int} {ts : List Int} (hn : NN (f :: ts)) (h40 : ∀ x ∈ f :: ts, x ≤ 40) (hl : ts.length ≤ 2) (hp : pr (f :: ts) ≤ 300) (h1 : f ≤ t) (h2 : t ≤ f + 19) : rightB (t :: ts) = true := by
  have hf0 := hn.head
  have hf4 := h40 f (by simp)
  have ht : NN (t :: ts) := fun x hx => by
    rcases List.mem_cons.1 hx with rfl | hx
    · omega
    · exact hn.tail x hx
  refine right_def.2 ⟨by simp; omega, ht, ?_⟩
  have key : ∀ P : Int, 1 ≤ P → P ≤ 40 → t * P ≤ 65536 := fun P h3 h4 => by
    have : t * P ≤ 59 * 40 := Int.mul_le_mul (by omega) h4 (by omega) (by decide)
    omega
  have key2 : ∀ P : Int, 1 ≤ P → P ≤ 1600 → f * P ≤ 300 → t * P ≤ 65536 := fun P h3 h4 h5 => by
    have e : t * P = f * P + (t - f) * P := by rw [← Int.add_mul]; congr 1; omega
    have : (t - f) * P ≤ 19 * 1600 := Int.mul_le_mul (by omega) h4 (by omega) (by decide)
    omega
  have fin : ∀ P : Int, 1 ≤ P → P ≤ 65536 → t * P ≤ 65536 → (if t = 0 then 1 else t) * P ≤ 65536 := fun P h3 h3' h4 => by
    split
    · omega
    · exact h4
  match ts, hl with
  | [], _ =>
    rw [nz, nz]
    exact fin 1 (by decide) (by decide) (by omega)
  | [a], _ =>
    have ha := hn a (by simp)
    have ha4 := h40 a (by simp)
    rw [nz, nz, nz, Int.mul_one]
    by_cases a0 : a = 0
    · rw [if_pos a0]; exact fin 1 (by decide) (by decide) (by omega)
    · rw [if_neg a0]; exact fin a (by omega) (by omega) (key a (by omega) ha4)
  | [a, b], _ =>
    have ha := hn a (by simp)
    have ha4 := h40 a (by simp)
    have hb := hn b (by simp)
    have hb4 := h40 b (by simp)
    rw [nz, nz, nz, nz, Int.mul_one]
    by_cases a0 : a = 0
    · rw [if_pos a0, Int.one_mul]
      by_cases b0 : b = 0
      · rw [if_pos b0]; exact fin 1 (by decide) (by decide) (by omega)
      · rw [if_neg b0]; exact fin b (by omega) (by omega) (key b (by omega) hb4)
    · rw [if_neg a0]
      by_cases b0 : b = 0
      · rw [if_pos b0, Int.mul_one]; exact fin a (by omega) (by omega) (key a (by omega) ha4)
      · rw [if_neg b0]
        have h3 : 1 * 1 ≤ a * b := Int.mul_le_mul (by omega) (by omega) (by decide) (by omega)
        have h4 : a * b ≤ 40 * 40 := Int.mul_le_mul ha4 hb4 hb (by decide)
        rw [pr, pr, pr, pr, Int.mul_one] at hp
        exact fin (a * b) (by omega) (by omega) (key2 _ (by omega) (by omega) hp)
  | _ :: _ :: _ :: _, hl => simp at hl
theorem fillA_num {k : Int} (hk : k = 1 ∨ k = 2) : fillA k = .mk k [] [fillZ k] [] := by
  rcases hk with rfl | rfl <;> rfl
end Go.Proofs.Ytblgpnijiefopaa.Shape
