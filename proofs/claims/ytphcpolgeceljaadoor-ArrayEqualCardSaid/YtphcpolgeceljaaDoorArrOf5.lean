/-
  Layer 3: the reference's Of, whole.
-/
import Derived.Test.YtphcpolgeceljaaDoorArrOf4
namespace Go.Proofs.YtphcpolgeceljaaDoor.Shape
open Go.RowKit

theorem kind_right {k : Int} {sh nu : List Int} {it : List Arr} (h : rightE (.mk k sh nu it) = 0) : k = 1 ∨ k = 2 ∨ k = 3 := by
  by_cases hb : k < 1 ∨ 3 < k
  · rw [rightE, chk_kind hb] at h; cases h
  · omega
theorem ofA_box {sh : List Int} {F : Arr} {gs gn : List Int} {gi : List Arr} {w w' : World} {e : Ending} (hE : rightE F = 0) (hD : dimsE sh = 0) (hs : srcA F = .mk 3 gs gn gi) (h : OfBox sh gi w e w') : GiveNewE (ofA sh F).1 (ofA sh F).2 w e w' := by
  unfold OfBox at h
  rw [ofA, if_pos hE, if_pos hD, hs, if_pos (show (Arr.mk 3 gs gn gi).kind = 3 from rfl)]
  show GiveNewE (if pr sh + sumW (cyc gi zeroA (pr sh).toNat) ≤ 262144 then _ else _ : Arr × Int).1 (if pr sh + sumW (cyc gi zeroA (pr sh).toNat) ≤ 262144 then _ else _ : Arr × Int).2 w e w'
  split at h
  · rename_i hc; rw [if_pos hc]; exact h
  · rename_i hc; rw [if_neg hc]; exact h
theorem ofA_num {sh : List Int} {F : Arr} {k : Int} {gs gn : List Int} {gi : List Arr} (hE : rightE F = 0) (hD : dimsE sh = 0) (hs : srcA F = .mk k gs gn gi) (hk : k ≠ 3) : ofA sh F = (.mk k sh (cyc gn 0 (pr sh).toNat) [], 0) := by
  rw [ofA, if_pos hE, if_pos hD, hs, if_neg (show ¬ (Arr.mk k gs gn gi).kind = 3 from hk)]; rfl
theorem ofR (a : Option Addr) (cap : Nat) (sh : List Int) (v : Value) (F : Arr) (w : World) (g : IntsAt w a cap sh) (h : ArrAt w v F) (hR : Reach F) :
    Calls Tryd.prog 42 #[.slice a sh.length cap, v] w (GiveNewE (ofA sh F).1 (ofA sh F).2 w) := by
  by_cases hE : rightE F = 0
  · by_cases hD : dimsE sh = 0
    · have hr := (dimsE_right sh).1 hD
      obtain ⟨k, fs, fn, fi⟩ := F
      by_cases hz : aSize (.mk k fs fn fi) = 0
      · have hs : srcA (.mk k fs fn fi) = fillA k := by rw [srcA, if_pos hz]; rfl
        rcases kind_right hE with rfl | rfl | rfl
        · have hG : fillA 1 = .mk 1 [] [0] [] := rfl
          rw [ofA_num hE hD (hs.trans hG) (by decide)]
          exact ofR_num_fill a cap sh v 1 fs fn fi _ _ _ hG hz w g h hE hD (Or.inl rfl) (by decide) (by intro x hx; rw [List.mem_singleton.1 hx]; decide) hr
        · have hG : fillA 2 = .mk 2 [] [32] [] := rfl
          rw [ofA_num hE hD (hs.trans hG) (by decide)]
          exact ofR_num_fill a cap sh v 2 fs fn fi _ _ _ hG hz w g h hE hD (Or.inr rfl) (by decide) (by intro x hx; rw [List.mem_singleton.1 hx]; decide) hr
        · have hG : fillA 3 = .mk 3 [] [] [.mk 1 [0] [] []] := rfl
          have hRL : ReachL [.mk 1 [0] [] []] := by rw [ReachL, ReachL, Reach, ReachL]; exact ⟨⟨by decide, by decide, by decide, trivial⟩, trivial⟩
          exact (ofR_box_fill a cap sh v fs fn fi _ _ _ hG hz w g h hE hD (by decide) hRL hr).mono fun e w' hP => ofA_box hE hD (hs.trans hG) hP
      · have hs : srcA (.mk k fs fn fi) = .mk k fs fn fi := by rw [srcA, if_neg hz]
        rw [Reach] at hR
        rcases kind_right hE with rfl | rfl | rfl
        · rw [ofA_num hE hD hs (by decide)]
          exact ofR_num a cap sh v 1 fs fn fi w g h hE hD (Or.inl rfl) (by simp [aSize, Arr.kind, Arr.nums] at hz; exact List.length_pos_iff.2 hz) hr
        · rw [ofA_num hE hD hs (by decide)]
          exact ofR_num a cap sh v 2 fs fn fi w g h hE hD (Or.inr rfl) (by simp [aSize, Arr.kind, Arr.nums] at hz; exact List.length_pos_iff.2 hz) hr
        · exact (ofR_box a cap sh v fs fn fi w g h hE hD (by simp [aSize, Arr.kind, Arr.items] at hz; exact List.length_pos_iff.2 hz) hR.2.2.2 hr).mono fun e w' hP => ofA_box hE hD hs hP
    · rw [show ofA sh F = (zeroA, dimsE sh) by rw [ofA, if_pos hE, if_neg hD]]
      exact ofR_dims a cap sh v F w g h hE hD
  · rw [show ofA sh F = (zeroA, 1) by rw [ofA, if_neg hE]]
    exact ofR_bad a cap sh v F w h hE
end Go.Proofs.YtphcpolgeceljaaDoor.Shape
