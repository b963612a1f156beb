/-
  Layer 8: whether two lists of tokens are equal, by the reference. (Written by wip/gen/token-same.py.)
-/
import Derived.Test.YtljgehammocpkaaGreatDoorTokShow2
namespace Go.Proofs.YtljgehammocpkaaGreatDoor.Tok
open Go.RowKit
set_option linter.unusedVariables false
set_option linter.unusedSimpArgs false

deriving instance DecidableEq for T5
theorem take_step {l1 l2 : List T5} {j : Nat} (h1 : j < l1.length) (h2 : j < l2.length) (h : l1.take j = l2.take j) (e : l1[j] = l2[j]) : l1.take (j + 1) = l2.take (j + 1) := by
  rw [List.take_succ_eq_append_getElem h1, List.take_succ_eq_append_getElem h2, h, e]
/-- Tokens that a slice holds. -/
def ToksAt (w : World) (a : Option Addr) (c : Nat) (l : List T5) : Prop := l.length ≤ c ∧ ∃ m o, (l ≠ [] → a = some ⟨m, o, none⟩) ∧ TokCells w m o l
theorem ToksAt.below {w w' : World} {a : Option Addr} {c : Nat} {l : List T5} (h : ToksAt w a c l) (hb : Below w.heap.size w w') : ToksAt w' a c l := by
  obtain ⟨h1, m, o, h2, h3⟩ := h
  exact ⟨h1, m, o, h2, h3.below hb⟩

set_option maxRecDepth 100000 in
set_option maxHeartbeats 8000000 in
theorem sameQ (l1 l2 : List T5) (a1 a2 : Option Addr) (c1 c2 : Nat) (w : World) (hl1 : l1.length ≤ 1000000) (hl2 : l2.length ≤ 1000000) (h1 : ToksAt w a1 c1 l1) (h2 : ToksAt w a2 c2 l2) :
    Calls Tryz.prog 13 #[.slice a1 l1.length c1, .slice a2 l2.length c2] w fun e w' => e = .returned (.bool (decide (l1 = l2))) ∧ Below w.heap.size w w' := by
  obtain ⟨n, hN⟩ : ∃ n, Hid (l1.length = n) := ⟨_, rfl⟩
  obtain ⟨n2, hN2⟩ : ∃ n, Hid (l2.length = n) := ⟨_, rfl⟩
  rw [hN.out, hN2.out]
  have hn1 : n ≤ 1000000 := by rw [← hN.out]; exact hl1
  have hn2 : n2 ≤ 1000000 := by rw [← hN2.out]; exact hl2
  obtain ⟨-, m1, o1, ha1, hc1⟩ := h1
  obtain ⟨-, m2, o2, ha2, hc2⟩ := h2
  clear hl1 hl2
  by_cases hnn : n = n2
  · subst hnn
    have hi64 : (n : Int) ≤ 1000000 := by omega
    clear hn2
    go_enter Tryz.func13, Tryz.ntmps13
    go_wp2
    go_loopw [5] (fun i wr => ∃ j : Nat, j ≤ n ∧ i = .int .i64 (j : Int) ∧ Hid (l1.take j = l2.take j) ∧ Below w.heap.size w wr) (fun i _ => n - (intOf i).toNat)
    case atStart => exact ⟨0, Nat.zero_le _, rfl, rfl, Below.refl _ _⟩
    case round =>
      obtain ⟨j, hj, rfl, htk, hb⟩ := hrel
      by_cases hlt : j < n
      · have hlt' : (j : Int) < (n : Int) := by omega
        have hj1 : j < l1.length := by rw [hN.out]; exact hlt
        have hj2 : j < l2.length := by rw [hN2.out]; exact hlt
        have e1 := ha1 (fun e => by rw [e] at hj1; exact absurd hj1 (by simp))
        have e2 := ha2 (fun e => by rw [e] at hj2; exact absurd hj2 (by simp))
        subst e1
        subst e2
        obtain ⟨x0, x1, x2, x3, x4⟩ := hc1.below hb j hj1
        obtain ⟨y0, y1, y2, y3, y4⟩ := hc2.below hb j hj2
        have hstep : l1[j] = l2[j] → Hid (l1.take (j + 1) = l2.take (j + 1)) := take_step hj1 hj2 htk.out
        have hno : l1[j] ≠ l2[j] → decide (l1 = l2) = false := fun hne => decide_eq_false (fun e => hne (by subst e; rfl))
        have hx1 := fun w' => elem_tok w' m1 o1 n c1 j hlt
        have hx2 := fun w' => elem_tok w' m2 o2 n c2 j hlt
        generalize l1[j] = x at *
        generalize l2[j] = y at *
        obtain ⟨k, p, z, nn, t⟩ := x
        obtain ⟨k2, p2, z2, nn2, t2⟩ := y
        simp only [] at x0 x1 x2 x3 x4 y0 y1 y2 y3 y4
        by_cases hne : (⟨k, p, z, nn, t⟩ : T5) = ⟨k2, p2, z2, nn2, t2⟩
        case pos =>
          have hst := hstep hne
          cases hne
          clear hno hstep
          go_wp2
          go_region
          all_goals go_wp2
          all_goals go_roundw
          case rel => exact ⟨j + 1, by omega, by go_num, hst, hb.drew⟩
          case measure => simp [intOf]; omega
        by_cases qk : k = k2
        case neg =>
          go_wp2
          go_region
          all_goals go_wp2
          all_goals go_ret
          all_goals exact ⟨by rw [hno hne]; rfl, hb.drew⟩
        subst qk
        by_cases qp : p = p2
        case neg =>
          go_wp2
          go_region
          all_goals go_wp2
          all_goals go_ret
          all_goals exact ⟨by rw [hno hne]; rfl, hb.drew⟩
        subst qp
        by_cases qz : z = z2
        case neg =>
          go_wp2
          go_region
          all_goals go_wp2
          all_goals go_ret
          all_goals exact ⟨by rw [hno hne]; rfl, hb.drew⟩
        subst qz
        by_cases qnn : nn = nn2
        case neg =>
          go_wp2
          go_region
          all_goals go_wp2
          all_goals go_ret
          all_goals exact ⟨by rw [hno hne]; rfl, hb.drew⟩
        subst qnn
        have qt : ¬ t = t2 := fun e => hne (by rw [e])
        have qt2 : (t.toList == t2.toList) = false := by
          rw [beq_eq_false_iff_ne]
          intro e
          apply qt
          rw [ByteArray.toList_eq, ByteArray.toList_eq] at e
          cases t; cases t2
          simp only [ByteArray.mk.injEq]
          exact Array.toList_inj.1 e
        go_wp2
        go_region
        all_goals go_wp2
        all_goals go_ret
        all_goals exact ⟨by rw [hno hne]; rfl, hb.drew⟩
      · obtain rfl : n = j := by omega
        have hd : decide (l1 = l2) = true := decide_eq_true (by
          have := htk.out
          rw [List.take_of_length_le (Nat.le_of_eq hN.out), List.take_of_length_le (Nat.le_of_eq hN2.out)] at this
          exact this)
        have hn0 : ¬ (n : Int) < (n : Int) := by omega
        go_wp2
        go_ret
        exact ⟨rfl, hb⟩
  · have hd : decide (l1 = l2) = false := decide_eq_false (fun e => hnn (by rw [← hN.out, ← hN2.out, e]))
    have hx : ((n : Int) != (n2 : Int)) = true := by simp; omega
    rw [hd]
    go_enter Tryz.func13, Tryz.ntmps13
    go_wp2
    go_ret
    exact ⟨rfl, Below.refl _ _⟩
end Go.Proofs.YtljgehammocpkaaGreatDoor.Tok
