/-
  Layer 5: the program's shape.Show, as layer 2 has it (without the reference of layer 2). (Written by wip/gen/format-shw.py.)
-/
import Derived.Test.YtghmbmjikkdbnaaGreatDoorCd10
import Derived.WalkMore
namespace Go.Proofs.YtghmbmjikkdbnaaGreatDoor.Shape
open Go.RowKit Go.Proofs.YtghmbmjikkdbnaaGreatDoor.Num
set_option linter.unusedVariables false
set_option maxRecDepth 100000
/-- The last k digits of N, the first one being of weight 10 ^ (k - 1). -/
def dgs (N : Nat) : Nat → List UInt8
  | 0 => []
  | k + 1 => dig (N / 10 ^ k) :: dgs N k
theorem dgs_last (N k : Nat) : dgs N (k + 1) = dgs (N / 10) k ++ [dig N] := by
  induction k with
  | zero => simp [dgs]
  | succ k ih =>
    rw [dgs, ih, dgs, List.cons_append, Nat.pow_succ, Nat.mul_comm, ← Nat.div_div_eq_div_mul]
theorem dg_dgs : ∀ (e N : Nat), (e = 0 ∨ 10 ^ e ≤ N) → N / 10 ^ e < 10 → dg N = dgs N (e + 1)
  | 0, N, _, h => by
    rw [Nat.pow_zero, Nat.div_one] at h
    rw [dg_last h]; simp [dgs]
  | e + 1, N, h0, h => by
    have h1 : 10 ^ (e + 1) ≤ N := by rcases h0 with h0 | h0; cases h0; exact h0
    rw [Nat.pow_succ] at h1
    rw [Nat.pow_succ, Nat.mul_comm, ← Nat.div_div_eq_div_mul] at h
    have hp : 0 < 10 ^ e := Nat.pow_pos (by decide)
    rw [dg_more (by omega), dgs_last, dg_dgs e (N / 10) (Or.inr (by omega)) h]
set_option maxHeartbeats 400000 in
theorem leadP (N : Nat) (hN : N ≤ 9223372036854775808) (w : World) :
    Calls Tryz.prog 144 #[.int .u64 N] w fun en w' => ∃ e P : Nat, Hid (P = 10 ^ e) ∧ en = .returned (.int .u64 (P : Int)) ∧ (e = 0 ∨ P ≤ N) ∧ N / P < 10 ∧ w = w' := by
  go_enter Tryz.func144, Tryz.ntmps144
  go_wp2
  go_loop [3] (fun u => ∃ e P : Nat, P = 10 ^ e ∧ u = .int .u64 (P : Int) ∧ (e = 0 ∨ P ≤ N)) (fun u => N / (intOf u).toNat)
  case atStart => exact ⟨0, 1, rfl, rfl, Or.inl rfl⟩
  case round =>
    obtain ⟨e, P, hP, rfl, he⟩ := hrel
    have hp : 1 ≤ P := by rw [hP]; exact Nat.pow_pos (by decide)
    have q0 : Int.tdiv (N : Int) (P : Int) = ((N / P : Nat) : Int) := by rw [Int.tdiv_eq_ediv_of_nonneg (by omega)]; rfl
    have HP : Hid (P = 10 ^ e) := hP
    clear hP
    have hmul := Nat.div_mul_le_self N P
    have hne : (P : Int) ≠ 0 := by omega
    have hQN : N / P ≤ N := Nat.div_le_self _ _
    have hwq : IntKind.u64.wrap ((N / P : Nat) : Int) = ((N / P : Nat) : Int) := by
      generalize N / P = Q at hQN
      exact IntWalk.u64_in _ (by omega)
    by_cases hq : 10 ≤ N / P
    · have hle : P * 10 ≤ N := by
        have : P * 10 ≤ N / P * P := by rw [Nat.mul_comm (N / P) P]; exact Nat.mul_le_mul_left _ hq
        omega
      have hdec : Hid (N / (P * 10) < N / P) := by
        unfold Hid
        rw [← Nat.div_div_eq_div_mul]; omega
      generalize hQe : N / P = Q at q0 hq hdec hQN hwq ⊢
      have HQe : Hid (N / P = Q) := hQe
      clear hQe
      clear hmul
      go_wp2
      refine ⟨⟨e + 1, P * 10, by rw [HP.out, Nat.pow_succ], rfl, Or.inr hle⟩, ?_⟩
      have h1 : (intOf (Value.int IntKind.u64 ((P : Int) * 10))).toNat = P * 10 := by simp only [intOf]; omega
      have h2 : (intOf (Value.int IntKind.u64 (P : Int))).toNat = P := by simp only [intOf]; omega
      rw [h1, h2, HQe.out]; exact hdec.out
    · have HQ : Hid (N / P < 10) := by unfold Hid; omega
      have HE : Hid (e = 0 ∨ P ≤ N) := he
      generalize N / P = Q at q0 hq hQN hwq ⊢
      clear hmul he
      go_wp2
      go_ret
      exact ⟨e, P, HP, rfl, HE.out, HQ.out, rfl⟩
theorem dg_abs_len {x : Int} (h1 : -9223372036854775808 ≤ x) (h2 : x ≤ 9223372036854775807) : (dg x.natAbs).length ≤ 19 := dg_len 18 x.natAbs (by omega)
theorem dgs_len (N k : Nat) : (dgs N k).length = k := by
  induction k with
  | zero => rfl
  | succ k ih => simp [dgs, ih]
set_option maxHeartbeats 1000000 in
theorem shapeShowP (a : Option Addr) (cap : Nat) (xs : List Int) (w : World) (h : IntsAt w a cap xs) (hs : xs.length ≤ 2000000) :
    Calls Tryz.prog 136 #[.slice a xs.length cap] w fun e w' => e = .returned (.string (jS xs)) ∧ Below w.heap.size w w' := by
  have hl := h.len
  have hlen : ∀ k, (jn (xs.take k)).length ≤ 42000000 := fun k => jn_len xs k h.2.2.1 hs
  go_enter Tryz.func136, Tryz.ntmps136
  go_wp2_with fail
  go_step3
  go_wp2_with fail
  go_step3
  go_wp2_with fail
  go_loopw [3, 10] (fun v i wr => ∃ (k : Nat) (L : List UInt8), k ≤ xs.length ∧ i = .int .i64 k ∧ Hid (L = jn (xs.take k)) ∧ wr.ownsRow w.heap.size 5 1 v L.length (bc L) ∧ Below w.heap.size w wr) (fun _ i _ => xs.length - (intOf i).toNat)
  case atStart => exact ⟨0, [], Nat.zero_le _, rfl, rfl, World.ownsRow_nil _ _ _ _, Below.refl _ _⟩
  case round =>
    obtain ⟨k, L, hk, rfl, hL, hown, hbel⟩ := hrel
    by_cases hlt : k < xs.length
    · obtain ⟨b, off, hi, hc⟩ := (h.below hbel).at hlt
      have hbd := h.bd hlt
      have hLl : L.length ≤ 42000000 := by rw [hL.out]; exact hlen k
      have hdl := dg_abs_len hbd.1 hbd.2
      generalize hN : xs[k].natAbs = N at hdl
      have HDL : Hid ((dg N).length ≤ 19) := hdl
      clear hdl
      by_cases hx : xs[k] < 0
      · by_cases h0 : k = 0
        · have HJ : Hid (jn (xs.take (k + 1)) = (L ++ [95]) ++ dg N) := by
            unfold Hid
            have e0 : L = [] := by rw [hL.out, h0]; rfl
            subst h0
            rw [jn_first hlt, e0, shL_neg hx, hN]; rfl
          have hk0 : k < 1 := by omega
          have e64 : IntKind.u64.wrap xs[k] = 18446744073709551616 - (N : Int) := by simp [IntKind.wrap, IntKind.signed, IntKind.bits]; omega
          have e65 : IntKind.u64.wrap (-(18446744073709551616 - (N : Int))) = (N : Int) := by simp [IntKind.wrap, IntKind.signed, IntKind.bits]; omega
          have hNb : N ≤ 9223372036854775808 := by omega
          clear hN h0 hL
          go_wp2_with (first
            | (at_builtin; refine wpList_append_byte rfl _ _ rfl w _ _ rfl _ rfl L hown hbel 95 rfl rfl (by first | omega | (simp; omega)) ?_; intro v2 w2 hown2 hbel2)
            | (go_at_call 144; refine (leadP N hNb _).mono ?_; rintro e w' ⟨E, P, HP, rfl, hE, hQ, rfl⟩))
          generalize hPL : (L ++ [95]) = PL at HJ hown2
          have hPb : PL.length ≤ 42000002 := by rw [← hPL]; first | omega | (simp; omega)
          clear hPL
          have HD0 : Hid (dg N = [] ++ dgs N (E + 1)) := by unfold Hid; exact dg_dgs E N (by rw [← HP.out]; exact hE) (by rw [← HP.out]; exact hQ)
          clear hE hQ
          go_loopw [3, 7] (fun v u wr2 => ∃ (e Q : Nat) (D : List UInt8), Hid (Q = 10 ^ e) ∧ u = .int .u64 (Q : Int) ∧ Hid (dg N = D ++ dgs N (e + 1)) ∧ wr2.ownsRow w.heap.size 5 1 v (PL ++ D).length (bc (PL ++ D)) ∧ Below w.heap.size w wr2) (fun _ u _ => (intOf u).toNat)
          case atStart => exact ⟨E, P, [], HP, rfl, HD0, by rw [List.append_nil]; exact hown2, hbel2⟩
          case round =>
            clear hown2 hbel2 hc HD0 HP
            obtain ⟨e, Q, D, HQ, rfl, HD, hown5, hbel5⟩ := hrel
            have hQ1 : 1 ≤ Q := by rw [HQ.out]; exact Nat.pow_pos (by decide)
            have hDl : D.length + (e + 1) ≤ 19 := by
              have h1 := HDL.out
              have h2 : (dgs N (e + 1)).length = e + 1 := dgs_len N (e + 1)
              rw [HD.out, List.length_append, h2] at h1; exact h1
            have hQb : Q ≤ 1000000000000000000 := by rw [HQ.out]; exact Nat.le_trans (Nat.pow_le_pow_right (by decide) (by omega : e ≤ 18)) (by decide)
            have hlen5 : (PL ++ D).length ≤ 100000000 := by rw [List.length_append]; omega
            have HDs : Hid (dg N = (D ++ [dig (N / Q)]) ++ dgs N e) := by unfold Hid; rw [HD.out, dgs, HQ.out]; simp
            have q0 : Int.tdiv (N : Int) (Q : Int) = ((N / Q : Nat) : Int) := by rw [Int.tdiv_eq_ediv_of_nonneg (by omega)]; rfl
            have hne : (Q : Int) ≠ 0 := by omega
            have hRN : N / Q ≤ N := Nat.div_le_self _ _
            have hwq : IntKind.u64.wrap ((N / Q : Nat) : Int) = ((N / Q : Nat) : Int) := by
              generalize N / Q = R at hRN
              exact IntWalk.u64_in _ (by omega)
            generalize N / Q = R at q0 hRN hwq HDs
            have hdig := (dig_int R).symm
            by_cases h1 : Q = 1
            · have he0 : e = 0 := by
                rcases Nat.eq_zero_or_pos e with h2 | h2
                · exact h2
                · have : 10 ^ 1 ≤ 10 ^ e := Nat.pow_le_pow_right (by decide) h2
                  have := HQ.out; omega
              have HK : Hid (PL ++ D ++ [dig R] = jn (xs.take (k + 1))) := by unfold Hid; rw [HJ.out, HDs.out, he0]; simp [dgs]
              have h1' : ((Q : Int) == 1) = true := by simp; omega
              clear h1 he0 HD HDs HQ HJ
              go_wp2_with (at_builtin; refine wpList_append_byte rfl _ _ rfl w _ _ rfl _ rfl (PL ++ D) hown5 hbel5 (dig R) rfl rfl hlen5 ?_; intro v6 w6 hown6 hbel6)
              refine ⟨⟨k + 1, PL ++ D ++ [dig R], by omega, by go_num, HK, hown6, hbel6⟩, ?_⟩
              simp [intOf]; omega
            · have h1' : ((Q : Int) == 1) = false := by simp; omega
              obtain ⟨e2, rfl⟩ : ∃ e2, e = e2 + 1 := ⟨e - 1, by
                rcases Nat.eq_zero_or_pos e with h2 | h2
                · exact absurd (by rw [HQ.out, h2]) h1
                · omega⟩
              have HQ2 : Hid (Q / 10 = 10 ^ e2) := by unfold Hid; rw [HQ.out, Nat.pow_succ]; omega
              have q2 : Int.tdiv (Q : Int) 10 = ((Q / 10 : Nat) : Int) := by rw [Int.tdiv_eq_ediv_of_nonneg (by omega)]; rfl
              have hlt10 : Q / 10 < Q := by omega
              generalize Q / 10 = Q2 at HQ2 q2 hlt10
              clear h1 HD HQ HJ
              go_wp2_with (at_builtin; refine wpList_append_byte rfl _ _ rfl w _ _ rfl _ rfl (PL ++ D) hown5 hbel5 (dig R) rfl rfl hlen5 ?_; intro v6 w6 hown6 hbel6)
              refine ⟨⟨e2, Q2, D ++ [dig R], HQ2, rfl, HDs, by rw [← List.append_assoc]; exact hown6, hbel6⟩, ?_⟩
              simp [intOf]; omega
        · have HJ : Hid (jn (xs.take (k + 1)) = (L ++ [32] ++ [95]) ++ dg N) := by
            unfold Hid
            rw [jn_step hlt (by omega), ← hL.out, shL_neg hx, hN]; simp
          have hk0 : 0 < k := by omega
          have e64 : IntKind.u64.wrap xs[k] = 18446744073709551616 - (N : Int) := by simp [IntKind.wrap, IntKind.signed, IntKind.bits]; omega
          have e65 : IntKind.u64.wrap (-(18446744073709551616 - (N : Int))) = (N : Int) := by simp [IntKind.wrap, IntKind.signed, IntKind.bits]; omega
          have hNb : N ≤ 9223372036854775808 := by omega
          clear hN h0 hL
          go_wp2_with (first
            | (at_builtin; refine wpList_append_byte rfl _ _ rfl w _ _ rfl _ rfl L hown hbel 32 rfl rfl (by first | omega | (simp; omega)) ?_; intro v1 w1 hown1 hbel1)
            | (at_builtin; refine wpList_append_byte rfl _ _ rfl w _ _ rfl _ rfl (L ++ [32]) hown1 hbel1 95 rfl rfl (by first | omega | (simp; omega)) ?_; intro v2 w2 hown2 hbel2)
            | (go_at_call 144; refine (leadP N hNb _).mono ?_; rintro e w' ⟨E, P, HP, rfl, hE, hQ, rfl⟩))
          generalize hPL : (L ++ [32] ++ [95]) = PL at HJ hown2
          have hPb : PL.length ≤ 42000002 := by rw [← hPL]; first | omega | (simp; omega)
          clear hPL
          have HD0 : Hid (dg N = [] ++ dgs N (E + 1)) := by unfold Hid; exact dg_dgs E N (by rw [← HP.out]; exact hE) (by rw [← HP.out]; exact hQ)
          clear hE hQ
          go_loopw [3, 7] (fun v u wr2 => ∃ (e Q : Nat) (D : List UInt8), Hid (Q = 10 ^ e) ∧ u = .int .u64 (Q : Int) ∧ Hid (dg N = D ++ dgs N (e + 1)) ∧ wr2.ownsRow w.heap.size 5 1 v (PL ++ D).length (bc (PL ++ D)) ∧ Below w.heap.size w wr2) (fun _ u _ => (intOf u).toNat)
          case atStart => exact ⟨E, P, [], HP, rfl, HD0, by rw [List.append_nil]; exact hown2, hbel2⟩
          case round =>
            clear hown2 hbel2 hc HD0 HP
            obtain ⟨e, Q, D, HQ, rfl, HD, hown5, hbel5⟩ := hrel
            have hQ1 : 1 ≤ Q := by rw [HQ.out]; exact Nat.pow_pos (by decide)
            have hDl : D.length + (e + 1) ≤ 19 := by
              have h1 := HDL.out
              have h2 : (dgs N (e + 1)).length = e + 1 := dgs_len N (e + 1)
              rw [HD.out, List.length_append, h2] at h1; exact h1
            have hQb : Q ≤ 1000000000000000000 := by rw [HQ.out]; exact Nat.le_trans (Nat.pow_le_pow_right (by decide) (by omega : e ≤ 18)) (by decide)
            have hlen5 : (PL ++ D).length ≤ 100000000 := by rw [List.length_append]; omega
            have HDs : Hid (dg N = (D ++ [dig (N / Q)]) ++ dgs N e) := by unfold Hid; rw [HD.out, dgs, HQ.out]; simp
            have q0 : Int.tdiv (N : Int) (Q : Int) = ((N / Q : Nat) : Int) := by rw [Int.tdiv_eq_ediv_of_nonneg (by omega)]; rfl
            have hne : (Q : Int) ≠ 0 := by omega
            have hRN : N / Q ≤ N := Nat.div_le_self _ _
            have hwq : IntKind.u64.wrap ((N / Q : Nat) : Int) = ((N / Q : Nat) : Int) := by
              generalize N / Q = R at hRN
              exact IntWalk.u64_in _ (by omega)
            generalize N / Q = R at q0 hRN hwq HDs
            have hdig := (dig_int R).symm
            by_cases h1 : Q = 1
            · have he0 : e = 0 := by
                rcases Nat.eq_zero_or_pos e with h2 | h2
                · exact h2
                · have : 10 ^ 1 ≤ 10 ^ e := Nat.pow_le_pow_right (by decide) h2
                  have := HQ.out; omega
              have HK : Hid (PL ++ D ++ [dig R] = jn (xs.take (k + 1))) := by unfold Hid; rw [HJ.out, HDs.out, he0]; simp [dgs]
              have h1' : ((Q : Int) == 1) = true := by simp; omega
              clear h1 he0 HD HDs HQ HJ
              go_wp2_with (at_builtin; refine wpList_append_byte rfl _ _ rfl w _ _ rfl _ rfl (PL ++ D) hown5 hbel5 (dig R) rfl rfl hlen5 ?_; intro v6 w6 hown6 hbel6)
              refine ⟨⟨k + 1, PL ++ D ++ [dig R], by omega, by go_num, HK, hown6, hbel6⟩, ?_⟩
              simp [intOf]; omega
            · have h1' : ((Q : Int) == 1) = false := by simp; omega
              obtain ⟨e2, rfl⟩ : ∃ e2, e = e2 + 1 := ⟨e - 1, by
                rcases Nat.eq_zero_or_pos e with h2 | h2
                · exact absurd (by rw [HQ.out, h2]) h1
                · omega⟩
              have HQ2 : Hid (Q / 10 = 10 ^ e2) := by unfold Hid; rw [HQ.out, Nat.pow_succ]; omega
              have q2 : Int.tdiv (Q : Int) 10 = ((Q / 10 : Nat) : Int) := by rw [Int.tdiv_eq_ediv_of_nonneg (by omega)]; rfl
              have hlt10 : Q / 10 < Q := by omega
              generalize Q / 10 = Q2 at HQ2 q2 hlt10
              clear h1 HD HQ HJ
              go_wp2_with (at_builtin; refine wpList_append_byte rfl _ _ rfl w _ _ rfl _ rfl (PL ++ D) hown5 hbel5 (dig R) rfl rfl hlen5 ?_; intro v6 w6 hown6 hbel6)
              refine ⟨⟨e2, Q2, D ++ [dig R], HQ2, rfl, HDs, by rw [← List.append_assoc]; exact hown6, hbel6⟩, ?_⟩
              simp [intOf]; omega
      · by_cases h0 : k = 0
        · have HJ : Hid (jn (xs.take (k + 1)) = L ++ dg N) := by
            unfold Hid
            have e0 : L = [] := by rw [hL.out, h0]; rfl
            subst h0
            rw [jn_first hlt, e0, shL_pos hx, hN]; rfl
          have hk0 : k < 1 := by omega
          have e64 : IntKind.u64.wrap xs[k] = (N : Int) := by rw [IntWalk.u64_in _ (by omega)]; omega
          have hNb : N ≤ 9223372036854775808 := by omega
          clear hN h0 hL
          go_wp2_with (first
            | (go_at_call 144; refine (leadP N hNb _).mono ?_; rintro e w' ⟨E, P, HP, rfl, hE, hQ, rfl⟩))
          generalize hPL : L = PL at HJ hown
          have hPb : PL.length ≤ 42000002 := by rw [← hPL]; first | omega | (simp; omega)
          clear hPL
          have HD0 : Hid (dg N = [] ++ dgs N (E + 1)) := by unfold Hid; exact dg_dgs E N (by rw [← HP.out]; exact hE) (by rw [← HP.out]; exact hQ)
          clear hE hQ
          go_loopw [3, 7] (fun v u wr2 => ∃ (e Q : Nat) (D : List UInt8), Hid (Q = 10 ^ e) ∧ u = .int .u64 (Q : Int) ∧ Hid (dg N = D ++ dgs N (e + 1)) ∧ wr2.ownsRow w.heap.size 5 1 v (PL ++ D).length (bc (PL ++ D)) ∧ Below w.heap.size w wr2) (fun _ u _ => (intOf u).toNat)
          case atStart => exact ⟨E, P, [], HP, rfl, HD0, by rw [List.append_nil]; exact hown, hbel⟩
          case round =>
            clear hown hbel hc HD0 HP
            obtain ⟨e, Q, D, HQ, rfl, HD, hown5, hbel5⟩ := hrel
            have hQ1 : 1 ≤ Q := by rw [HQ.out]; exact Nat.pow_pos (by decide)
            have hDl : D.length + (e + 1) ≤ 19 := by
              have h1 := HDL.out
              have h2 : (dgs N (e + 1)).length = e + 1 := dgs_len N (e + 1)
              rw [HD.out, List.length_append, h2] at h1; exact h1
            have hQb : Q ≤ 1000000000000000000 := by rw [HQ.out]; exact Nat.le_trans (Nat.pow_le_pow_right (by decide) (by omega : e ≤ 18)) (by decide)
            have hlen5 : (PL ++ D).length ≤ 100000000 := by rw [List.length_append]; omega
            have HDs : Hid (dg N = (D ++ [dig (N / Q)]) ++ dgs N e) := by unfold Hid; rw [HD.out, dgs, HQ.out]; simp
            have q0 : Int.tdiv (N : Int) (Q : Int) = ((N / Q : Nat) : Int) := by rw [Int.tdiv_eq_ediv_of_nonneg (by omega)]; rfl
            have hne : (Q : Int) ≠ 0 := by omega
            have hRN : N / Q ≤ N := Nat.div_le_self _ _
            have hwq : IntKind.u64.wrap ((N / Q : Nat) : Int) = ((N / Q : Nat) : Int) := by
              generalize N / Q = R at hRN
              exact IntWalk.u64_in _ (by omega)
            generalize N / Q = R at q0 hRN hwq HDs
            have hdig := (dig_int R).symm
            by_cases h1 : Q = 1
            · have he0 : e = 0 := by
                rcases Nat.eq_zero_or_pos e with h2 | h2
                · exact h2
                · have : 10 ^ 1 ≤ 10 ^ e := Nat.pow_le_pow_right (by decide) h2
                  have := HQ.out; omega
              have HK : Hid (PL ++ D ++ [dig R] = jn (xs.take (k + 1))) := by unfold Hid; rw [HJ.out, HDs.out, he0]; simp [dgs]
              have h1' : ((Q : Int) == 1) = true := by simp; omega
              clear h1 he0 HD HDs HQ HJ
              go_wp2_with (at_builtin; refine wpList_append_byte rfl _ _ rfl w _ _ rfl _ rfl (PL ++ D) hown5 hbel5 (dig R) rfl rfl hlen5 ?_; intro v6 w6 hown6 hbel6)
              refine ⟨⟨k + 1, PL ++ D ++ [dig R], by omega, by go_num, HK, hown6, hbel6⟩, ?_⟩
              simp [intOf]; omega
            · have h1' : ((Q : Int) == 1) = false := by simp; omega
              obtain ⟨e2, rfl⟩ : ∃ e2, e = e2 + 1 := ⟨e - 1, by
                rcases Nat.eq_zero_or_pos e with h2 | h2
                · exact absurd (by rw [HQ.out, h2]) h1
                · omega⟩
              have HQ2 : Hid (Q / 10 = 10 ^ e2) := by unfold Hid; rw [HQ.out, Nat.pow_succ]; omega
              have q2 : Int.tdiv (Q : Int) 10 = ((Q / 10 : Nat) : Int) := by rw [Int.tdiv_eq_ediv_of_nonneg (by omega)]; rfl
              have hlt10 : Q / 10 < Q := by omega
              generalize Q / 10 = Q2 at HQ2 q2 hlt10
              clear h1 HD HQ HJ
              go_wp2_with (at_builtin; refine wpList_append_byte rfl _ _ rfl w _ _ rfl _ rfl (PL ++ D) hown5 hbel5 (dig R) rfl rfl hlen5 ?_; intro v6 w6 hown6 hbel6)
              refine ⟨⟨e2, Q2, D ++ [dig R], HQ2, rfl, HDs, by rw [← List.append_assoc]; exact hown6, hbel6⟩, ?_⟩
              simp [intOf]; omega
        · have HJ : Hid (jn (xs.take (k + 1)) = (L ++ [32]) ++ dg N) := by
            unfold Hid
            rw [jn_step hlt (by omega), ← hL.out, shL_pos hx, hN]; simp
          have hk0 : 0 < k := by omega
          have e64 : IntKind.u64.wrap xs[k] = (N : Int) := by rw [IntWalk.u64_in _ (by omega)]; omega
          have hNb : N ≤ 9223372036854775808 := by omega
          clear hN h0 hL
          go_wp2_with (first
            | (at_builtin; refine wpList_append_byte rfl _ _ rfl w _ _ rfl _ rfl L hown hbel 32 rfl rfl (by first | omega | (simp; omega)) ?_; intro v1 w1 hown1 hbel1)
            | (go_at_call 144; refine (leadP N hNb _).mono ?_; rintro e w' ⟨E, P, HP, rfl, hE, hQ, rfl⟩))
          generalize hPL : (L ++ [32]) = PL at HJ hown1
          have hPb : PL.length ≤ 42000002 := by rw [← hPL]; first | omega | (simp; omega)
          clear hPL
          have HD0 : Hid (dg N = [] ++ dgs N (E + 1)) := by unfold Hid; exact dg_dgs E N (by rw [← HP.out]; exact hE) (by rw [← HP.out]; exact hQ)
          clear hE hQ
          go_loopw [3, 7] (fun v u wr2 => ∃ (e Q : Nat) (D : List UInt8), Hid (Q = 10 ^ e) ∧ u = .int .u64 (Q : Int) ∧ Hid (dg N = D ++ dgs N (e + 1)) ∧ wr2.ownsRow w.heap.size 5 1 v (PL ++ D).length (bc (PL ++ D)) ∧ Below w.heap.size w wr2) (fun _ u _ => (intOf u).toNat)
          case atStart => exact ⟨E, P, [], HP, rfl, HD0, by rw [List.append_nil]; exact hown1, hbel1⟩
          case round =>
            clear hown1 hbel1 hc HD0 HP
            obtain ⟨e, Q, D, HQ, rfl, HD, hown5, hbel5⟩ := hrel
            have hQ1 : 1 ≤ Q := by rw [HQ.out]; exact Nat.pow_pos (by decide)
            have hDl : D.length + (e + 1) ≤ 19 := by
              have h1 := HDL.out
              have h2 : (dgs N (e + 1)).length = e + 1 := dgs_len N (e + 1)
              rw [HD.out, List.length_append, h2] at h1; exact h1
            have hQb : Q ≤ 1000000000000000000 := by rw [HQ.out]; exact Nat.le_trans (Nat.pow_le_pow_right (by decide) (by omega : e ≤ 18)) (by decide)
            have hlen5 : (PL ++ D).length ≤ 100000000 := by rw [List.length_append]; omega
            have HDs : Hid (dg N = (D ++ [dig (N / Q)]) ++ dgs N e) := by unfold Hid; rw [HD.out, dgs, HQ.out]; simp
            have q0 : Int.tdiv (N : Int) (Q : Int) = ((N / Q : Nat) : Int) := by rw [Int.tdiv_eq_ediv_of_nonneg (by omega)]; rfl
            have hne : (Q : Int) ≠ 0 := by omega
            have hRN : N / Q ≤ N := Nat.div_le_self _ _
            have hwq : IntKind.u64.wrap ((N / Q : Nat) : Int) = ((N / Q : Nat) : Int) := by
              generalize N / Q = R at hRN
              exact IntWalk.u64_in _ (by omega)
            generalize N / Q = R at q0 hRN hwq HDs
            have hdig := (dig_int R).symm
            by_cases h1 : Q = 1
            · have he0 : e = 0 := by
                rcases Nat.eq_zero_or_pos e with h2 | h2
                · exact h2
                · have : 10 ^ 1 ≤ 10 ^ e := Nat.pow_le_pow_right (by decide) h2
                  have := HQ.out; omega
              have HK : Hid (PL ++ D ++ [dig R] = jn (xs.take (k + 1))) := by unfold Hid; rw [HJ.out, HDs.out, he0]; simp [dgs]
              have h1' : ((Q : Int) == 1) = true := by simp; omega
              clear h1 he0 HD HDs HQ HJ
              go_wp2_with (at_builtin; refine wpList_append_byte rfl _ _ rfl w _ _ rfl _ rfl (PL ++ D) hown5 hbel5 (dig R) rfl rfl hlen5 ?_; intro v6 w6 hown6 hbel6)
              refine ⟨⟨k + 1, PL ++ D ++ [dig R], by omega, by go_num, HK, hown6, hbel6⟩, ?_⟩
              simp [intOf]; omega
            · have h1' : ((Q : Int) == 1) = false := by simp; omega
              obtain ⟨e2, rfl⟩ : ∃ e2, e = e2 + 1 := ⟨e - 1, by
                rcases Nat.eq_zero_or_pos e with h2 | h2
                · exact absurd (by rw [HQ.out, h2]) h1
                · omega⟩
              have HQ2 : Hid (Q / 10 = 10 ^ e2) := by unfold Hid; rw [HQ.out, Nat.pow_succ]; omega
              have q2 : Int.tdiv (Q : Int) 10 = ((Q / 10 : Nat) : Int) := by rw [Int.tdiv_eq_ediv_of_nonneg (by omega)]; rfl
              have hlt10 : Q / 10 < Q := by omega
              generalize Q / 10 = Q2 at HQ2 q2 hlt10
              clear h1 HD HQ HJ
              go_wp2_with (at_builtin; refine wpList_append_byte rfl _ _ rfl w _ _ rfl _ rfl (PL ++ D) hown5 hbel5 (dig R) rfl rfl hlen5 ?_; intro v6 w6 hown6 hbel6)
              refine ⟨⟨e2, Q2, D ++ [dig R], HQ2, rfl, HDs, by rw [← List.append_assoc]; exact hown6, hbel6⟩, ?_⟩
              simp [intOf]; omega
    · obtain rfl : k = xs.length := by omega
      rw [List.take_length] at hL
      have hcv := conv_text hown
      have ej : jS xs = ⟨L.toArray⟩ := by rw [hL.out]; rfl
      rw [← ej] at hcv
      clear hL hown
      go_wp2_with fail
      rw [Exit.noGoto_ret]
      go_ret
      exact ⟨by first | rfl | (rw [ej]; rfl), hbel⟩
end Go.Proofs.YtghmbmjikkdbnaaGreatDoor.Shape
