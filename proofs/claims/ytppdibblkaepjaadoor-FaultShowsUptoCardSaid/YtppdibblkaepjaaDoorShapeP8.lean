/-
  Layer 2: the program's Show: it appends the bytes of all numbers, with a labelled continue out of the loop over the digits.
-/
import Derived.Test.YtppdibblkaepjaaDoorShapeP7
import Derived.WalkMore
import Derived.Laws.IdiomStrings
namespace Go.Proofs.YtppdibblkaepjaaDoor.Shape
open Go.RowKit Go.Proofs.YtppdibblkaepjaaDoor.Num

/-- Bytes as cells. -/
def bc (L : List UInt8) : List Value := L.map (fun b => Value.int .u8 (b.toNat : Int))
theorem bc_len (L : List UInt8) : (bc L).length = L.length := by simp [bc]
theorem byteInfo : (Tryd.prog.info? 5).map (fun i => (i.zero, i.size, i.bytes)) = some (some (.int .u8 0), 1, 1) := by kernel_rfl
/-- text = append(text, c) -/
theorem wpList_append_byte {ops : Array Oper} {rest : List Oper} {o : Oper} {a : Act} {w : World} {Q : Exit → Act → World → Prop} (hgd : o.guard = none) (s x : Operand)
    (ho : o.op = .call { callee := .builtin .append, args := #[s, x], argTypes := #[46, 46] }) (w0 W : World) (c : Int) (hw : w = W.alloc (.cells #[.int .u8 c] 5))
    (v : Value) (hs : a.eval s = v) (L : List UInt8) (hown : W.ownsRow w0.heap.size 5 1 v L.length (bc L)) (hbel : Below w0.heap.size w0 W)
    (b : UInt8) (hc : c = b.toNat) (hx : a.eval x = .slice (some ⟨W.heap.size, 0, none⟩) 1 1) (hl : L.length ≤ 100000000)
    (h : ∀ v' w', w'.ownsRow w0.heap.size 5 1 v' (L ++ [b]).length (bc (L ++ [b])) → Below w0.heap.size w0 w' → wpList Tryd.prog ops Q rest (a.put o.dst v') w') :
    wpList Tryd.prog ops Q (o :: rest) a w := by
  subst hw; subst hc
  obtain ⟨i0, hi, hz0, hz1, hz2⟩ := info_parts byteInfo
  have hsz := hbel.size
  refine wpList_append_own _ hgd _ _ 46 ho w0.heap.size 5 i0 (.int .u8 0) 1 1 Tryd.underlying46 hi hz0 hz1 hz2 rfl (by decide) v L.length (bc L) hs (hown.alloc _) ⟨W.heap.size, 0, none⟩ 1 1 [.int .u8 (b.toNat : Int)] hx rfl ?_ ?_ (by unfold maxLen; omega) (by omega) (by simp; omega) ?_
  · intro j u hj
    match j, hj with
    | 0, hj => simp at hj; subst hj; simp [Addr.add]
  · intro u hu; simp at hu; subst hu; rfl
  · intro v' w' hown' hgrow _
    refine h v' w' ?_ ((hbel.alloc hbel.size _).grown hgrow (by simp; omega) (fun j hj => (hown.lt j hj).1))
    have e1 : (L ++ [b]).length = L.length + 1 := by simp
    have e2 : bc (L ++ [b]) = bc L ++ [.int .u8 (b.toNat : Int)] := by simp [bc]
    rw [e1, e2]; exact hown'
/-- string(text) -/
theorem conv_text {w : World} {base : Nat} {v : Value} {L : List UInt8} (h : w.ownsRow base 5 1 v L.length (bc L)) :
    (convert 46 9 v).run Tryd.prog w = .ok (.string ⟨L.toArray⟩) w := by
  have h' := h
  rcases h'.2 with ⟨rfl, h0⟩ | ⟨g, cap, cur, rfl, hg, hh, hnc, hcm, hcs, htake⟩
  · have hx : L = [] := List.eq_nil_of_length_eq_zero h0
    subst hx
    exact (by kernel_rfl : (convert 46 9 (.slice none 0 0)).run Tryd.prog w = .ok (.string ⟨#[]⟩) w)
  · refine run_convert_bytes_back w 46 9 5 ⟨g, 0, none⟩ cap L Tryd.underlying46 Tryd.underlying5 Tryd.underlying9 (fun j hj => ?_)
    rw [add_plain, Nat.zero_add, h.cellAt j (by omega)]
    simp [bc, hj]
theorem jn_step {xs : List Int} {k : Nat} (hk : k < xs.length) (h0 : 0 < k) : jn (xs.take (k + 1)) = jn (xs.take k) ++ 32 :: shL xs[k] := by
  rw [take_snoc xs k hk, jn_snoc _ _ (fun e => by
    have : (xs.take k).length = 0 := by rw [e]; rfl
    rw [List.length_take] at this; omega)]
theorem jn_first {xs : List Int} (hk : 0 < xs.length) : jn (xs.take (0 + 1)) = shL xs[0] := by
  rw [take_snoc xs 0 hk]; exact jn_one _
theorem jn_len (xs : List Int) (k : Nat) (h : ∀ x ∈ xs, -9223372036854775808 ≤ x ∧ x ≤ 9223372036854775807) (hs : xs.length ≤ 2000000) : (jn (xs.take k)).length ≤ 42000000 := by
  have h1 := jS_size (xs.take k) (fun x hx => h x (List.mem_of_mem_take hx))
  have h2 : (jS (xs.take k)).size = (jn (xs.take k)).length := by simp [jS, ByteArray.size]
  rw [h2, List.length_take] at h1
  omega
theorem dg_abs_len {x : Int} (h1 : -9223372036854775808 ≤ x) (h2 : x ≤ 9223372036854775807) : (dg x.natAbs).length ≤ 19 := dg_len 18 x.natAbs (by omega)

theorem dgs_len (N k : Nat) : (dgs N k).length = k := by
  induction k with
  | zero => rfl
  | succ k ih => simp [dgs, ih]

set_option maxHeartbeats 1000000 in
theorem showP (a : Option Addr) (cap : Nat) (xs : List Int) (w : World) (h : IntsAt w a cap xs) (hs : xs.length ≤ 2000000) :
    Calls Tryd.prog 30 #[.slice a xs.length cap] w fun e w' => e = .returned (.string (jS xs)) ∧ Below w.heap.size w w' := by
  have hl := h.len
  have hlen : ∀ k, (jn (xs.take k)).length ≤ 42000000 := fun k => jn_len xs k h.2.2.1 hs
  go_enter Tryd.func30, Tryd.ntmps30
  go_wp2_with fail
  go_step3
  go_wp2_with fail
  go_step3
  go_wp2_with fail
  go_loopw [3, 10] (fun v i wr => ∃ (k : Nat) (L : List UInt8), k ≤ xs.length ∧ i = .int .i64 k ∧ Hid (L = jn (xs.take k)) ∧ wr.ownsRow w.heap.size 5 1 v L.length (bc L) ∧ Below w.heap.size w wr) (fun _ i _ => xs.length - (intOf i).toNat)
  case atStart => exact ⟨0, [], Nat.zero_le _, rfl, rfl, World.ownsRow_nil _ _ _ _, Below.refl _ _⟩
  case round =>
    obtain ⟨k, L, hk, rfl, hL, hown, hbel⟩ := hrel
    by_cases hlt : k < xs.length
    · obtain ⟨b, off, hi, hc⟩ := (h.below hbel).at hlt
      have hbd := h.bd hlt
      have hLl : L.length ≤ 42000000 := by rw [hL.out]; exact hlen k
      have hdl := dg_abs_len hbd.1 hbd.2
      generalize hN : xs[k].natAbs = N at hdl
      have HDL : Hid ((dg N).length ≤ 19) := hdl
      clear hdl
      by_cases hx : xs[k] < 0
      · by_cases h0 : k = 0
        · have HJ : Hid (jn (xs.take (k + 1)) = (L ++ [95]) ++ dg N) := by
            unfold Hid
            have e0 : L = [] := by rw [hL.out, h0]; rfl
            subst h0
            rw [jn_first hlt, e0, shL_neg hx, hN]; rfl
          have hk0 : k < 1 := by omega
          have e64 : IntKind.u64.wrap xs[k] = 18446744073709551616 - (N : Int) := by simp [IntKind.wrap, IntKind.signed, IntKind.bits]; omega
          have e65 : IntKind.u64.wrap (-(18446744073709551616 - (N : Int))) = (N : Int) := by simp [IntKind.wrap, IntKind.signed, IntKind.bits]; omega
          have hNb : N ≤ 9223372036854775808 := by omega
          clear hN h0 hL
          go_wp2_with (first
            | (at_builtin; refine wpList_append_byte rfl _ _ rfl w _ _ rfl _ rfl L hown hbel 95 rfl rfl (by first | omega | (simp; omega)) ?_; intro v2 w2 hown2 hbel2)
            | (go_at_call 35; refine (leadP N hNb _).mono ?_; rintro e w' ⟨E, P, HP, rfl, hE, hQ, rfl⟩))
          generalize hPL : (L ++ [95]) = PL at HJ hown2
          have hPb : PL.length ≤ 42000002 := by rw [← hPL]; first | omega | (simp; omega)
          clear hPL
          have HD0 : Hid (dg N = [] ++ dgs N (E + 1)) := by unfold Hid; exact dg_dgs E N (by rw [← HP.out]; exact hE) (by rw [← HP.out]; exact hQ)
          clear hE hQ
          go_loopw [3, 7] (fun v u wr2 => ∃ (e Q : Nat) (D : List UInt8), Hid (Q = 10 ^ e) ∧ u = .int .u64 (Q : Int) ∧ Hid (dg N = D ++ dgs N (e + 1)) ∧ wr2.ownsRow w.heap.size 5 1 v (PL ++ D).length (bc (PL ++ D)) ∧ Below w.heap.size w wr2) (fun _ u _ => (intOf u).toNat)
          case atStart => exact ⟨E, P, [], HP, rfl, HD0, by rw [List.append_nil]; exact hown2, hbel2⟩
          case round =>
            clear hown2 hbel2 hc HD0 HP
            obtain ⟨e, Q, D, HQ, rfl, HD, hown5, hbel5⟩ := hrel
            have hQ1 : 1 ≤ Q := by rw [HQ.out]; exact Nat.pow_pos (by decide)
            have hDl : D.length + (e + 1) ≤ 19 := by
              have h1 := HDL.out
              have h2 : (dgs N (e + 1)).length = e + 1 := dgs_len N (e + 1)
              rw [HD.out, List.length_append, h2] at h1; exact h1
            have hQb : Q ≤ 1000000000000000000 := by rw [HQ.out]; exact Nat.le_trans (Nat.pow_le_pow_right (by decide) (by omega : e ≤ 18)) (by decide)
            have hlen5 : (PL ++ D).length ≤ 100000000 := by rw [List.length_append]; omega
            have HDs : Hid (dg N = (D ++ [dig (N / Q)]) ++ dgs N e) := by unfold Hid; rw [HD.out, dgs, HQ.out]; simp
            have q0 : Int.tdiv (N : Int) (Q : Int) = ((N / Q : Nat) : Int) := by rw [Int.tdiv_eq_ediv_of_nonneg (by omega)]; rfl
            have hne : (Q : Int) ≠ 0 := by omega
            have hRN : N / Q ≤ N := Nat.div_le_self _ _
            have hwq : IntKind.u64.wrap ((N / Q : Nat) : Int) = ((N / Q : Nat) : Int) := by
              generalize N / Q = R at hRN
              exact IntWalk.u64_in _ (by omega)
            generalize N / Q = R at q0 hRN hwq HDs
            have hdig := (dig_int R).symm
            by_cases h1 : Q = 1
            · have he0 : e = 0 := by
                rcases Nat.eq_zero_or_pos e with h2 | h2
                · exact h2
                · have : 10 ^ 1 ≤ 10 ^ e := Nat.pow_le_pow_right (by decide) h2
                  have := HQ.out; omega
              have HK : Hid (PL ++ D ++ [dig R] = jn (xs.take (k + 1))) := by unfold Hid; rw [HJ.out, HDs.out, he0]; simp [dgs]
              have h1' : ((Q : Int) == 1) = true := by simp; omega
              clear h1 he0 HD HDs HQ HJ
              go_wp2_with (at_builtin; refine wpList_append_byte rfl _ _ rfl w _ _ rfl _ rfl (PL ++ D) hown5 hbel5 (dig R) rfl rfl hlen5 ?_; intro v6 w6 hown6 hbel6)
              refine ⟨⟨k + 1, PL ++ D ++ [dig R], by omega, by go_num, HK, hown6, hbel6⟩, ?_⟩
              simp [intOf]; omega
            · have h1' : ((Q : Int) == 1) = false := by simp; omega
              obtain ⟨e2, rfl⟩ : ∃ e2, e = e2 + 1 := ⟨e - 1, by
                rcases Nat.eq_zero_or_pos e with h2 | h2
                · exact absurd (by rw [HQ.out, h2]) h1
                · omega⟩
              have HQ2 : Hid (Q / 10 = 10 ^ e2) := by unfold Hid; rw [HQ.out, Nat.pow_succ]; omega
              have q2 : Int.tdiv (Q : Int) 10 = ((Q / 10 : Nat) : Int) := by rw [Int.tdiv_eq_ediv_of_nonneg (by omega)]; rfl
              have hlt10 : Q / 10 < Q := by omega
              generalize Q / 10 = Q2 at HQ2 q2 hlt10
              clear h1 HD HQ HJ
              go_wp2_with (at_builtin; refine wpList_append_byte rfl _ _ rfl w _ _ rfl _ rfl (PL ++ D) hown5 hbel5 (dig R) rfl rfl hlen5 ?_; intro v6 w6 hown6 hbel6)
              refine ⟨⟨e2, Q2, D ++ [dig R], HQ2, rfl, HDs, by rw [← List.append_assoc]; exact hown6, hbel6⟩, ?_⟩
              simp [intOf]; omega
        · have HJ : Hid (jn (xs.take (k + 1)) = (L ++ [32] ++ [95]) ++ dg N) := by
            unfold Hid
            rw [jn_step hlt (by omega), ← hL.out, shL_neg hx, hN]; simp
          have hk0 : 0 < k := by omega
          have e64 : IntKind.u64.wrap xs[k] = 18446744073709551616 - (N : Int) := by simp [IntKind.wrap, IntKind.signed, IntKind.bits]; omega
          have e65 : IntKind.u64.wrap (-(18446744073709551616 - (N : Int))) = (N : Int) := by simp [IntKind.wrap, IntKind.signed, IntKind.bits]; omega
          have hNb : N ≤ 9223372036854775808 := by omega
          clear hN h0 hL
          go_wp2_with (first
            | (at_builtin; refine wpList_append_byte rfl _ _ rfl w _ _ rfl _ rfl L hown hbel 32 rfl rfl (by first | omega | (simp; omega)) ?_; intro v1 w1 hown1 hbel1)
            | (at_builtin; refine wpList_append_byte rfl _ _ rfl w _ _ rfl _ rfl (L ++ [32]) hown1 hbel1 95 rfl rfl (by first | omega | (simp; omega)) ?_; intro v2 w2 hown2 hbel2)
            | (go_at_call 35; refine (leadP N hNb _).mono ?_; rintro e w' ⟨E, P, HP, rfl, hE, hQ, rfl⟩))
          generalize hPL : (L ++ [32] ++ [95]) = PL at HJ hown2
          have hPb : PL.length ≤ 42000002 := by rw [← hPL]; first | omega | (simp; omega)
          clear hPL
          have HD0 : Hid (dg N = [] ++ dgs N (E + 1)) := by unfold Hid; exact dg_dgs E N (by rw [← HP.out]; exact hE) (by rw [← HP.out]; exact hQ)
          clear hE hQ
          go_loopw [3, 7] (fun v u wr2 => ∃ (e Q : Nat) (D : List UInt8), Hid (Q = 10 ^ e) ∧ u = .int .u64 (Q : Int) ∧ Hid (dg N = D ++ dgs N (e + 1)) ∧ wr2.ownsRow w.heap.size 5 1 v (PL ++ D).length (bc (PL ++ D)) ∧ Below w.heap.size w wr2) (fun _ u _ => (intOf u).toNat)
          case atStart => exact ⟨E, P, [], HP, rfl, HD0, by rw [List.append_nil]; exact hown2, hbel2⟩
          case round =>
            clear hown2 hbel2 hc HD0 HP
            obtain ⟨e, Q, D, HQ, rfl, HD, hown5, hbel5⟩ := hrel
            have hQ1 : 1 ≤ Q := by rw [HQ.out]; exact Nat.pow_pos (by decide)
            have hDl : D.length + (e + 1) ≤ 19 := by
              have h1 := HDL.out
              have h2 : (dgs N (e + 1)).length = e + 1 := dgs_len N (e + 1)
              rw [HD.out, List.length_append, h2] at h1; exact h1
            have hQb : Q ≤ 1000000000000000000 := by rw [HQ.out]; exact Nat.le_trans (Nat.pow_le_pow_right (by decide) (by omega : e ≤ 18)) (by decide)
            have hlen5 : (PL ++ D).length ≤ 100000000 := by rw [List.length_append]; omega
            have HDs : Hid (dg N = (D ++ [dig (N / Q)]) ++ dgs N e) := by unfold Hid; rw [HD.out, dgs, HQ.out]; simp
            have q0 : Int.tdiv (N : Int) (Q : Int) = ((N / Q : Nat) : Int) := by rw [Int.tdiv_eq_ediv_of_nonneg (by omega)]; rfl
            have hne : (Q : Int) ≠ 0 := by omega
            have hRN : N / Q ≤ N := Nat.div_le_self _ _
            have hwq : IntKind.u64.wrap ((N / Q : Nat) : Int) = ((N / Q : Nat) : Int) := by
              generalize N / Q = R at hRN
              exact IntWalk.u64_in _ (by omega)
            generalize N / Q = R at q0 hRN hwq HDs
            have hdig := (dig_int R).symm
            by_cases h1 : Q = 1
            · have he0 : e = 0 := by
                rcases Nat.eq_zero_or_pos e with h2 | h2
                · exact h2
                · have : 10 ^ 1 ≤ 10 ^ e := Nat.pow_le_pow_right (by decide) h2
                  have := HQ.out; omega
              have HK : Hid (PL ++ D ++ [dig R] = jn (xs.take (k + 1))) := by unfold Hid; rw [HJ.out, HDs.out, he0]; simp [dgs]
              have h1' : ((Q : Int) == 1) = true := by simp; omega
              clear h1 he0 HD HDs HQ HJ
              go_wp2_with (at_builtin; refine wpList_append_byte rfl _ _ rfl w _ _ rfl _ rfl (PL ++ D) hown5 hbel5 (dig R) rfl rfl hlen5 ?_; intro v6 w6 hown6 hbel6)
              refine ⟨⟨k + 1, PL ++ D ++ [dig R], by omega, by go_num, HK, hown6, hbel6⟩, ?_⟩
              simp [intOf]; omega
            · have h1' : ((Q : Int) == 1) = false := by simp; omega
              obtain ⟨e2, rfl⟩ : ∃ e2, e = e2 + 1 := ⟨e - 1, by
                rcases Nat.eq_zero_or_pos e with h2 | h2
                · exact absurd (by rw [HQ.out, h2]) h1
                · omega⟩
              have HQ2 : Hid (Q / 10 = 10 ^ e2) := by unfold Hid; rw [HQ.out, Nat.pow_succ]; omega
              have q2 : Int.tdiv (Q : Int) 10 = ((Q / 10 : Nat) : Int) := by rw [Int.tdiv_eq_ediv_of_nonneg (by omega)]; rfl
              have hlt10 : Q / 10 < Q := by omega
              generalize Q / 10 = Q2 at HQ2 q2 hlt10
              clear h1 HD HQ HJ
              go_wp2_with (at_builtin; refine wpList_append_byte rfl _ _ rfl w _ _ rfl _ rfl (PL ++ D) hown5 hbel5 (dig R) rfl rfl hlen5 ?_; intro v6 w6 hown6 hbel6)
              refine ⟨⟨e2, Q2, D ++ [dig R], HQ2, rfl, HDs, by rw [← List.append_assoc]; exact hown6, hbel6⟩, ?_⟩
              simp [intOf]; omega
      · by_cases h0 : k = 0
        · have HJ : Hid (jn (xs.take (k + 1)) = L ++ dg N) := by
            unfold Hid
            have e0 : L = [] := by rw [hL.out, h0]; rfl
            subst h0
            rw [jn_first hlt, e0, shL_pos hx, hN]; rfl
          have hk0 : k < 1 := by omega
          have e64 : IntKind.u64.wrap xs[k] = (N : Int) := by rw [IntWalk.u64_in _ (by omega)]; omega
          have hNb : N ≤ 9223372036854775808 := by omega
          clear hN h0 hL
          go_wp2_with (first
            | (go_at_call 35; refine (leadP N hNb _).mono ?_; rintro e w' ⟨E, P, HP, rfl, hE, hQ, rfl⟩))
          generalize hPL : L = PL at HJ hown
          have hPb : PL.length ≤ 42000002 := by rw [← hPL]; first | omega | (simp; omega)
          clear hPL
          have HD0 : Hid (dg N = [] ++ dgs N (E + 1)) := by unfold Hid; exact dg_dgs E N (by rw [← HP.out]; exact hE) (by rw [← HP.out]; exact hQ)
          clear hE hQ
          go_loopw [3, 7] (fun v u wr2 => ∃ (e Q : Nat) (D : List UInt8), Hid (Q = 10 ^ e) ∧ u = .int .u64 (Q : Int) ∧ Hid (dg N = D ++ dgs N (e + 1)) ∧ wr2.ownsRow w.heap.size 5 1 v (PL ++ D).length (bc (PL ++ D)) ∧ Below w.heap.size w wr2) (fun _ u _ => (intOf u).toNat)
          case atStart => exact ⟨E, P, [], HP, rfl, HD0, by rw [List.append_nil]; exact hown, hbel⟩
          case round =>
            clear hown hbel hc HD0 HP
            obtain ⟨e, Q, D, HQ, rfl, HD, hown5, hbel5⟩ := hrel
            have hQ1 : 1 ≤ Q := by rw [HQ.out]; exact Nat.pow_pos (by decide)
            have hDl : D.length + (e + 1) ≤ 19 := by
              have h1 := HDL.out
              have h2 : (dgs N (e + 1)).length = e + 1 := dgs_len N (e + 1)
              rw [HD.out, List.length_append, h2] at h1; exact h1
            have hQb : Q ≤ 1000000000000000000 := by rw [HQ.out]; exact Nat.le_trans (Nat.pow_le_pow_right (by decide) (by omega : e ≤ 18)) (by decide)
            have hlen5 : (PL ++ D).length ≤ 100000000 := by rw [List.length_append]; omega
            have HDs : Hid (dg N = (D ++ [dig (N / Q)]) ++ dgs N e) := by unfold Hid; rw [HD.out, dgs, HQ.out]; simp
            have q0 : Int.tdiv (N : Int) (Q : Int) = ((N / Q : Nat) : Int) := by rw [Int.tdiv_eq_ediv_of_nonneg (by omega)]; rfl
            have hne : (Q : Int) ≠ 0 := by omega
            have hRN : N / Q ≤ N := Nat.div_le_self _ _
            have hwq : IntKind.u64.wrap ((N / Q : Nat) : Int) = ((N / Q : Nat) : Int) := by
              generalize N / Q = R at hRN
              exact IntWalk.u64_in _ (by omega)
            generalize N / Q = R at q0 hRN hwq HDs
            have hdig := (dig_int R).symm
            by_cases h1 : Q = 1
            · have he0 : e = 0 := by
                rcases Nat.eq_zero_or_pos e with h2 | h2
                · exact h2
                · have : 10 ^ 1 ≤ 10 ^ e := Nat.pow_le_pow_right (by decide) h2
                  have := HQ.out; omega
              have HK : Hid (PL ++ D ++ [dig R] = jn (xs.take (k + 1))) := by unfold Hid; rw [HJ.out, HDs.out, he0]; simp [dgs]
              have h1' : ((Q : Int) == 1) = true := by simp; omega
              clear h1 he0 HD HDs HQ HJ
              go_wp2_with (at_builtin; refine wpList_append_byte rfl _ _ rfl w _ _ rfl _ rfl (PL ++ D) hown5 hbel5 (dig R) rfl rfl hlen5 ?_; intro v6 w6 hown6 hbel6)
              refine ⟨⟨k + 1, PL ++ D ++ [dig R], by omega, by go_num, HK, hown6, hbel6⟩, ?_⟩
              simp [intOf]; omega
            · have h1' : ((Q : Int) == 1) = false := by simp; omega
              obtain ⟨e2, rfl⟩ : ∃ e2, e = e2 + 1 := ⟨e - 1, by
                rcases Nat.eq_zero_or_pos e with h2 | h2
                · exact absurd (by rw [HQ.out, h2]) h1
                · omega⟩
              have HQ2 : Hid (Q / 10 = 10 ^ e2) := by unfold Hid; rw [HQ.out, Nat.pow_succ]; omega
              have q2 : Int.tdiv (Q : Int) 10 = ((Q / 10 : Nat) : Int) := by rw [Int.tdiv_eq_ediv_of_nonneg (by omega)]; rfl
              have hlt10 : Q / 10 < Q := by omega
              generalize Q / 10 = Q2 at HQ2 q2 hlt10
              clear h1 HD HQ HJ
              go_wp2_with (at_builtin; refine wpList_append_byte rfl _ _ rfl w _ _ rfl _ rfl (PL ++ D) hown5 hbel5 (dig R) rfl rfl hlen5 ?_; intro v6 w6 hown6 hbel6)
              refine ⟨⟨e2, Q2, D ++ [dig R], HQ2, rfl, HDs, by rw [← List.append_assoc]; exact hown6, hbel6⟩, ?_⟩
              simp [intOf]; omega
        · have HJ : Hid (jn (xs.take (k + 1)) = (L ++ [32]) ++ dg N) := by
            unfold Hid
            rw [jn_step hlt (by omega), ← hL.out, shL_pos hx, hN]; simp
          have hk0 : 0 < k := by omega
          have e64 : IntKind.u64.wrap xs[k] = (N : Int) := by rw [IntWalk.u64_in _ (by omega)]; omega
          have hNb : N ≤ 9223372036854775808 := by omega
          clear hN h0 hL
          go_wp2_with (first
            | (at_builtin; refine wpList_append_byte rfl _ _ rfl w _ _ rfl _ rfl L hown hbel 32 rfl rfl (by first | omega | (simp; omega)) ?_; intro v1 w1 hown1 hbel1)
            | (go_at_call 35; refine (leadP N hNb _).mono ?_; rintro e w' ⟨E, P, HP, rfl, hE, hQ, rfl⟩))
          generalize hPL : (L ++ [32]) = PL at HJ hown1
          have hPb : PL.length ≤ 42000002 := by rw [← hPL]; first | omega | (simp; omega)
          clear hPL
          have HD0 : Hid (dg N = [] ++ dgs N (E + 1)) := by unfold Hid; exact dg_dgs E N (by rw [← HP.out]; exact hE) (by rw [← HP.out]; exact hQ)
          clear hE hQ
          go_loopw [3, 7] (fun v u wr2 => ∃ (e Q : Nat) (D : List UInt8), Hid (Q = 10 ^ e) ∧ u = .int .u64 (Q : Int) ∧ Hid (dg N = D ++ dgs N (e + 1)) ∧ wr2.ownsRow w.heap.size 5 1 v (PL ++ D).length (bc (PL ++ D)) ∧ Below w.heap.size w wr2) (fun _ u _ => (intOf u).toNat)
          case atStart => exact ⟨E, P, [], HP, rfl, HD0, by rw [List.append_nil]; exact hown1, hbel1⟩
          case round =>
            clear hown1 hbel1 hc HD0 HP
            obtain ⟨e, Q, D, HQ, rfl, HD, hown5, hbel5⟩ := hrel
            have hQ1 : 1 ≤ Q := by rw [HQ.out]; exact Nat.pow_pos (by decide)
            have hDl : D.length + (e + 1) ≤ 19 := by
              have h1 := HDL.out
              have h2 : (dgs N (e + 1)).length = e + 1 := dgs_len N (e + 1)
              rw [HD.out, List.length_append, h2] at h1; exact h1
            have hQb : Q ≤ 1000000000000000000 := by rw [HQ.out]; exact Nat.le_trans (Nat.pow_le_pow_right (by decide) (by omega : e ≤ 18)) (by decide)
            have hlen5 : (PL ++ D).length ≤ 100000000 := by rw [List.length_append]; omega
            have HDs : Hid (dg N = (D ++ [dig (N / Q)]) ++ dgs N e) := by unfold Hid; rw [HD.out, dgs, HQ.out]; simp
            have q0 : Int.tdiv (N : Int) (Q : Int) = ((N / Q : Nat) : Int) := by rw [Int.tdiv_eq_ediv_of_nonneg (by omega)]; rfl
            have hne : (Q : Int) ≠ 0 := by omega
            have hRN : N / Q ≤ N := Nat.div_le_self _ _
            have hwq : IntKind.u64.wrap ((N / Q : Nat) : Int) = ((N / Q : Nat) : Int) := by
              generalize N / Q = R at hRN
              exact IntWalk.u64_in _ (by omega)
            generalize N / Q = R at q0 hRN hwq HDs
            have hdig := (dig_int R).symm
            by_cases h1 : Q = 1
            · have he0 : e = 0 := by
                rcases Nat.eq_zero_or_pos e with h2 | h2
                · exact h2
                · have : 10 ^ 1 ≤ 10 ^ e := Nat.pow_le_pow_right (by decide) h2
                  have := HQ.out; omega
              have HK : Hid (PL ++ D ++ [dig R] = jn (xs.take (k + 1))) := by unfold Hid; rw [HJ.out, HDs.out, he0]; simp [dgs]
              have h1' : ((Q : Int) == 1) = true := by simp; omega
              clear h1 he0 HD HDs HQ HJ
              go_wp2_with (at_builtin; refine wpList_append_byte rfl _ _ rfl w _ _ rfl _ rfl (PL ++ D) hown5 hbel5 (dig R) rfl rfl hlen5 ?_; intro v6 w6 hown6 hbel6)
              refine ⟨⟨k + 1, PL ++ D ++ [dig R], by omega, by go_num, HK, hown6, hbel6⟩, ?_⟩
              simp [intOf]; omega
            · have h1' : ((Q : Int) == 1) = false := by simp; omega
              obtain ⟨e2, rfl⟩ : ∃ e2, e = e2 + 1 := ⟨e - 1, by
                rcases Nat.eq_zero_or_pos e with h2 | h2
                · exact absurd (by rw [HQ.out, h2]) h1
                · omega⟩
              have HQ2 : Hid (Q / 10 = 10 ^ e2) := by unfold Hid; rw [HQ.out, Nat.pow_succ]; omega
              have q2 : Int.tdiv (Q : Int) 10 = ((Q / 10 : Nat) : Int) := by rw [Int.tdiv_eq_ediv_of_nonneg (by omega)]; rfl
              have hlt10 : Q / 10 < Q := by omega
              generalize Q / 10 = Q2 at HQ2 q2 hlt10
              clear h1 HD HQ HJ
              go_wp2_with (at_builtin; refine wpList_append_byte rfl _ _ rfl w _ _ rfl _ rfl (PL ++ D) hown5 hbel5 (dig R) rfl rfl hlen5 ?_; intro v6 w6 hown6 hbel6)
              refine ⟨⟨e2, Q2, D ++ [dig R], HQ2, rfl, HDs, by rw [← List.append_assoc]; exact hown6, hbel6⟩, ?_⟩
              simp [intOf]; omega
    · obtain rfl : k = xs.length := by omega
      rw [List.take_length] at hL
      have hcv := conv_text hown
      have ej : jS xs = ⟨L.toArray⟩ := by rw [hL.out]; rfl
      rw [← ej] at hcv
      clear hL hown
      go_wp2_with fail
      rw [Exit.noGoto_ret]
      go_ret
      exact ⟨by first | rfl | (rw [ej]; rfl), hbel⟩
end Go.Proofs.YtppdibblkaepjaaDoor.Shape
