/-
  Layer 3: the program's Right: its recursive closure and the call.
-/
import Derived.Test.YtekbdiniibmhgaaArrP2g
import Derived.Laws.EntriesVeiled
import Derived.Laws.Small
import Derived.OwnWalk
namespace Go.Proofs.Ytekbdiniibmhgaa.Shape
open Go.RowKit

/-- An array, valid, whose boxes within d others are not too deep. -/
def OKd (d : Nat) (A : Arr) : Prop := (chk A).1 = 0 ∧ ((chk A).2 = 0 ∨ (chk A).2 + d ≤ 17)
theorem chkL_ge : ∀ (l : List Arr) (d D : Int), chkL d l = some D → d ≤ D ∧ ∀ j (h : j < l.length), (chk l[j]).1 = 0 ∧ (chk l[j]).2 + 1 ≤ D
  | [], d, D, h => by
    simp only [chkL, Option.some.injEq] at h
    exact ⟨by omega, fun j hj => absurd hj (by simp)⟩
  | A :: r, d, D, h => by
    rw [chkL] at h
    split at h
    · cases h
    · rename_i h0
      obtain ⟨h1, h2⟩ := chkL_ge r _ D h
      refine ⟨by omega, fun j hj => ?_⟩
      cases j with
      | zero => exact ⟨by simpa using h0, by simp only [List.getElem_cons_zero]; omega⟩
      | succ j => simpa using h2 j (by simpa using hj)
theorem chk_split {k : Int} {sh nu : List Int} {it : List Arr} (hp : partsE (.mk k sh nu it) = 0) :
    chk (.mk k sh nu it) = match chkL 0 it with | none => (17, 0) | some d => lastE d (wt (.mk k sh nu it)) := by
  rw [partsE] at hp
  split at hp
  · omega
  · rename_i g1
    split at hp
    · rename_i g2; exact absurd hp g2
    · rename_i g2
      split at hp
      · omega
      · rename_i g3
        split at hp
        · omega
        · rename_i g4
          exact chk_rest g1 (by simpa using g2) g3 (by simpa using g4)
theorem chk_parts {k : Int} {sh nu : List Int} {it : List Arr} (hp : partsE (.mk k sh nu it) ≠ 0) : (chk (.mk k sh nu it)).1 = partsE (.mk k sh nu it) := by
  rw [chk, partsE]
  rw [partsE] at hp
  split
  · rfl
  · rename_i g1
    rw [if_neg g1] at hp
    split
    · rfl
    · rename_i g2
      rw [if_neg g2] at hp
      split
      · rfl
      · rename_i g3
        rw [if_neg g3] at hp
        split
        · rfl
        · rename_i g4
          rw [if_neg g4] at hp
          exact absurd rfl hp
theorem parts_kind_ok {k : Int} {sh nu : List Int} {it : List Arr} (hp : partsE (.mk k sh nu it) = 0) : dimsE sh = 0 ∧ (aSize (.mk k sh nu it) : Int) = pr sh ∧ (k ≠ 3 → it.length = 0) := by
  rw [partsE] at hp
  split at hp
  · omega
  · rename_i g1
    split at hp
    · rename_i g2; exact absurd hp g2
    · rename_i g2
      split at hp
      · omega
      · rename_i g3
        refine ⟨by simpa using g2, by omega, fun hk => ?_⟩
        have : ¬ 0 < other k nu it := fun e => g3 (Or.inr e)
        rw [other, if_neg hk] at this
        omega
/-- The weight where nothing is cut off. -/
theorem wt_parts {k : Int} {sh nu : List Int} {it : List Arr} (hp : partsE (.mk k sh nu it) = 0) : wt (.mk k sh nu it) = min ((aSize (.mk k sh nu it) : Int) + sumW it) 262145 := by
  rw [wt]
  by_cases hk : k = 3
  · rw [if_pos hk]
  · rw [if_neg hk]
    have := (parts_kind_ok hp).2.2 hk
    rw [List.eq_nil_of_length_eq_zero this, sumW]

def CkPost (A : Arr) (d : Nat) (w : World) (e : Ending) (w' : World) : Prop :=
  ∃ x y er : Int, e = .returned (.tuple #[.int .i64 x, .int .i64 y, .int .i64 er]) ∧ (OKd d A → x = (chk A).2 ∧ y = wt A ∧ er = 0) ∧ (¬ OKd d A → er ≠ 0) ∧ (d = 0 → er = (chk A).1) ∧ Below w.heap.size w w'
theorem CkPost.bad {A : Arr} {d : Nat} {w w' : World} {x y er er' : Int} (hq : er = er') (hn : ¬ OKd d A) (h0 : er' ≠ 0) (h1 : d = 0 → er' = (chk A).1) (hb : Below w.heap.size w w') : CkPost A d w (.returned (.tuple #[.int .i64 x, .int .i64 y, .int .i64 er])) w' :=
  ⟨x, y, er, rfl, fun g => absurd g hn, fun _ => by rw [hq]; exact h0, fun g => by rw [hq]; exact h1 g, hb⟩
theorem CkPost.good {A : Arr} {d : Nat} {w w' : World} {x y er : Int} (ho : OKd d A) (hx : x = (chk A).2) (hy : y = wt A) (he : er = 0) (hb : Below w.heap.size w w') : CkPost A d w (.returned (.tuple #[.int .i64 x, .int .i64 y, .int .i64 er])) w' :=
  ⟨x, y, er, rfl, fun _ => ⟨hx, hy, he⟩, fun g => absurd ho g, fun _ => by rw [he]; exact ho.1.symm, hb⟩
/-- An array's four cells have their shapes. -/
theorem ArrAt.four {w : World} {c0 c1 c2 c3 : Value} {A : Arr} (h : ArrAt w (.agg #[c0, c1, c2, c3]) A) : ∃ (k : Int) (a1 : Option Addr) (n1 m1 : Nat) (a2 : Option Addr) (n2 m2 : Nat) (a3 : Option Addr) (n3 m3 : Nat), c0 = .int .i64 k ∧ c1 = .slice a1 n1 m1 ∧ c2 = .slice a2 n2 m2 ∧ c3 = .slice a3 n3 m3 := by
  obtain ⟨k, sh, nu, it⟩ := A
  rw [ArrAt] at h
  obtain ⟨sa, sc, na, nc, ia, ic, hv, -⟩ := h
  simp only [Value.agg.injEq, Array.mk.injEq, List.cons.injEq, and_true] at hv
  obtain ⟨rfl, rfl, rfl, rfl⟩ := hv
  exact ⟨_, _, _, _, _, _, _, _, _, _, rfl, rfl, rfl, rfl⟩
/-- Three items behind an error: what is known of the whole. -/
theorem ok_item {k : Int} {sh nu : List Int} {it : List Arr} {d j : Nat} (hp : partsE (.mk k sh nu it) = 0) (hj : j < it.length) (hn : ¬ OKd (d + 1) it[j]) : ¬ OKd d (.mk k sh nu it) ∧ (d = 0 → (17 : Int) = (chk (.mk k sh nu it)).1) := by
  have hs := chk_split hp
  have hbd := chk_bd it[j]
  cases hc : chkL 0 it with
  | none =>
    rw [hc] at hs
    simp only at hs
    rw [OKd, hs]
    exact ⟨fun g => by omega, fun _ => rfl⟩
  | some D =>
    rw [hc] at hs
    simp only at hs
    have hg := (chkL_ge it 0 D hc).2 j hj
    have hne : ¬ ((chk it[j]).2 = 0 ∨ (chk it[j]).2 + (d + 1 : Nat) ≤ 17) := fun g => hn ⟨hg.1, g⟩
    refine ⟨fun g => ?_, fun h0 => ?_⟩
    · obtain ⟨g1, g2⟩ := g
      rw [hs, lastE] at g1 g2
      split at g1
      · simp at g1
      · rename_i hl
        rw [if_neg hl] at g2
        simp only at g2
        omega
    · exact absurd (by omega) hne
theorem ok_cut {k : Int} {sh nu : List Int} {it : List Arr} {d : Nat} (hp : partsE (.mk k sh nu it) = 0) (hd : 16 < d) (hl : 0 < it.length) : ¬ OKd d (.mk k sh nu it) := by
  rintro ⟨g1, g2⟩
  have hs := chk_split hp
  cases hc : chkL 0 it with
  | none => rw [hc] at hs; simp only at hs; rw [hs] at g1; simp at g1
  | some D =>
    rw [hc] at hs
    simp only at hs
    have hg := (chkL_ge it 0 D hc).2 0 hl
    have hb := (chk_bd it[0]).1
    rw [hs, lastE] at g1 g2
    split at g1
    · simp at g1
    · rename_i hle
      rw [if_neg hle] at g2
      simp only at g2
      omega
theorem ok_last {k : Int} {sh nu : List Int} {it : List Arr} {d : Nat} {D : Int} (hp : partsE (.mk k sh nu it) = 0) (hc : chkL 0 it = some D) (hd : d ≤ 16 ∨ it.length = 0) (hall : ∀ j (h : j < it.length), OKd (d + 1) it[j]) (hD : 0 ≤ D) (hx : D = 0 ∨ ∃ j, ∃ h : j < it.length, D = (chk it[j]).2 + 1) :
    (16 < D ∨ 262144 < (aSize (.mk k sh nu it) : Int) + sumW it → chk (.mk k sh nu it) = (21, 0)) ∧ (¬ (16 < D ∨ 262144 < (aSize (.mk k sh nu it) : Int) + sumW it) → chk (.mk k sh nu it) = (0, D) ∧ wt (.mk k sh nu it) = (aSize (.mk k sh nu it) : Int) + sumW it ∧ OKd d (.mk k sh nu it)) := by
  have hs := chk_split hp
  rw [hc] at hs
  simp only at hs
  have hw := wt_parts hp
  refine ⟨fun h => ?_, fun h => ?_⟩
  · rw [hs, lastE, if_pos (by omega)]
  · have e : chk (.mk k sh nu it) = (0, D) := by rw [hs, lastE, if_neg (by omega)]
    refine ⟨e, by omega, ?_⟩
    rw [OKd, e]
    refine ⟨rfl, ?_⟩
    rcases hx with h0 | ⟨j, hj, hx⟩
    · exact Or.inl h0
    · have := (hall j hj).2
      simp only
      omega
theorem sum_bd : ∀ (l : List Arr), sumW l ≤ l.length * 262145
  | [] => by rw [sumW]; simp
  | A :: r => by
    have h1 := wt_le A
    have h2 := sum_bd r
    rw [sumW, List.length_cons]
    omega
theorem chk_dep_max {d e : Int} : max d e = if d ≤ e then e else d := by omega

def isCk (w : World) (b : Nat) : Prop := w.cell? ⟨b, 0, none⟩ = some (.func (.func 62) #[] #[.pointer (some ⟨b, 0, none⟩)])
theorem isCk.below {w w' : World} {b : Nat} (h : isCk w b) (hb : Below w.heap.size w w') : isCk w' b := by
  unfold isCk at h ⊢
  exact (hb.cell (cell_lt h)).trans h

set_option maxHeartbeats 2000000 in
set_option maxRecDepth 100000 in
theorem ckQ_any (n : Nat) : ∀ (v : Value) (A : Arr) (d : Nat) (w : World) (b : Nat), rk A ≤ n → d ≤ 17 → ArrAt w v A → isCk w b → Calls Try.prog 62 #[v, .int .i64 d, .pointer (some ⟨b, 0, none⟩)] w (CkPost A d w) := by
  induction n with
  | zero =>
    intro v A d w b hn _ _ _
    obtain ⟨k, sh, nu, it⟩ := A
    rw [rk] at hn; omega
  | succ n ih =>
    intro v A d w B hn hd h hf
    have hA := h
    obtain ⟨k, sh, nu, it⟩ := A
    rw [ArrAt] at h
    obtain ⟨sa, sc, na, nc, ia, ic, rfl, hk, hs, hnn, h1, h2, b, off, ha, hc⟩ := h
    have bn := below_new w (.cells #[.int .i64 k, .slice sa sh.length sc, .slice na nu.length nc, .slice ia it.length ic] 33)
    have hA1 := hA.below bn
    have hP1 := Par.new w (.int .i64 k) (.slice sa sh.length sc) (.slice na nu.length nc) (.slice ia it.length ic) 33
    have C := fun w' (g : ArrAt w' (.agg #[.int .i64 k, .slice sa sh.length sc, .slice na nu.length nc, .slice ia it.length ic]) (.mk k sh nu it)) => partsQ _ _ w' g
    have S := fun w' (g : ArrAt w' (.agg #[.int .i64 k, .slice sa sh.length sc, .slice na nu.length nc, .slice ia it.length ic]) (.mk k sh nu it)) => sizeQ _ _ w' g
    by_cases hp : partsE (.mk k sh nu it) = 0
    · rw [hp] at C
      have HP : Hid (partsE (.mk k sh nu it) = 0) := hp
      have hsz := (parts_kind_ok hp).2.1
      have hsm := dims_small (parts_kind_ok hp).1
      have hil : it.length ≤ aSize (.mk k sh nu it) := by
        by_cases hk3 : k = 3
        · subst hk3; exact Nat.le_refl _
        · rw [(parts_kind_ok hp).2.2 hk3]; exact Nat.zero_le _
      obtain ⟨z, hz⟩ : ∃ z : Nat, aSize (.mk k sh nu it) = z := ⟨_, rfl⟩
      have HZ : Hid (aSize (.mk k sh nu it) = z) := hz
      have hz1 : (z : Int) ≤ 65536 := by omega
      have hil2 : it.length ≤ z := by omega
      simp only [hz] at S
      clear hsz hsm hil hp hz hk hs hnn h1 h2
      by_cases hcut : 16 < d ∧ 0 < it.length
      · obtain ⟨c1, c2⟩ := hcut
        obtain rfl : d = 17 := by omega
        have HN : Hid (¬ OKd 17 (.mk k sh nu it)) := ok_cut HP.out c1 c2
        clear S ih
        go_enter Try.func62, Try.ntmps62
        go_wp2_with (first
          | (go_at_call 63; refine (C _ hA1).mono ?_; rintro e w1 ⟨rfl, hb1⟩; obtain ⟨q0, q1, q2, q3, q4⟩ := hP1.below hb1))
        go_ret3
        exact CkPost.bad rfl HN.out (by decide) (fun g => absurd g (by decide)) (Below.then bn hb1)
      · by_cases c1 : d ≤ 16
        · have c1' : ¬ 16 < d := by omega
          have hwd : IntKind.i64.wrap ((d : Int) + 1) = (d : Int) + 1 := by rw [IntKind.wrap_i64]; omega
          have HD16 : Hid (d ≤ 16 ∨ it.length = 0) := Or.inl c1
          clear hcut
          go_enter Try.func62, Try.ntmps62
          go_wp2_with (first
            | (go_at_call 63; refine (C _ hA1).mono ?_; rintro e w1 ⟨rfl, hb1⟩; obtain ⟨q0, q1, q2, q3, q4⟩ := hP1.below hb1; (have hA2 := hA1.below hb1))
            | (go_at_call 64; refine (S _ hA2).mono ?_; rintro e w2 ⟨rfl, hb2⟩; obtain ⟨r0, r1, r2, r3, r4⟩ := (hP1.below hb1).below hb2))
          have hPz : Par w2 w.heap.size (.int .i64 k) (.slice sa sh.length sc) (.slice na nu.length nc) (.slice ia it.length ic) := (hP1.below hb1).below hb2
          have hbz : Below w.heap.size w w2 := Below.then (Below.then bn hb1) hb2
          clear C S hA1 hA2 hP1 bn hb1 hb2 q0 q1 q2 q3 q4 r0 r1 r2 r3 r4 hA
          go_loopw [9, 10, 34] (fun dd ww i wr => ∃ (j : Nat) (D : Int), j ≤ it.length ∧ i = .int .i64 j ∧ dd = .int .i64 D ∧ ww = .int .i64 ((z : Int) + sumW (it.take j)) ∧ Hid (chkL 0 it = chkL D (it.drop j)) ∧ (∀ m (h : m < it.length), m < j → OKd (d + 1) it[m]) ∧ 0 ≤ D ∧ D ≤ 17 ∧ Hid (D = 0 ∨ ∃ m, ∃ h : m < it.length, D = (chk it[m]).2 + 1) ∧ Par wr w.heap.size (.int .i64 k) (.slice sa sh.length sc) (.slice na nu.length nc) (.slice ia it.length ic) ∧ Below w.heap.size w wr) (fun _ _ i _ => it.length - (intOf i).toNat)
          case atStart => exact ⟨0, 0, Nat.zero_le _, rfl, rfl, by rw [List.take_zero, sumW, Int.add_zero], rfl, fun m _ hm => absurd hm (Nat.not_lt_zero _), by decide, by decide, Or.inl rfl, hPz, hbz⟩
          case round =>
            obtain ⟨j, D, hj, rfl, rfl, rfl, hch, hall, hD0, hD1, hDx, hp, hb⟩ := hrel
            have HALL : Hid (∀ m (h : m < it.length), m < j → OKd (d + 1) it[m]) := hall
            clear hall hPz hbz
            obtain ⟨p0, p1, p2, p3, p4⟩ := id hp
            have s0 := sumW_nn (it.take j)
            have s1 := sum_bd (it.take j)
            rw [List.length_take] at s1
            by_cases hlt : j < it.length
            · have hix := items_at (ic := ic) rfl ha hlt
              obtain ⟨c0, c1, c2, c3, ⟨g0, g1, g2, g3⟩, hB⟩ := (ArrsAt.below hb hc).at hlt
              obtain ⟨ik, ia1, in1, im1, ia2, in2, im2, ia3, in3, im3, rfl, rfl, rfl, rfl⟩ := hB.four
              have bI := below_new wr (.cells #[.int .i64 ik, .slice ia1 in1 im1, .slice ia2 in2 im2, .slice ia3 in3 im3] 33)
              have fI := (hf.below hb).below bI
              have fJ := fI
              unfold isCk at fJ
              have IH := ih _ _ (d + 1) _ B (Nat.le_of_lt_succ (Nat.lt_of_lt_of_le (rk_item hlt) hn)) (by omega) (hB.below bI) fI
              rw [show (((d + 1 : Nat)) : Int) = (d : Int) + 1 by omega] at IH
              have hw1 := wt_nn it[j]
              have hw2 := wt_le it[j]
              have hx0 := (chk_bd it[j]).1
              have hx1 := (chk_bd it[j]).2
              have hPI := hp.below bI
              clear ih hB
              by_cases ok : OKd (d + 1) it[j]
              · have K : Calls Try.prog 62 #[.agg #[.int .i64 ik, .slice ia1 in1 im1, .slice ia2 in2 im2, .slice ia3 in3 im3], .int .i64 ((d : Int) + 1), .pointer (some ⟨B, 0, none⟩)] (wr.alloc (.cells #[.int .i64 ik, .slice ia1 in1 im1, .slice ia2 in2 im2, .slice ia3 in3 im3] 33)) (fun e w' => e = .returned (.tuple #[.int .i64 (chk it[j]).2, .int .i64 (wt it[j]), .int .i64 0]) ∧ Below (wr.alloc (.cells #[.int .i64 ik, .slice ia1 in1 im1, .slice ia2 in2 im2, .slice ia3 in3 im3] 33)).heap.size (wr.alloc (.cells #[.int .i64 ik, .slice ia1 in1 im1, .slice ia2 in2 im2, .slice ia3 in3 im3] 33)) w') := by
                  refine IH.mono ?_
                  rintro e w' ⟨x, y, er, rfl, hy, -, -, hbw⟩
                  obtain ⟨rfl, rfl, rfl⟩ := hy ok
                  exact ⟨rfl, hbw⟩
                have HOK : Hid (OKd (d + 1) it[j]) := ok
                have HS : Hid (sumW (it.take (j + 1)) = sumW (it.take j) + wt it[j]) := sumW_step hlt
                have HC : Hid (chkL D (it.drop j) = chkL (max D ((chk it[j]).2 + 1)) (it.drop (j + 1))) := chkL_step hlt ok.1
                obtain ⟨x, hx⟩ : ∃ x, (chk it[j]).2 = x := ⟨_, rfl⟩
                obtain ⟨y, hy⟩ : ∃ y, wt it[j] = y := ⟨_, rfl⟩
                have HX : Hid ((chk it[j]).2 = x) := hx
                rw [hx] at K hx0 hx1 HC
                rw [hy] at K hw1 hw2 HS
                clear IH ok hx hy
                have FIN : ∀ w3, Below (wr.alloc (.cells #[.int .i64 ik, .slice ia1 in1 im1, .slice ia2 in2 im2, .slice ia3 in3 im3] 33)).heap.size (wr.alloc (.cells #[.int .i64 ik, .slice ia1 in1 im1, .slice ia2 in2 im2, .slice ia3 in3 im3] 33)) w3 → ∀ m (h : m < it.length), m < j + 1 → OKd (d + 1) it[m] := fun _ _ m h1 h2 => by
                  by_cases e : m = j
                  · subst e; exact HOK.out
                  · exact HALL.out m h1 (by omega)
                by_cases cm : x + 1 > D
                · have HM : Hid (chkL 0 it = chkL (x + 1) (it.drop (j + 1))) := by unfold Hid; rw [hch.out, HC.out, show max D (x + 1) = x + 1 by omega]
                  go_wp2_with (go_at_call 62; refine K.mono ?_; rintro e w3 ⟨rfl, hb3⟩; obtain ⟨t0, t1, t2, t3, t4⟩ := hPI.below hb3)
                  go_roundw
                  case rel => exact ⟨j + 1, x + 1, by omega, by go_num, rfl, by rw [HS.out, Int.add_assoc], HM, FIN _ hb3, by omega, by omega, Or.inr ⟨j, hlt, by rw [HX.out]⟩, hPI.below hb3, Below.then (Below.then hb bI) hb3⟩
                  case measure => simp [intOf]; omega
                · have HM : Hid (chkL 0 it = chkL D (it.drop (j + 1))) := by unfold Hid; rw [hch.out, HC.out, show max D (x + 1) = D by omega]
                  go_wp2_with (go_at_call 62; refine K.mono ?_; rintro e w3 ⟨rfl, hb3⟩; obtain ⟨t0, t1, t2, t3, t4⟩ := hPI.below hb3)
                  go_roundw
                  case rel => exact ⟨j + 1, D, by omega, by go_num, rfl, by rw [HS.out, Int.add_assoc], HM, FIN _ hb3, by omega, by omega, hDx, hPI.below hb3, Below.then (Below.then hb bI) hb3⟩
                  case measure => simp [intOf]; omega
              · obtain ⟨n1, n2⟩ := ok_item HP.out hlt ok
                have N1 : Hid (¬ OKd d (.mk k sh nu it)) := n1
                have N2 : Hid (d = 0 → (17 : Int) = (chk (.mk k sh nu it)).1) := n2
                have K : Calls Try.prog 62 #[.agg #[.int .i64 ik, .slice ia1 in1 im1, .slice ia2 in2 im2, .slice ia3 in3 im3], .int .i64 ((d : Int) + 1), .pointer (some ⟨B, 0, none⟩)] (wr.alloc (.cells #[.int .i64 ik, .slice ia1 in1 im1, .slice ia2 in2 im2, .slice ia3 in3 im3] 33)) (fun e w' => ∃ x y er : Int, e = .returned (.tuple #[.int .i64 x, .int .i64 y, .int .i64 er]) ∧ (er != 0) = true ∧ Below (wr.alloc (.cells #[.int .i64 ik, .slice ia1 in1 im1, .slice ia2 in2 im2, .slice ia3 in3 im3] 33)).heap.size (wr.alloc (.cells #[.int .i64 ik, .slice ia1 in1 im1, .slice ia2 in2 im2, .slice ia3 in3 im3] 33)) w') := by
                  refine IH.mono ?_
                  rintro e w' ⟨x, y, er, rfl, -, hy, -, hbw⟩
                  exact ⟨x, y, er, rfl, by simpa using hy ok, hbw⟩
                clear IH ok n1 n2
                go_wp2_with (go_at_call 62; refine K.mono ?_; rintro e w3 ⟨x, y, er, rfl, her, hb3⟩)
                go_ret3
                exact CkPost.bad rfl N1.out (by decide) N2.out (Below.then (Below.then hb bI) hb3)
            · obtain rfl : j = it.length := by omega
              clear ih s0 s1
              have s0 := sumW_nn it
              have s1 := sum_bd it
              have L := fun hc0 => ok_last (d := d) HP.out (D := D) hc0 HD16.out (fun m h => HALL.out m h h) hD0 hDx.out
              rw [List.take_length]
              have hcc := hch.out
              rw [chkL_end (by omega)] at hcc
              have HL : Hid _ := L hcc
              rw [HZ.out] at HL
              clear L hcc
              by_cases e1 : 16 < D
              · have HQ : Hid (chk (.mk k sh nu it) = (21, 0)) := HL.out.1 (Or.inl e1)
                go_wp2_with fail
                go_ret3
                exact CkPost.bad rfl (fun g => by have := g.1; rw [HQ.out] at this; simp at this) (by decide) (fun _ => by rw [HQ.out]) hb
              · by_cases e2 : 262144 < (z : Int) + sumW it
                · have HQ : Hid (chk (.mk k sh nu it) = (21, 0)) := HL.out.1 (Or.inr e2)
                  go_wp2_with fail
                  go_ret3
                  exact CkPost.bad rfl (fun g => by have := g.1; rw [HQ.out] at this; simp at this) (by decide) (fun _ => by rw [HQ.out]) hb
                · have HQ : Hid _ := HL.out.2 (by omega)
                  clear HL
                  go_wp2_with fail
                  go_ret3
                  exact CkPost.good HQ.out.2.2 (by rw [HQ.out.1]) (by rw [HQ.out.2.1]) rfl hb
        · have hi0 : it.length = 0 := by omega
          obtain rfl : it = [] := List.eq_nil_of_length_eq_zero hi0
          have HD16 : Hid (d ≤ 16 ∨ ([] : List Arr).length = 0) := Or.inr rfl
          have c1' : 16 < d := by omega
          have L := ok_last (d := d) HP.out (D := 0) rfl HD16.out (fun m h => absurd h (by simp)) (by decide) (Or.inl rfl)
          rw [HZ.out, sumW] at L
          have HQ : Hid _ := L.2 (by omega)
          clear hcut L ih
          go_enter Try.func62, Try.ntmps62
          go_wp2_with (first
            | (go_at_call 63; refine (C _ hA1).mono ?_; rintro e w1 ⟨rfl, hb1⟩; obtain ⟨q0, q1, q2, q3, q4⟩ := hP1.below hb1; (have hA2 := hA1.below hb1))
            | (go_at_call 64; refine (S _ hA2).mono ?_; rintro e w2 ⟨rfl, hb2⟩; obtain ⟨r0, r1, r2, r3, r4⟩ := (hP1.below hb1).below hb2))
          refine wp_loop_rounds 1 ?_
          rw [rounds_succ]
          go_wp2_with fail
          go_ret3
          exact CkPost.good HQ.out.2.2 (by rw [HQ.out.1]) (by rw [HQ.out.2.1]; simp) rfl (Below.then (Below.then bn hb1) hb2)
    · have HE : Hid ((chk (.mk k sh nu it)).1 = partsE (.mk k sh nu it)) := chk_parts hp
      have HN : Hid (¬ OKd d (.mk k sh nu it)) := fun g => hp (by rw [← HE.out]; exact g.1)
      have hp' : (partsE (.mk k sh nu it) != 0) = true := by simpa using hp
      have HP : Hid (partsE (.mk k sh nu it) ≠ 0) := hp
      clear hp S ih hk hs hnn h1 h2
      go_enter Try.func62, Try.ntmps62
      go_wp2_with (first
        | (go_at_call 63; refine (C _ hA1).mono ?_; rintro e w1 ⟨rfl, hb1⟩))
      go_ret3
      exact CkPost.bad rfl HN.out HP.out (fun _ => HE.out.symm) (Below.then bn hb1)
theorem below2 (w : World) (o o' : Obj) : Below w.heap.size w ((w.alloc o).alloc o') := ((Below.refl _ _).alloc (Nat.le_refl _) o).alloc (by simp) o'
theorem isCk.new (W : World) (B : Nat) (t : TypeId) (hB : B = W.heap.size) : isCk (W.alloc (.cells #[.func (.func 62) #[] #[.pointer (some ⟨B, 0, none⟩)]] t)) B := by
  subst hB
  unfold isCk
  rw [World.cell?_alloc_new]
  rfl
theorem rightQ (v : Value) (A : Arr) (w : World) (h : ArrAt w v A) : Calls Try.prog 30 #[v] w fun e w' => e = .returned (.int .i64 (rightE A)) ∧ Below w.heap.size w w' := by
  have hmf : ∀ (fn : Fn) (first cap : Array Value) (w : World), (Instr.makeFunc fn first cap).run Try.prog w = .ok (.func fn first cap) w := fun _ _ _ _ => rfl
  have hA := h
  obtain ⟨k, sh, nu, it⟩ := A
  rw [ArrAt] at h
  obtain ⟨sa, sc, na, nc, ia, ic, rfl, -⟩ := h
  have K : ∀ w' (g : ArrAt w' (.agg #[.int .i64 k, .slice sa sh.length sc, .slice na nu.length nc, .slice ia it.length ic]) (.mk k sh nu it)) B (f : isCk w' B), Calls Try.prog 62 #[.agg #[.int .i64 k, .slice sa sh.length sc, .slice na nu.length nc, .slice ia it.length ic], .int .i64 0, .pointer (some ⟨B, 0, none⟩)] w' (fun e w2 => ∃ x y, e = .returned (.tuple #[.int .i64 x, .int .i64 y, .int .i64 (rightE (.mk k sh nu it))]) ∧ Below w'.heap.size w' w2) := by
    intro w' g B f
    refine (ckQ_any _ _ _ 0 w' B (Nat.le_refl _) (by decide) g f).mono ?_
    rintro e w2 ⟨x, y, er, rfl, -, -, h3, h4⟩
    exact ⟨x, y, by rw [h3 rfl]; rfl, h4⟩
  go_enter Try.func30, Try.ntmps30
  go_wp2_with (go_at_call 62; refine (K _ (hA.below (below2 _ _ _)) _ (isCk.new _ _ _ (by simp))).mono ?_; rintro e w2 ⟨x, y, rfl, hb⟩)
  go_ret
  exact ⟨rfl, Below.then (below2 _ _ _) hb⟩
end Go.Proofs.Ytekbdiniibmhgaa.Shape
