/-
  Layer 3: the reference's Right, Shapes, Same, Few, Small and SmallList.
-/
import Derived.Test.YtekbdiniibmhgaaArrCheckg
import Derived.StillTailTactics
namespace Go.Proofs.Ytekbdiniibmhgaa.Shape
open Go.RowKit

theorem below_drewN {w : World} (k : Nat) : Below w.heap.size w (w.drewN k) := ⟨rfl, rfl, rfl, Nat.le_refl _, fun _ _ => rfl⟩
def rightE (A : Arr) : Int := (chk A).1
theorem rightR3 (v : Value) (A : Arr) (w : World) (h : ArrAt w v A) : Calls Try.prog 17 #[v] w fun e w' => e = .returned (.int .i64 (rightE A)) ∧ Below w.heap.size w w' := by
  have hA := h
  obtain ⟨k, sh, nu, it⟩ := A
  rw [ArrAt] at h
  obtain ⟨sa, sc, na, nc, ia, ic, rfl, -⟩ := h
  have hA1 := hA.below (below_new w (.cells #[.int .i64 k, .slice sa sh.length sc, .slice na nu.length nc, .slice ia it.length ic] 33))
  go_enter Try.func17, Try.ntmps17
  go_wp2_with (go_at_call 40; refine (checkR _ _ _ hA1).mono ?_; rintro e w1 ⟨rfl, hb1⟩)
  go_ret
  exact ⟨rfl, Below.then (below_new _ _) hb1⟩

def sameB (xs ys : List Int) : Bool := decide (xs = ys)
theorem same_len {xs ys : List Int} (h : ¬ xs.length = ys.length) : sameB xs ys = false := by
  simp only [sameB, decide_eq_false_iff_not]; intro e; exact h (by rw [e])
theorem same_at {xs ys : List Int} {k : Nat} (h1 : k < xs.length) (h2 : k < ys.length) (h : ¬ xs[k] = ys[k]) : sameB xs ys = false := by
  simp only [sameB, decide_eq_false_iff_not]; intro e; subst e; exact h rfl
theorem same_all {xs ys : List Int} (h : xs.length = ys.length) (h2 : ∀ i (h1 : i < xs.length) (h2 : i < ys.length), xs[i] = ys[i]) : sameB xs ys = true := by
  simp only [sameB, decide_eq_true_eq]; exact List.ext_getElem h h2

set_option maxHeartbeats 1000000 in
theorem shapesR (a : Option Addr) (cap : Nat) (xs : List Int) (a2 : Option Addr) (cap2 : Nat) (ys : List Int) (w : World) (h : IntsAt w a cap xs) (g : IntsAt w a2 cap2 ys) :
    Calls Try.prog 39 #[.slice a xs.length cap, .slice a2 ys.length cap2] w fun e w' => e = .returned (.bool (sameB xs ys)) ∧ ∃ n, w' = w.drewN n := by
  have hl := h.len
  have hl2 := g.len
  by_cases hn : xs.length = ys.length
  · have hn' : ((xs.length : Int) != (ys.length : Int)) = false := by rw [hn]; simp
    go_enter Try.func39, Try.ntmps39
    go_wp2
    clear hn'
    go_loopw [5] (fun i wr => ∃ k n : Nat, k ≤ xs.length ∧ i = .int .i64 k ∧ wr = w.drewN n ∧ ∀ j (h1 : j < xs.length) (h2 : j < ys.length), j < k → xs[j] = ys[j]) (fun i _ => xs.length - (intOf i).toNat)
    case atStart => exact ⟨0, 0, Nat.zero_le _, rfl, rfl, fun j _ _ hj => absurd hj (Nat.not_lt_zero _)⟩
    case round =>
      obtain ⟨k, n, hk, rfl, rfl, he⟩ := hrel
      have HE : Hid (∀ j (h1 : j < xs.length) (h2 : j < ys.length), j < k → xs[j] = ys[j]) := he
      clear he
      by_cases hlt : k < xs.length
      · have hlt2 : k < ys.length := by omega
        obtain ⟨b, off, hi, hc⟩ := h.at hlt
        obtain ⟨b2, off2, hi2, hc2⟩ := g.at hlt2
        by_cases c1 : xs[k] = ys[k]
        · have c1' : (xs[k] != ys[k]) = false := by simpa using c1
          have HC : Hid (xs[k] = ys[k]) := c1
          clear c1 hn
          go_wp2_with fail
          go_quiet (fail)
          go_wp2_with fail
          go_roundw
          case rel => exact ⟨k + 1, n + nq, by omega, by go_num, rfl, fun j h1 h2 hj => by
            by_cases e : j = k
            · subst e; exact HC.out
            · exact HE.out j h1 h2 (by omega)⟩
          case measure => simp [intOf]; omega
        · have em := same_at hlt hlt2 c1
          have c1' : (xs[k] != ys[k]) = true := by simpa using c1
          clear c1 hn
          go_wp2_with fail
          go_quiet (fail)
          go_wp2_with fail
          go_ret
          exact ⟨by first | rfl | exact ret_bool em.symm, n + nq, World.drewN_drewN ..⟩
      · obtain rfl : k = xs.length := by omega
        have em := same_all hn (fun i h1 h2 => HE.out i h1 h2 h1)
        clear hn
        go_wp2_with fail
        go_ret
        first | exact ⟨rfl, _, rfl⟩ | exact ⟨ret_bool em.symm, _, rfl⟩
  · have em := same_len hn
    have hn' : ((xs.length : Int) != (ys.length : Int)) = true := by simp; omega
    clear hn
    go_enter Try.func39, Try.ntmps39
    go_wp2
    go_ret
    first | exact ⟨rfl, 0, rfl⟩ | exact ⟨ret_bool em.symm, 0, rfl⟩

mutual
def eqA : Arr → Arr → Bool
  | .mk k sh nu it, .mk k2 sh2 nu2 it2 => k == k2 && sameB sh sh2 && sameB nu nu2 && eqL it it2
def eqL : List Arr → List Arr → Bool
  | [], [] => true
  | A :: r, B :: s => eqA A B && eqL r s
  | _, _ => false
end
theorem eqL_len : ∀ (l m : List Arr), ¬ l.length = m.length → eqL l m = false
  | [], [], h => absurd rfl h
  | [], _ :: _, _ => by rw [eqL] <;> simp
  | _ :: _, [], _ => by rw [eqL] <;> simp
  | A :: r, B :: s, h => by
    rw [eqL, eqL_len r s (fun e => h (by simp [e]))]; simp
theorem eqL_at : ∀ (l m : List Arr) (j : Nat) (h1 : j < l.length) (h2 : j < m.length), eqA l[j] m[j] = false → eqL l m = false
  | [], _, _, h, _, _ => absurd h (by simp)
  | _ :: _, [], _, _, h, _ => absurd h (by simp)
  | A :: r, B :: s, 0, _, _, h => by rw [eqL]; simp at h; rw [h]; rfl
  | A :: r, B :: s, j + 1, h1, h2, h => by
    rw [eqL, eqL_at r s j (by simpa using h1) (by simpa using h2) (by simpa using h)]; simp
theorem eqL_all : ∀ (l m : List Arr), l.length = m.length → (∀ j (h1 : j < l.length) (h2 : j < m.length), eqA l[j] m[j] = true) → eqL l m = true
  | [], [], _, _ => by rw [eqL]
  | [], _ :: _, h, _ => by simp at h
  | _ :: _, [], h, _ => by simp at h
  | A :: r, B :: s, h, g => by
    have g0 := g 0 (by simp) (by simp)
    simp only [List.getElem_cons_zero] at g0
    rw [eqL, g0, eqL_all r s (by simpa using h) (fun j h1 h2 => g (j + 1) (Nat.succ_lt_succ h1) (Nat.succ_lt_succ h2))]; rfl

set_option maxHeartbeats 2000000 in
set_option maxRecDepth 100000 in
theorem sameR_any (n : Nat) : ∀ (v v2 : Value) (A B : Arr) (w : World), rk A ≤ n → ArrAt w v A → ArrAt w v2 B → Calls Try.prog 16 #[v, v2] w fun e w' => e = .returned (.bool (eqA A B)) ∧ Below w.heap.size w w' := by
  induction n with
  | zero =>
    intro v v2 A B w hn _ _
    obtain ⟨k, sh, nu, it⟩ := A
    rw [rk] at hn; omega
  | succ n ih =>
    intro v v2 A B w hn h g
    obtain ⟨k, sh, nu, it⟩ := A
    obtain ⟨k2, sh2, nu2, it2⟩ := B
    have hA := h
    have gA := g
    rw [ArrAt] at h g
    obtain ⟨sa, sc, na, nc, ia, ic, rfl, hk, hs, hnn, h1, h2, b, off, ha, hc⟩ := h
    obtain ⟨sa2, sc2, na2, nc2, ia2, ic2, rfl, gk, gs, gnn, g1, g2, b2, off2, ga, gc⟩ := g
    have BN := Below.then (below_new w (.cells #[.int .i64 k, .slice sa sh.length sc, .slice na nu.length nc, .slice ia it.length ic] 33)) (below_new _ (.cells #[.int .i64 k2, .slice sa2 sh2.length sc2, .slice na2 nu2.length nc2, .slice ia2 it2.length ic2] 33))
    have hs1 := hs.below BN
    have gs1 := gs.below BN
    have hn1 := hnn.below BN
    have gn1 := gnn.below BN
    have HG : Hid (eqA (.mk k sh nu it) (.mk k2 sh2 nu2 it2) = (k == k2 && sameB sh sh2 && sameB nu nu2 && eqL it it2)) := by unfold Hid; rw [eqA]
    by_cases ck : k = k2
    · have ck' : (k != k2) = false := by simpa using ck
      have CK : Hid ((k == k2) = true) := by unfold Hid; simpa using ck
      clear ck
      by_cases cs : sameB sh sh2 = true
      · by_cases cn : sameB nu nu2 = true
        · by_cases cl : it.length = it2.length
          · have cl' : ((it.length : Int) != (it2.length : Int)) = false := by rw [cl]; simp
            have CL : Hid (it.length = it2.length) := cl
            have hP1 := (Par.new w (.int .i64 k) (.slice sa sh.length sc) (.slice na nu.length nc) (.slice ia it.length ic) 33).below (below_new _ (.cells #[.int .i64 k2, .slice sa2 sh2.length sc2, .slice na2 nu2.length nc2, .slice ia2 it2.length ic2] 33))
            have hP2 := Par.new (w.alloc (.cells #[.int .i64 k, .slice sa sh.length sc, .slice na nu.length nc, .slice ia it.length ic] 33)) (.int .i64 k2) (.slice sa2 sh2.length sc2) (.slice na2 nu2.length nc2) (.slice ia2 it2.length ic2) 33
            rw [show (w.alloc (.cells #[.int .i64 k, .slice sa sh.length sc, .slice na nu.length nc, .slice ia it.length ic] 33)).heap.size = w.heap.size + 1 by simp] at hP2
            clear cl
            go_enter Try.func16, Try.ntmps16
            go_wp2_with (first
              | (go_at_call 39; ((with_reducible refine (shapesR sa sc sh sa2 sc2 sh2 _ hs1 gs1).mono ?_); rintro e w' ⟨rfl, n1, rfl⟩))
              | (go_at_call 39; ((with_reducible refine (shapesR na nc nu na2 nc2 nu2 _ (hn1.drewN n1) (gn1.drewN n1)).mono ?_); rintro e w' ⟨rfl, n2, rfl⟩)))
            have HE2 : Hid (eqA (.mk k sh nu it) (.mk k2 sh2 nu2 it2) = eqL it it2) := by unfold Hid; rw [HG.out, CK.out, cs, cn]; rfl
            go_loopw [5] (fun i wr => ∃ j : Nat, j ≤ it.length ∧ i = .int .i64 j ∧ Par wr w.heap.size (.int .i64 k) (.slice sa sh.length sc) (.slice na nu.length nc) (.slice ia it.length ic) ∧ Par wr (w.heap.size + 1) (.int .i64 k2) (.slice sa2 sh2.length sc2) (.slice na2 nu2.length nc2) (.slice ia2 it2.length ic2) ∧ Below w.heap.size w wr ∧ ∀ i (h1 : i < it.length) (h2 : i < it2.length), i < j → eqA it[i] it2[i] = true) (fun i _ => it.length - (intOf i).toNat)
            case atStart => exact ⟨0, Nat.zero_le _, rfl, hP1, hP2, Below.then BN (below_drewN _), fun i _ _ hi => absurd hi (Nat.not_lt_zero _)⟩
            case round =>
              obtain ⟨j, hj, rfl, q1, q2, hb, he⟩ := hrel
              have HE : Hid (∀ i (h1 : i < it.length) (h2 : i < it2.length), i < j → eqA it[i] it2[i] = true) := he
              clear he hs1 gs1 hn1 gn1 cs cn hP1 hP2 BN
              obtain ⟨p0, p1, p2, p3, p4⟩ := id q1
              obtain ⟨r0, r1, r2, r3, r4⟩ := id q2
              by_cases hlt : j < it.length
              · have hlt2 : j < it2.length := by have := CL.out; omega
                have hi := items_at (ic := ic) rfl ha hlt
                have gi := items_at (ic := ic2) rfl ga hlt2
                obtain ⟨c0, c1, c2, c3, ⟨m0, m1, m2, m3⟩, hB⟩ := (ArrsAt.below hb hc).at hlt
                obtain ⟨d0, d1, d2, d3, ⟨l0, l1, l2, l3⟩, gB⟩ := (ArrsAt.below hb gc).at hlt2
                have hrk : rk it[j] ≤ n := Nat.le_of_lt_succ (Nat.lt_of_lt_of_le (rk_item hlt) hn)
                have ic1 := ih _ _ _ _ wr.drew hrk hB.drew gB.drew
                by_cases ce : eqA it[j] it2[j] = true
                · rw [ce] at ic1
                  have HC : Hid (eqA it[j] it2[j] = true) := ce
                  clear ih ce
                  go_wp2_with fail
                  go_still_tail 10, (by kernel_rfl)
                  go_wp2_with (go_at_call 16; refine ic1.mono ?_; rintro e w2 ⟨rfl, hb2⟩)
                  go_roundw
                  case rel => exact ⟨j + 1, by omega, by go_num, q1.drew.below hb2, q2.drew.below hb2, Below.then hb (Below.then (below_drew _) hb2), fun i h1 h2 hi => by
                    by_cases e : i = j
                    · subst e; exact HC.out
                    · exact HE.out i h1 h2 (by omega)⟩
                  case measure => simp [intOf]; omega
                · have ce' : eqA it[j] it2[j] = false := by simpa using ce
                  rw [ce'] at ic1
                  have HF : Hid (eqA (.mk k sh nu it) (.mk k2 sh2 nu2 it2) = false) := by unfold Hid; rw [HE2.out]; exact eqL_at it it2 j hlt hlt2 ce'
                  clear ih ce ce'
                  go_wp2_with fail
                  go_still_tail 10, (by kernel_rfl)
                  go_wp2_with (go_at_call 16; refine ic1.mono ?_; rintro e w2 ⟨rfl, hb2⟩)
                  go_ret
                  exact ⟨by first | rfl | exact ret_bool HF.out.symm, Below.then hb (Below.then (below_drew _) hb2)⟩
              · obtain rfl : j = it.length := by omega
                have HF : Hid (eqA (.mk k sh nu it) (.mk k2 sh2 nu2 it2) = true) := by unfold Hid; rw [HE2.out]; exact eqL_all it it2 CL.out (fun i h1 h2 => HE.out i h1 h2 h1)
                clear ih
                go_wp2_with fail
                go_ret
                exact ⟨by first | rfl | exact ret_bool HF.out.symm, hb⟩
          · have cl' : ((it.length : Int) != (it2.length : Int)) = true := by simp; omega
            have HE : Hid (eqA (.mk k sh nu it) (.mk k2 sh2 nu2 it2) = false) := by unfold Hid; rw [HG.out, eqL_len it it2 cl]; simp
            clear cl ih
            go_enter Try.func16, Try.ntmps16
            go_wp2_with (first
              | (go_at_call 39; ((with_reducible refine (shapesR sa sc sh sa2 sc2 sh2 _ hs1 gs1).mono ?_); rintro e w' ⟨rfl, n1, rfl⟩))
              | (go_at_call 39; ((with_reducible refine (shapesR na nc nu na2 nc2 nu2 _ (hn1.drewN n1) (gn1.drewN n1)).mono ?_); rintro e w' ⟨rfl, n2, rfl⟩)))
            go_ret
            exact ⟨by first | rfl | exact ret_bool HE.out.symm, Below.then BN (below_drewN _)⟩
        · have cn' : sameB nu nu2 = false := by simpa using cn
          have HE : Hid (eqA (.mk k sh nu it) (.mk k2 sh2 nu2 it2) = false) := by unfold Hid; rw [HG.out, cn']; simp
          clear cn ih
          go_enter Try.func16, Try.ntmps16
          go_wp2_with (first
            | (go_at_call 39; ((with_reducible refine (shapesR sa sc sh sa2 sc2 sh2 _ hs1 gs1).mono ?_); rintro e w' ⟨rfl, n1, rfl⟩))
            | (go_at_call 39; ((with_reducible refine (shapesR na nc nu na2 nc2 nu2 _ (hn1.drewN n1) (gn1.drewN n1)).mono ?_); rintro e w' ⟨rfl, n2, rfl⟩)))
          go_ret
          exact ⟨by first | rfl | exact ret_bool HE.out.symm, Below.then BN (below_drewN _)⟩
      · have cs' : sameB sh sh2 = false := by simpa using cs
        have HE : Hid (eqA (.mk k sh nu it) (.mk k2 sh2 nu2 it2) = false) := by unfold Hid; rw [HG.out, cs']; simp
        clear cs ih
        go_enter Try.func16, Try.ntmps16
        go_wp2_with (first
          | (go_at_call 39; ((with_reducible refine (shapesR sa sc sh sa2 sc2 sh2 _ hs1 gs1).mono ?_); rintro e w' ⟨rfl, n1, rfl⟩))
          | (go_at_call 39; ((with_reducible refine (shapesR na nc nu na2 nc2 nu2 _ (hn1.drewN n1) (gn1.drewN n1)).mono ?_); rintro e w' ⟨rfl, n2, rfl⟩)))
        go_ret
        exact ⟨by first | rfl | exact ret_bool HE.out.symm, Below.then BN (below_drewN _)⟩
    · have ck' : (k != k2) = true := by simpa using ck
      have HE : Hid (eqA (.mk k sh nu it) (.mk k2 sh2 nu2 it2) = false) := by unfold Hid; rw [HG.out, show (k == k2) = false by simpa using ck]; simp
      clear ck ih
      go_enter Try.func16, Try.ntmps16
      go_wp2_with (first
        | (go_at_call 39; ((with_reducible refine (shapesR sa sc sh sa2 sc2 sh2 _ hs1 gs1).mono ?_); rintro e w' ⟨rfl, n1, rfl⟩))
        | (go_at_call 39; ((with_reducible refine (shapesR na nc nu na2 nc2 nu2 _ (hn1.drewN n1) (gn1.drewN n1)).mono ?_); rintro e w' ⟨rfl, n2, rfl⟩)))
      go_ret
      exact ⟨by first | rfl | exact ret_bool HE.out.symm, BN⟩

theorem sameR3 (v v2 : Value) (A B : Arr) (w : World) (h : ArrAt w v A) (g : ArrAt w v2 B) : Calls Try.prog 16 #[v, v2] w fun e w' => e = .returned (.bool (eqA A B)) ∧ Below w.heap.size w w' :=
  sameR_any (rk A) v v2 A B w (Nat.le_refl _) h g
end Go.Proofs.Ytekbdiniibmhgaa.Shape
