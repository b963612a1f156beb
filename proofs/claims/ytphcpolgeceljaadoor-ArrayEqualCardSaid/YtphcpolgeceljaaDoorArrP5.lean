/-
  Layer 3: the program's Same: its recursive closure and the call.
-/
import Derived.Test.YtphcpolgeceljaaDoorArrP3
namespace Go.Proofs.YtphcpolgeceljaaDoor.Shape
open Go.RowKit

def isSm (w : World) (b : Nat) : Prop := w.cell? ⟨b, 0, none⟩ = some (.func (.func 52) #[] #[.pointer (some ⟨b, 0, none⟩)])
theorem isSm.below {w w' : World} {b : Nat} (h : isSm w b) (hb : Below w.heap.size w w') : isSm w' b := by
  unfold isSm at h ⊢
  exact (hb.cell (cell_lt h)).trans h

set_option maxHeartbeats 2000000 in
set_option maxRecDepth 100000 in
theorem smQ_any (n : Nat) : ∀ (v v2 : Value) (A B : Arr) (w : World) (q : Nat), rk A ≤ n → ArrAt w v A → ArrAt w v2 B → isSm w q →
    Calls Tryd.prog 52 #[v, v2, .pointer (some ⟨q, 0, none⟩)] w fun e w' => e = .returned (.bool (eqA A B)) ∧ Below w.heap.size w w' := by
  induction n with
  | zero =>
    intro v v2 A B w q hn _ _ _
    obtain ⟨k, sh, nu, it⟩ := A
    rw [rk] at hn; omega
  | succ n ih =>
    intro v v2 A B w q hn h g hf
    obtain ⟨k, sh, nu, it⟩ := A
    obtain ⟨k2, sh2, nu2, it2⟩ := B
    have hA := h
    have gA := g
    rw [ArrAt] at h g
    obtain ⟨sa, sc, na, nc, ia, ic, rfl, hk, hs, hnn, h1, h2, b, off, ha, hc⟩ := h
    obtain ⟨sa2, sc2, na2, nc2, ia2, ic2, rfl, gk, gs, gnn, g1, g2, b2, off2, ga, gc⟩ := g
    have BN := below2 w (.cells #[.int .i64 k, .slice sa sh.length sc, .slice na nu.length nc, .slice ia it.length ic] 26) (.cells #[.int .i64 k2, .slice sa2 sh2.length sc2, .slice na2 nu2.length nc2, .slice ia2 it2.length ic2] 26)
    have hs1 := hs.below BN
    have gs1 := gs.below BN
    have hn1 := hnn.below BN
    have gn1 := gnn.below BN
    have HG : Hid (eqA (.mk k sh nu it) (.mk k2 sh2 nu2 it2) = (k == k2 && sameB sh sh2 && sameB nu nu2 && eqL it it2)) := by unfold Hid; rw [eqA]
    have hP1 := (Par.new w (.int .i64 k) (.slice sa sh.length sc) (.slice na nu.length nc) (.slice ia it.length ic) 26).below (below_new _ (.cells #[.int .i64 k2, .slice sa2 sh2.length sc2, .slice na2 nu2.length nc2, .slice ia2 it2.length ic2] 26))
    have hP2 := Par.new (w.alloc (.cells #[.int .i64 k, .slice sa sh.length sc, .slice na nu.length nc, .slice ia it.length ic] 26)) (.int .i64 k2) (.slice sa2 sh2.length sc2) (.slice na2 nu2.length nc2) (.slice ia2 it2.length ic2) 26
    rw [show (w.alloc (.cells #[.int .i64 k, .slice sa sh.length sc, .slice na nu.length nc, .slice ia it.length ic] 26)).heap.size = w.heap.size + 1 by simp] at hP2
    have CS := shSameP sa sc sh sa2 sc2 sh2 _ hs1 gs1
    have CE := fun w' (b1 : Below _ _ w') => equalP na nc nu na2 nc2 nu2 w' (hn1.below b1) (gn1.below b1)
    have il1 : it.length ≤ 9223372036854775807 := by omega
    have il2 : it2.length ≤ 9223372036854775807 := by omega
    clear hs gs hnn gnn hs1 gs1 hn1 gn1 hk gk h1 h2 g1 g2
    by_cases ck : k = k2
    · have ck' : (k != k2) = false := by simpa using ck
      have CK : Hid ((k == k2) = true) := by unfold Hid; simpa using ck
      clear ck
      cases cs : sameB sh sh2 with
      | true =>
        rw [cs] at CS
        cases cn : sameB nu nu2 with
        | true =>
          simp only [cn] at CE
          by_cases cl : it.length = it2.length
          · have cl' : ((it.length : Int) != (it2.length : Int)) = false := by rw [cl]; simp
            have CL : Hid (it.length = it2.length) := cl
            have HE2 : Hid (eqA (.mk k sh nu it) (.mk k2 sh2 nu2 it2) = eqL it it2) := by unfold Hid; rw [HG.out, CK.out, cs, cn]; rfl
            clear cl cs cn HG
            go_enter Tryd.func52, Tryd.ntmps52
            go_wp2_with (first
              | (go_at_call 53; ((with_reducible refine CS.mono ?_); rintro e w3 ⟨rfl, b3⟩; (obtain ⟨q0, q1, q2, q3, q4⟩ := hP1.below b3); (obtain ⟨r0, r1, r2, r3, r4⟩ := hP2.below b3)))
              | (go_at_call 54; ((with_reducible refine (CE _ b3).mono ?_); rintro e w4 ⟨rfl, b4⟩; (obtain ⟨m0, m1, m2, m3, m4⟩ := (hP1.below b3).below b4); (obtain ⟨l0, l1, l2, l3, l4⟩ := (hP2.below b3).below b4))))
            have pz1 := (hP1.below b3).below b4
            have pz2 := (hP2.below b3).below b4
            have bz := Below.then (Below.then BN b3) b4
            clear CS CE hP1 hP2 BN b3 b4 q0 q1 q2 q3 q4 r0 r1 r2 r3 r4 m0 m1 m2 m3 m4 l0 l1 l2 l3 l4 hA gA ck' cl'
            go_loopw [41] (fun i wr => ∃ j : Nat, j ≤ it.length ∧ i = .int .i64 j ∧ Par wr (w.heap.size + 1) (.int .i64 k2) (.slice sa2 sh2.length sc2) (.slice na2 nu2.length nc2) (.slice ia2 it2.length ic2) ∧ Below w.heap.size w wr ∧ ∀ i (h1 : i < it.length) (h2 : i < it2.length), i < j → eqA it[i] it2[i] = true) (fun i _ => it.length - (intOf i).toNat)
            case atStart => exact ⟨0, Nat.zero_le _, rfl, pz2, bz, fun i _ _ hi => absurd hi (Nat.not_lt_zero _)⟩
            case round =>
              obtain ⟨j, hj, rfl, q2, hb, he⟩ := hrel
              have HE : Hid (∀ i (h1 : i < it.length) (h2 : i < it2.length), i < j → eqA it[i] it2[i] = true) := he
              clear he pz1 pz2 bz
              by_cases hlt : j < it.length
              · have hlt2 : j < it2.length := by have := CL.out; omega
                have hi := items_at (ic := ic) rfl ha hlt
                have gi := items_at (ic := ic2) rfl ga hlt2
                obtain ⟨c0, c1, c2, c3, ⟨m0, m1, m2, m3⟩, hB⟩ := (ArrsAt.below hb hc).at hlt
                obtain ⟨ik, ia1, in1, im1, ia2', in2, im2, ia3, in3, im3, rfl, rfl, rfl, rfl⟩ := hB.four
                have bI := below_new wr (.cells #[.int .i64 ik, .slice ia1 in1 im1, .slice ia2' in2 im2, .slice ia3 in3 im3] 26)
                obtain ⟨d0, d1, d2, d3, ⟨l0, l1, l2, l3⟩, gB⟩ := (ArrsAt.below (Below.then hb bI) gc).at hlt2
                have qI := q2.below bI
                obtain ⟨r0, r1, r2, r3, r4⟩ := id qI
                obtain ⟨n0, n1, n2, n3, n4⟩ := Par.new wr (.int .i64 ik) (.slice ia1 in1 im1) (.slice ia2' in2 im2) (.slice ia3 in3 im3) 26
                have fI := (hf.below hb).below bI
                have fJ := fI
                unfold isSm at fJ
                have hrk : rk it[j] ≤ n := Nat.le_of_lt_succ (Nat.lt_of_lt_of_le (rk_item hlt) hn)
                have ic1 := ih _ _ _ _ (wr.alloc (.cells #[.int .i64 ik, .slice ia1 in1 im1, .slice ia2' in2 im2, .slice ia3 in3 im3] 26)).drew q hrk (hB.below bI).drew gB.drew fI
                clear ih
                go_wp2_with fail
                cases ce : eqA it[j] it2[j] with
                | true =>
                  rw [ce] at ic1
                  have HC : Hid (eqA it[j] it2[j] = true) := ce
                  clear ce hB gB fI m0 m1 m2 m3
                  have hbI := Below.then hb bI
                  clear bI
                  generalize wr.alloc (.cells #[.int .i64 ik, .slice ia1 in1 im1, .slice ia2' in2 im2, .slice ia3 in3 im3] 26) = WI at hbI qI r0 r1 r2 r3 r4 fJ ic1 l0 l1 l2 l3 n0 n1 n2 n3 n4 ⊢
                  go_still_tail 7, (by kernel_rfl)
                  go_wp2_with (go_at_call 52; refine ic1.mono ?_; rintro e w2 ⟨rfl, hb2⟩)
                  go_roundw
                  case rel => exact ⟨j + 1, by omega, by go_num, qI.drew.below hb2, Below.then hbI (Below.then (below_drew _) hb2), fun i h1 h2 hi => by
                    by_cases e : i = j
                    · subst e; exact HC.out
                    · exact HE.out i h1 h2 (by omega)⟩
                  case measure => simp [intOf]; omega
                | false =>
                  rw [ce] at ic1
                  have HF : Hid (eqA (.mk k sh nu it) (.mk k2 sh2 nu2 it2) = false) := by unfold Hid; rw [HE2.out]; exact eqL_at it it2 j hlt hlt2 ce
                  clear ce hB gB fI m0 m1 m2 m3
                  have hbI := Below.then hb bI
                  clear bI
                  generalize wr.alloc (.cells #[.int .i64 ik, .slice ia1 in1 im1, .slice ia2' in2 im2, .slice ia3 in3 im3] 26) = WI at hbI qI r0 r1 r2 r3 r4 fJ ic1 l0 l1 l2 l3 n0 n1 n2 n3 n4 ⊢
                  go_still_tail 7, (by kernel_rfl)
                  go_wp2_with (go_at_call 52; refine ic1.mono ?_; rintro e w2 ⟨rfl, hb2⟩)
                  go_ret
                  exact ⟨by first | rfl | exact ret_bool HF.out.symm, Below.then hbI (Below.then (below_drew _) hb2)⟩
              · obtain rfl : j = it.length := by omega
                have HF : Hid (eqA (.mk k sh nu it) (.mk k2 sh2 nu2 it2) = true) := by unfold Hid; rw [HE2.out]; exact eqL_all it it2 CL.out (fun i h1 h2 => HE.out i h1 h2 h1)
                clear ih
                go_wp2_with fail
                go_ret
                exact ⟨by first | rfl | exact ret_bool HF.out.symm, hb⟩
          · have cl' : ((it.length : Int) != (it2.length : Int)) = true := by simp; omega
            have HE : Hid (eqA (.mk k sh nu it) (.mk k2 sh2 nu2 it2) = false) := by unfold Hid; rw [HG.out, eqL_len it it2 cl]; simp
            clear cl ih
            go_enter Tryd.func52, Tryd.ntmps52
            go_wp2_with (first
              | (go_at_call 53; ((with_reducible refine CS.mono ?_); rintro e w3 ⟨rfl, b3⟩; (obtain ⟨q0, q1, q2, q3, q4⟩ := hP1.below b3); (obtain ⟨r0, r1, r2, r3, r4⟩ := hP2.below b3)))
              | (go_at_call 54; ((with_reducible refine (CE _ b3).mono ?_); rintro e w4 ⟨rfl, b4⟩; (obtain ⟨m0, m1, m2, m3, m4⟩ := (hP1.below b3).below b4); (obtain ⟨l0, l1, l2, l3, l4⟩ := (hP2.below b3).below b4))))
            go_ret
            exact ⟨by first | rfl | exact ret_bool HE.out.symm, Below.then (Below.then BN b3) b4⟩
        | false =>
          simp only [cn] at CE
          have HE : Hid (eqA (.mk k sh nu it) (.mk k2 sh2 nu2 it2) = false) := by unfold Hid; rw [HG.out, cn]; simp
          clear cn ih
          go_enter Tryd.func52, Tryd.ntmps52
          go_wp2_with (first
            | (go_at_call 53; ((with_reducible refine CS.mono ?_); rintro e w3 ⟨rfl, b3⟩; (obtain ⟨q0, q1, q2, q3, q4⟩ := hP1.below b3); (obtain ⟨r0, r1, r2, r3, r4⟩ := hP2.below b3)))
            | (go_at_call 54; ((with_reducible refine (CE _ b3).mono ?_); rintro e w4 ⟨rfl, b4⟩)))
          go_ret
          exact ⟨by first | rfl | exact ret_bool HE.out.symm, Below.then (Below.then BN b3) b4⟩
      | false =>
        rw [cs] at CS
        have HE : Hid (eqA (.mk k sh nu it) (.mk k2 sh2 nu2 it2) = false) := by unfold Hid; rw [HG.out, cs]; simp
        clear cs ih CE
        go_enter Tryd.func52, Tryd.ntmps52
        go_wp2_with (first
          | (go_at_call 53; ((with_reducible refine CS.mono ?_); rintro e w3 ⟨rfl, b3⟩)))
        go_ret
        exact ⟨by first | rfl | exact ret_bool HE.out.symm, Below.then BN b3⟩
    · have ck' : (k != k2) = true := by simpa using ck
      have HE : Hid (eqA (.mk k sh nu it) (.mk k2 sh2 nu2 it2) = false) := by unfold Hid; rw [HG.out, show (k == k2) = false by simpa using ck]; simp
      clear ck ih CE CS
      go_enter Tryd.func52, Tryd.ntmps52
      go_wp2_with fail
      go_ret
      exact ⟨by first | rfl | exact ret_bool HE.out.symm, BN⟩

theorem isSm.new (W : World) (B : Nat) (ty : TypeId) (hB : B = W.heap.size) : isSm (W.alloc (.cells #[.func (.func 52) #[] #[.pointer (some ⟨B, 0, none⟩)]] ty)) B := by
  subst hB
  unfold isSm
  rw [World.cell?_alloc_new]
  rfl
theorem below3' (w : World) (o o' o'' : Obj) : Below w.heap.size w (((w.alloc o).alloc o').alloc o'') := (below2 w o o').alloc (by simp; omega) o''
theorem sameQ (v v2 : Value) (A B : Arr) (w : World) (h : ArrAt w v A) (h2 : ArrAt w v2 B) : Calls Tryd.prog 21 #[v, v2] w fun e w' => e = .returned (.bool (eqA A B)) ∧ Below w.heap.size w w' := by
  have hmf : ∀ (fn : Fn) (first cap : Array Value) (w : World), (Instr.makeFunc fn first cap).run Tryd.prog w = .ok (.func fn first cap) w := fun _ _ _ _ => rfl
  have hA := h
  have gA := h2
  obtain ⟨k, sh, nu, it⟩ := A
  obtain ⟨k2, sh2, nu2, it2⟩ := B
  rw [ArrAt] at h h2
  obtain ⟨sa, sc, na, nc, ia, ic, rfl, -⟩ := h
  obtain ⟨sa2, sc2, na2, nc2, ia2, ic2, rfl, -⟩ := h2
  go_enter Tryd.func21, Tryd.ntmps21
  go_wp2_with (go_at_call 52; refine (smQ_any _ _ _ _ _ _ _ (Nat.le_refl _) (hA.below (below3' _ _ _ _)) (gA.below (below3' _ _ _ _)) (isSm.new _ _ _ (by simp))).mono ?_; rintro e w2 ⟨rfl, hb⟩)
  go_ret
  exact ⟨rfl, Below.then (below3' _ _ _ _) hb⟩
end Go.Proofs.YtphcpolgeceljaaDoor.Shape
