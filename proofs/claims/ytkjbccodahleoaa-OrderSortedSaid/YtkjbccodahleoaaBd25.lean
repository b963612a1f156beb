/-
  Layer 6: the program's recursive closure over the offsets of both arrays, one axis.
  Layer 6: the program's comparison of contents: the closure at all axes, and compareContents.
  Layer 6: the program's compare.
  Layer 6: the reference's contents.
  Layer 6: the reference's contents at all axes, compare, Compare and Less.
  Layer 6: the reference's Compare and Less.
-/
import Derived.Test.YtkjbccodahleoaaBd24
import Derived.Deep.DeepCutAuto
import Derived.Deep.CutRange
import Derived.Test.YtkjbccodahleoaaBd7
import Derived.Test.YtkjbccodahleoaaBd20
namespace Go.Proofs.Ytkjbccodahleoaa.Shape
open Go.RowKit
set_option linter.unusedVariables false

theorem hidP {p : Prop} (h : p) : Hid p := h
set_option maxRecDepth 100000 in
set_option maxHeartbeats 2000000 in
theorem cc_step (W0 : World) (sA sB br ba bb bc R : Nat) (ka kb : Int) (sa na ia sa2 na2 ia2 : Option Addr) (sc la nc li ic sc2 lb nc2 li2 ic2 : Nat)
    (h0 : CCAt W0 br ba bb bc R ka kb sa na ia sa2 na2 ia2 sc la nc li ic sc2 lb nc2 li2 ic2) (sh sh2 : List Int) (hs : IntsAt W0 sa sc sh) (hs2 : IntsAt W0 sa2 sc2 sh2) (hl : sh.length = R) (hl2 : sh2.length = R) (hR8 : R ≤ 8)
    (ax i k s t : Nat) (hax : ax < R) (hx : sh[ax]'(by omega) = (s : Int)) (hy : sh2[ax]'(by omega) = (t : Int)) (m m2 : Nat) (hm : sizeS (sh.drop (ax + 1)) = (m : Int)) (hm2 : sizeS (sh2.drop (ax + 1)) = (m2 : Int)) (hm6 : m ≤ 65536) (hm26 : m2 ≤ 65536)
    (hi : i + s * m ≤ sA) (hk : k + t * m2 ≤ sB) (hsA : sA ≤ 65536) (hsB : sB ≤ 65536) (f : Nat → Int)
    (hst : (s : Int) ≤ 9223372036854775807 ∧ (t : Int) ≤ 9223372036854775807)
    (hvoid : m = 0 → m2 = 0 → firstN f 0 (min s t) = firstN f 0 (min (min s t) 1))
    (ih : ∀ (c : Nat) (w : World), c < s → c < t → Below W0.heap.size W0 w → Calls Try.prog 99 #[.int .i64 ((ax + 1 : Nat) : Int), .int .i64 ((i + c * m : Nat) : Int), .int .i64 ((k + c * m2 : Nat) : Int), .pointer (some ⟨br, 0, none⟩), .pointer (some ⟨ba, 0, none⟩), .pointer (some ⟨bb, 0, none⟩), .pointer (some ⟨bc, 0, none⟩)] w fun e w' => e = .returned (.int .i64 (f c)) ∧ Below w.heap.size w w')
    (w : World) (hw : Below W0.heap.size W0 w) :
    Calls Try.prog 99 #[.int .i64 (ax : Int), .int .i64 i, .int .i64 k, .pointer (some ⟨br, 0, none⟩), .pointer (some ⟨ba, 0, none⟩), .pointer (some ⟨bb, 0, none⟩), .pointer (some ⟨bc, 0, none⟩)] w fun e w' => e = .returned (.int .i64 (if firstN f 0 (min s t) ≠ 0 then firstN f 0 (min s t) else sgn s t)) ∧ Below w.heap.size w w' := by
  have h1 := h0.below hw
  obtain ⟨p0, p1, p2, p3, -⟩ := h1.a.cells
  obtain ⟨r0, r1, r2, r3, -⟩ := h1.b.cells
  have hr := h1.rank
  have hself := h1.self
  have hsw := hs.below hw
  have hsw2 := hs2.below hw
  obtain ⟨xb, xo, hxi, hxc⟩ := hsw.at (k := ax) (by omega)
  obtain ⟨yb, yo, hyi, hyc⟩ := hsw2.at (k := ax) (by omega)
  rw [hx] at hxc
  rw [hy] at hyc
  obtain ⟨i2, s2⟩ := hsw.from (ax + 1) (by omega)
  obtain ⟨i3, s3⟩ := hsw2.from (ax + 1) (by omega)
  have lD : (sh.drop (ax + 1)).length = R - (ax + 1) := by rw [List.length_drop, hl]
  have lD2 : (sh2.drop (ax + 1)).length = R - (ax + 1) := by rw [List.length_drop, hl2]
  rw [hl] at hxi s2
  rw [hl2] at hyi s3
  rw [lD] at s2
  rw [lD2] at s3
  have hne : ¬ ((ax : Int) = (R : Int)) := by omega
  have ne1 : ((ax : Int) == (R : Int)) = false := by simpa using hne
  have CS1 := fun w' (g : IntsAt w' (fromAt sa sc (ax + 1)) (sc - (ax + 1)) (sh.drop (ax + 1))) => shSizeP (fromAt sa sc (ax + 1)) (sc - (ax + 1)) (sh.drop (ax + 1)) w' g
  have CS2 := fun w' (g : IntsAt w' (fromAt sa2 sc2 (ax + 1)) (sc2 - (ax + 1)) (sh2.drop (ax + 1))) => shSizeP (fromAt sa2 sc2 (ax + 1)) (sc2 - (ax + 1)) (sh2.drop (ax + 1)) w' g
  rw [lD, hm] at CS1
  rw [lD2, hm2] at CS2
  have s2' : ∀ w', (Instr.slice 23 (.slice sa R sc) (some (.int .i64 ((ax : Int) + 1))) none none).run Try.prog w' = .ok (.slice (fromAt sa sc (ax + 1)) (R - (ax + 1)) (sc - (ax + 1))) w' := fun w' => by simpa using s2 w'
  have s3' : ∀ w', (Instr.slice 23 (.slice sa2 R sc2) (some (.int .i64 ((ax : Int) + 1))) none none).run Try.prog w' = .ok (.slice (fromAt sa2 sc2 (ax + 1)) (R - (ax + 1)) (sc2 - (ax + 1))) w' := fun w' => by simpa using s3 w'
  obtain ⟨C, hC, hC2⟩ : ∃ C : Nat, (if (t : Int) < (s : Int) then (t : Int) else (s : Int)) = (C : Int) ∧ min s t = C := by
    by_cases h : t < s
    · exact ⟨t, by rw [if_pos (by omega)], by omega⟩
    · exact ⟨s, by rw [if_neg (by omega)], by omega⟩
  rw [hC2] at hvoid ⊢
  have HC2 : Hid (min s t = C) := hC2
  have ewx : IntKind.i64.wrap ((ax : Int) + 1) = (ax : Int) + 1 := by rw [IntWalk.i64_left]; exact IntWalk.wrap64_in _ (by omega)
  obtain ⟨X, HX⟩ : ∃ X, Hid ((if firstN f 0 C ≠ 0 then firstN f 0 C else sgn s t) = X) := ⟨_, rfl⟩
  rw [HX.out]
  clear s2 s3 hC2 hx hy hm hm2 lD lD2 h0 hs hs2 hl hl2 hsw hsw2
  go_enter Try.func99, Try.ntmps99
  go_wp2_with fail
  go_cut [11] (fun v wx => v = .int .i64 (C : Int) ∧ wx = w.drew)
  case first =>
    go_region_held3 (fun w' => w'.cell? ⟨ba, 1, none⟩ = some (.slice sa R sc) ∧ w'.cell? ⟨bb, 1, none⟩ = some (.slice sa2 R sc2) ∧ w'.cell? ⟨xb, xo + ax, none⟩ = some (.int .i64 (s : Int)) ∧ w'.cell? ⟨yb, yo + ax, none⟩ = some (.int .i64 (t : Int)))
      (go_keep)
      (fail)
    all_goals go_wp2_with fail
    all_goals go_meet
    all_goals exact ⟨by have := HC2.out; first | (congr 1; omega) | (congr; omega), rfl⟩
  case rest =>
  obtain ⟨rfl, rfl⟩ := hcut
  generalize hW : w.drew = W at *
  have bW : Below w.heap.size w W := hW ▸ below_drew w
  have hba : W.cell? ⟨ba, 1, none⟩ = some (.slice sa R sc) := (bW.cell (cell_lt p1)).trans p1
  have hbb : W.cell? ⟨bb, 1, none⟩ = some (.slice sa2 R sc2) := (bW.cell (cell_lt r1)).trans r1
  clear hW
  go_wp2_with fail
  go_region_held3 (fun w' => w'.cell? ⟨ba, 1, none⟩ = some (.slice sa R sc) ∧ w'.cell? ⟨bb, 1, none⟩ = some (.slice sa2 R sc2))
    (go_keep)
    (first
      | (go_at_call 49; (with_reducible refine (CS1 _ (by exact (i2.below bW).below (below_drew _))).mono ?_); rintro e w1 ⟨rfl, rfl⟩)
      | (go_at_call 49; (with_reducible refine (CS2 _ (by exact (i3.below bW).below (below_drew _))).mono ?_); rintro e w1 ⟨rfl, rfl⟩))
  go_upto_region 5 with fail
  go_cut [52] from 47 to 52 (fun v wx => ∃ b : Bool, v = .bool b ∧ wx = W.drew ∧ Hid (b = true → m = 0 ∧ m2 = 0))
  case first =>
    clear hvoid
    by_cases h1 : m = 0
    · have e1 : ((m : Int) == 0) = true := beq_iff_eq.2 (by omega)
      by_cases h2 : m2 = 0
      · have e2 : ((m2 : Int) == 0) = true := beq_iff_eq.2 (by omega)
        have hh := hidP (show m = 0 ∧ m2 = 0 from ⟨h1, h2⟩)
        clear h1 h2
        go_wp2_with fail
        go_meet
        exact ⟨true, rfl, rfl, fun _ => hh.out⟩
      · have e2 : ((m2 : Int) == 0) = false := beq_eq_false_iff_ne.2 (by omega)
        clear h1 h2
        go_wp2_with fail
        go_meet
        exact ⟨false, rfl, rfl, fun g => by cases g⟩
    · have e1 : ((m : Int) == 0) = false := beq_eq_false_iff_ne.2 (by omega)
      clear h1
      go_wp2_with fail
      go_meet
      exact ⟨false, rfl, rfl, fun g => by cases g⟩
  case rest =>
  obtain ⟨b, rfl, rfl, hb⟩ := hcut
  go_upto_if 52 with fail
  go_cut [11] from 53 to 54 (fun v wx => ∃ N : Nat, v = .int .i64 (N : Int) ∧ wx = W.drew ∧ Hid (firstN f 0 N = firstN f 0 C) ∧ N ≤ C)
  case first =>
    cases b with
    | true =>
      obtain ⟨h1, h2⟩ := hb.out rfl
      have hv := hvoid h1 h2
      by_cases h3 : 1 < C
      · have e3 : (if (1 : Int) < (C : Int) then (1 : Int) else (C : Int)) = 1 := if_pos (by omega)
        have hv' := hidP (show firstN f 0 1 = firstN f 0 C by rw [hv, Nat.min_eq_right (by omega)])
        clear hv hvoid h1 h2 hb
        go_wp2_with fail
        go_meet
        exact ⟨1, by first | rfl | simp, rfl, hv', by omega⟩
      · clear hv hvoid h1 h2 hb
        go_wp2_with fail
        go_meet
        exact ⟨C, by first | rfl | (congr; omega), rfl, rfl, Nat.le_refl _⟩
    | false =>
      clear hvoid hb
      go_wp2_with fail
      go_meet
      exact ⟨C, rfl, rfl, rfl, Nat.le_refl _⟩
  case rest =>
  obtain ⟨N, rfl, rfl, hN, hNC⟩ := hcut
  clear hvoid hC s2' s3' CS1 CS2 i2 i3 hb hba hbb
  have bWw := Below.then hw bW
  go_wp2_with fail
  go_loopw [56] (fun v wr => ∃ c : Nat, c ≤ N ∧ v = .int .i64 c ∧ Hid (firstN f 0 c = 0) ∧ Below W.heap.size W wr) (fun v _ => N - (intOf v).toNat)
  case atStart => exact ⟨0, Nat.zero_le _, rfl, rfl, below_drew _⟩
  case round =>
    obtain ⟨c, hc, rfl, hf, hbr⟩ := hrel
    have hb0 := Below.then bWw hbr
    have hbw := Below.then bW hbr
    by_cases hlt : c < N
    · have hcs : c < s ∧ c < t := by have := HC2.out; omega
      have k1 := cc_sums hcs.1 hi
      have k2 := cc_sums hcs.2 hk
      have IH := ih c wr hcs.1 hcs.2 hb0
      have hself' : isCC wr br ba bb bc := hself.below hbw
      unfold isCC at hself'
      obtain ⟨P, hP⟩ : ∃ P : Nat, c * m = P := ⟨_, rfl⟩
      obtain ⟨P2, hP2⟩ : ∃ P2 : Nat, c * m2 = P2 := ⟨_, rfl⟩
      rw [hP, hP2] at IH
      rw [hP] at k1
      rw [hP2] at k2
      have eP : (c : Int) * (m : Int) = (P : Int) := by rw [← hP]; simp
      have eP2 : (c : Int) * (m2 : Int) = (P2 : Int) := by rw [← hP2]; simp
      have ea1 : ((ax + 1 : Nat) : Int) = (ax : Int) + 1 := by omega
      have ea2 : ((i + P : Nat) : Int) = (i : Int) + (P : Int) := by omega
      have ea3 : ((k + P2 : Nat) : Int) = (k : Int) + (P2 : Int) := by omega
      rw [ea1, ea2, ea3] at IH
      have kP : i + P ≤ 65536 ∧ k + P2 ≤ 65536 := by omega
      obtain ⟨kP1, kP2⟩ := kP
      have g0 := hf.out
      have ga := firstN_at (N := N) g0 hlt
      have gn := firstN_next (j := c) g0
      generalize f c = y at *
      clear hP hP2 ea1 ea2 ea3 g0 k1 k2 hf
      by_cases hy0 : y = 0
      · have R := hidP (gn hy0)
        clear gn ga
        subst hy0
        go_wp2_with (go_at_call 99; (with_reducible refine IH.mono ?_); rintro e w1 ⟨rfl, b1⟩)
        go_roundw
        case rel => exact ⟨c + 1, by omega, by go_num, R, Below.then hbr b1⟩
        case measure => simp [intOf]; omega
      · have e1 : (y != 0) = true := by simpa using hy0
        have R : y = X := by
          have := HX.out
          rw [← hN.out, ga hy0, if_pos hy0] at this
          exact this
        subst R
        clear gn ga hy0
        go_wp2_with (go_at_call 99; (with_reducible refine IH.mono ?_); rintro e w1 ⟨rfl, b1⟩)
        go_ret
        exact ⟨rfl, Below.then hbw b1⟩
    · obtain rfl : c = N := by omega
      have R : X = sgn s t := by
        have := HX.out
        rw [← hN.out, hf.out] at this
        simpa using this.symm
      have q1 := (hbw.cell (cell_lt p1)).trans p1
      have q2 := (hbw.cell (cell_lt r1)).trans r1
      have q3 := (hbw.cell (cell_lt hxc)).trans hxc
      have q4 := (hbw.cell (cell_lt hyc)).trans hyc
      clear ih hf hN p0 p1 p2 p3 r0 r1 r2 r3 hxc hyc
      subst R
      go_wp2_with fail
      go_region_held3 (fun w' => w'.cell? ⟨ba, 1, none⟩ = some (.slice sa R sc) ∧ w'.cell? ⟨bb, 1, none⟩ = some (.slice sa2 R sc2) ∧ w'.cell? ⟨xb, xo + ax, none⟩ = some (.int .i64 (s : Int)) ∧ w'.cell? ⟨yb, yo + ax, none⟩ = some (.int .i64 (t : Int)))
        (go_keep)
        ((go_at_call 89; (with_reducible refine (cmpI _ _ _).mono ?_); rintro e w1 ⟨rfl, rfl⟩))
      all_goals (go_wp2_with fail; go_ret; exact ⟨rfl, Below.then hbw (below_drew _)⟩)
end Go.Proofs.Ytkjbccodahleoaa.Shape

namespace Go.Proofs.Ytkjbccodahleoaa.Shape
open Go.RowKit
set_option linter.unusedVariables false

theorem size_drop {sh : List Int} (hr : rightB sh = true) (k : Nat) : sizeS (sh.drop k) = (prN (sh.drop k) : Int) ∧ prN (sh.drop k) ≤ 65536 := by
  have h := right_drop (k := k) hr
  obtain ⟨h1, h2, h3⟩ := right_def.1 h
  have h4 := pr_nn h2
  have h5 := pr_le_nz h2
  rw [sizeS, if_pos h]
  unfold prN
  omega
theorem drop_cons {sh : List Int} {ax : Nat} (h : ax < sh.length) : sh.drop ax = sh[ax] :: sh.drop (ax + 1) := (List.drop_eq_getElem_cons h)
theorem prN_drop {sh : List Int} (hN : NN sh) {ax : Nat} (h : ax < sh.length) : prN (sh.drop ax) = sh[ax].toNat * prN (sh.drop (ax + 1)) := by
  rw [drop_cons h]
  exact prN_cons (hN _ (List.getElem_mem h)) (fun x hx => hN x (List.mem_of_mem_drop hx))

theorem cc_any (W0 : World) (el : Nat → Nat → Int) (sA sB br ba bb bc R : Nat) (ka kb : Int) (sa na ia sa2 na2 ia2 : Option Addr) (sc la nc li ic sc2 lb nc2 li2 ic2 : Nat)
    (HE : ∀ (w : World) (i k : Nat), Below W0.heap.size W0 w → i < sA → k < sB → Calls Try.prog 100 #[.agg #[.int .i64 ka, .slice sa R sc, .slice na la nc, .slice ia li ic], .agg #[.int .i64 kb, .slice sa2 R sc2, .slice na2 lb nc2, .slice ia2 li2 ic2], .int .i64 i, .int .i64 k] w fun e w' => e = .returned (.int .i64 (el i k)) ∧ Below w.heap.size w w')
    (h0 : CCAt W0 br ba bb bc R ka kb sa na ia sa2 na2 ia2 sc la nc li ic sc2 lb nc2 li2 ic2) (sh sh2 : List Int) (hs : IntsAt W0 sa sc sh) (hs2 : IntsAt W0 sa2 sc2 sh2) (hl : sh.length = R) (hl2 : sh2.length = R)
    (hr : rightB sh = true) (hr2 : rightB sh2 = true) (hsA : sA ≤ 65536) (hsB : sB ≤ 65536) :
    ∀ (d ax i k : Nat) (w : World), ax + d = R → i + prN (sh.drop ax) ≤ sA → k + prN (sh2.drop ax) ≤ sB → Below W0.heap.size W0 w →
    Calls Try.prog 99 #[.int .i64 (ax : Int), .int .i64 i, .int .i64 k, .pointer (some ⟨br, 0, none⟩), .pointer (some ⟨ba, 0, none⟩), .pointer (some ⟨bb, 0, none⟩), .pointer (some ⟨bc, 0, none⟩)] w fun e w' => e = .returned (.int .i64 (cntS el (sh.drop ax) (sh2.drop ax) i k)) ∧ Below w.heap.size w w' := by
  obtain ⟨r1, r2, r3⟩ := right_def.1 hr
  obtain ⟨q1, q2, q3⟩ := right_def.1 hr2
  intro d
  induction d with
  | zero =>
    intro ax i k w hax hi hk hw
    obtain rfl : ax = R := by omega
    have e1 : sh.drop ax = [] := List.drop_eq_nil_of_le (by omega)
    have e2 : sh2.drop ax = [] := List.drop_eq_nil_of_le (by omega)
    rw [e1] at hi
    rw [e2] at hk
    rw [e1, e2, cntS_nil]
    have e3 : prN [] = 1 := prN_nil
    exact cc_last W0 el sA sB br ba bb bc ax ka kb sa na ia sa2 na2 ia2 sc la nc li ic sc2 lb nc2 li2 ic2 HE h0 i k w hw (by omega) (by omega)
  | succ d ih =>
    intro ax i k w hax hi hk hw
    have hx : ax < sh.length := by omega
    have hy : ax < sh2.length := by omega
    have n1 : 0 ≤ sh[ax] := r2 _ (List.getElem_mem hx)
    have n2 : 0 ≤ sh2[ax] := q2 _ (List.getElem_mem hy)
    have b1 := hs.bd hx
    have b2 := hs2.bd hy
    have d1 := size_drop hr (ax + 1)
    have d2 := size_drop hr2 (ax + 1)
    have t1 : NN (sh.drop (ax + 1)) := fun x hx => r2 x (List.mem_of_mem_drop hx)
    have t2 : NN (sh2.drop (ax + 1)) := fun x hx => q2 x (List.mem_of_mem_drop hx)
    rw [prN_drop r2 hx] at hi
    rw [prN_drop q2 hy] at hk
    have e : cntS el (sh.drop ax) (sh2.drop ax) i k = if firstN (fun c => cntS el (sh.drop (ax + 1)) (sh2.drop (ax + 1)) (i + c * prN (sh.drop (ax + 1))) (k + c * prN (sh2.drop (ax + 1)))) 0 (min sh[ax].toNat sh2[ax].toNat) ≠ 0 then firstN (fun c => cntS el (sh.drop (ax + 1)) (sh2.drop (ax + 1)) (i + c * prN (sh.drop (ax + 1))) (k + c * prN (sh2.drop (ax + 1)))) 0 (min sh[ax].toNat sh2[ax].toNat) else sgn (sh[ax].toNat : Int) (sh2[ax].toNat : Int) := by
      rw [drop_cons hx, drop_cons hy, cntS_cons]
      have e1 : (min sh[ax] sh2[ax]).toNat = min sh[ax].toNat sh2[ax].toNat := by omega
      have e2 : (sh[ax].toNat : Int) = sh[ax] := by omega
      have e3 : (sh2[ax].toNat : Int) = sh2[ax] := by omega
      rw [e1, e2, e3]
    rw [e]
    refine cc_step W0 sA sB br ba bb bc R ka kb sa na ia sa2 na2 ia2 sc la nc li ic sc2 lb nc2 li2 ic2 h0 sh sh2 hs hs2 hl hl2 (by omega) ax i k sh[ax].toNat sh2[ax].toNat (by omega) (by omega) (by omega)
      (prN (sh.drop (ax + 1))) (prN (sh2.drop (ax + 1))) d1.1 d2.1 d1.2 d2.2 hi hk hsA hsB _ (by omega) (fun g1 g2 => cntS_once el _ _ i k _ (by simp; omega) t1 t2 g1 g2) (fun c w' hc hc2 hw' => ?_) w hw
    refine ih (ax + 1) _ _ w' (by omega) ?_ ?_ hw'
    · exact Nat.le_trans (cc_sums hc (Nat.le_refl _)) hi
    · exact Nat.le_trans (cc_sums hc2 (Nat.le_refl _)) hk
theorem CCAt.new (w : World) (ka kb : Int) (R : Nat) (sa na ia sa2 na2 ia2 : Option Addr) (sc la nc li ic sc2 lb nc2 li2 ic2 : Nat) (t3 t88 : TypeId) :
    CCAt ((((w.alloc (.cells #[.int .i64 ka, .slice sa R sc, .slice na la nc, .slice ia li ic] 26)).alloc (.cells #[.int .i64 kb, .slice sa2 R sc2, .slice na2 lb nc2, .slice ia2 li2 ic2] 26)).alloc (.cells #[.int .i64 (R : Int)] t3)).alloc (.cells #[.func (.func 99) #[] #[.pointer (some ⟨w.heap.size + 1 + 1, 0, none⟩), .pointer (some ⟨w.heap.size, 0, none⟩), .pointer (some ⟨w.heap.size + 1, 0, none⟩), .pointer (some ⟨w.heap.size + 1 + 1 + 1, 0, none⟩)]] t88))
      (w.heap.size + 1 + 1) w.heap.size (w.heap.size + 1) (w.heap.size + 1 + 1 + 1) R ka kb sa na ia sa2 na2 ia2 sc la nc li ic sc2 lb nc2 li2 ic2 := by
  generalize hF : Value.func (.func 99) #[] #[.pointer (some ⟨w.heap.size + 1 + 1, 0, none⟩), .pointer (some ⟨w.heap.size, 0, none⟩), .pointer (some ⟨w.heap.size + 1, 0, none⟩), .pointer (some ⟨w.heap.size + 1 + 1 + 1, 0, none⟩)] = F
  have hA := Quad.new w (.int .i64 ka) (.slice sa R sc) (.slice na la nc) (.slice ia li ic)
  generalize hW1 : w.alloc (.cells #[.int .i64 ka, .slice sa R sc, .slice na la nc, .slice ia li ic] 26) = W1 at *
  have s1 : W1.heap.size = w.heap.size + 1 := by rw [← hW1]; simp
  have hB := Quad.new W1 (.int .i64 kb) (.slice sa2 R sc2) (.slice na2 lb nc2) (.slice ia2 li2 ic2)
  have b2 := below_new W1 (.cells #[.int .i64 kb, .slice sa2 R sc2, .slice na2 lb nc2, .slice ia2 li2 ic2] 26)
  generalize hW2 : W1.alloc (.cells #[.int .i64 kb, .slice sa2 R sc2, .slice na2 lb nc2, .slice ia2 li2 ic2] 26) = W2 at *
  have s2 : W2.heap.size = w.heap.size + 1 + 1 := by rw [← hW2, ← s1]; simp
  have b3 := below_new W2 (.cells #[.int .i64 (R : Int)] t3)
  have hR : (W2.alloc (.cells #[.int .i64 (R : Int)] t3)).cell? ⟨W2.heap.size, 0, none⟩ = some (.int .i64 (R : Int)) := by rw [World.cell?_alloc_new]; rfl
  generalize hW3 : W2.alloc (.cells #[.int .i64 (R : Int)] t3) = W3 at *
  have s3 : W3.heap.size = w.heap.size + 1 + 1 + 1 := by rw [← hW3, ← s2]; simp
  have b4 := below_new W3 (.cells #[F] t88)
  have hS : (W3.alloc (.cells #[F] t88)).cell? ⟨W3.heap.size, 0, none⟩ = some F := by rw [World.cell?_alloc_new]; rfl
  rw [s1] at hB
  rw [s2] at hR
  rw [s3] at hS
  refine ⟨(b4.cell (cell_lt hR)).trans hR, ((hA.below b2).below b3).below b4, (hB.below b3).below b4, ?_⟩
  unfold isCC
  rw [hS, ← hF]
set_option maxRecDepth 100000 in
set_option maxHeartbeats 1000000 in
theorem contentsP (n : Nat) (ih : CmpSpec n) (v v2 : Value) (A B : Arr) (w : World) (hA : ArrAt w v A) (hB : ArrAt w v2 B) (hr : rk A ≤ n + 1) (hxA : rightE A = 0) (hxB : rightE B = 0) (hk : A.kind = B.kind) (hl : A.shape.length = B.shape.length) :
    Calls Try.prog 90 #[v, v2] w fun e w' => e = .returned (.int .i64 (cntS (elS n A B) A.shape B.shape 0 0)) ∧ Below w.heap.size w w' := by
  have hmf : ∀ (fn : Fn) (first cap : Array Value) (w : World), (Instr.makeFunc fn first cap).run Try.prog w = .ok (.func fn first cap) w := fun _ _ _ _ => rfl
  obtain ⟨-, -, lA3, lA4, -⟩ := right_lens hxA
  obtain ⟨-, -, lB3, lB4, -⟩ := right_lens hxB
  have rA := right_short hxA
  have rB := right_short hxB
  have zA := size_drop rA 0
  have zB := size_drop rB 0
  simp only [List.drop_zero] at zA zB
  obtain ⟨sa, sc, na, nc, ia, ic, rfl, hs, -⟩ := arr_cellsO hA
  obtain ⟨sa2, sc2, na2, nc2, ia2, ic2, rfl, hs2, -⟩ := arr_cellsO hB
  have HE0 := fun (w' : World) (g : ArrAt w' (.agg #[.int .i64 A.kind, .slice sa A.shape.length sc, .slice na A.nums.length nc, .slice ia A.items.length ic]) A) (g2 : ArrAt w' (.agg #[.int .i64 B.kind, .slice sa2 B.shape.length sc2, .slice na2 B.nums.length nc2, .slice ia2 B.items.length ic2]) B) (i k : Nat) (hi : i < prN A.shape) (hj : k < prN B.shape) => (by
    by_cases h3 : A.kind = 3
    · exact elemsB n ih _ _ A B w' i k h3 g g2 (by rw [(lA4 h3).1]; exact hi) (by rw [(lB4 (hk ▸ h3)).1]; exact hj) hr hxA hxB
    · exact elemsN n _ _ A B w' i k h3 g g2 (by rw [(lA3 h3).1]; exact hi) (by rw [(lB3 (hk ▸ h3)).1]; exact hj) : Calls Try.prog 100 #[_, _, .int .i64 i, .int .i64 k] w' fun e w2 => e = .returned (.int .i64 (elS n A B i k)) ∧ Below w'.heap.size w' w2)
  rw [← hl] at HE0 hB ⊢
  have hl2 : B.shape.length = A.shape.length := hl.symm
  have hlen := hs.len
  obtain ⟨R, hR⟩ : ∃ R, A.shape.length = R := ⟨_, rfl⟩
  rw [hR] at HE0 hA hB hl2 ⊢
  have C0 := CCAt.new w A.kind B.kind R sa na ia sa2 na2 ia2 sc A.nums.length nc A.items.length ic sc2 B.nums.length nc2 B.items.length ic2 3 93
  have bw : Below w.heap.size w ((((w.alloc (.cells #[.int .i64 A.kind, .slice sa R sc, .slice na A.nums.length nc, .slice ia A.items.length ic] 26)).alloc (.cells #[.int .i64 B.kind, .slice sa2 R sc2, .slice na2 B.nums.length nc2, .slice ia2 B.items.length ic2] 26)).alloc (.cells #[.int .i64 (R : Int)] 3)).alloc (.cells #[.func (.func 99) #[] #[.pointer (some ⟨w.heap.size + 1 + 1, 0, none⟩), .pointer (some ⟨w.heap.size, 0, none⟩), .pointer (some ⟨w.heap.size + 1, 0, none⟩), .pointer (some ⟨w.heap.size + 1 + 1 + 1, 0, none⟩)]] 93)) :=
    Below.then (Below.then (Below.then (below_new _ _) (below_new _ _)) (below_new _ _)) (below_new _ _)
  have hAW := hA.below bw
  have hBW := hB.below bw
  have K := cc_any _ (elS n A B) (prN A.shape) (prN B.shape) _ _ _ _ R A.kind B.kind sa na ia sa2 na2 ia2 sc A.nums.length nc A.items.length ic sc2 B.nums.length nc2 B.items.length ic2
    (fun w' i k g hi hj => HE0 w' (hAW.below g) (hBW.below g) i k hi hj) C0 A.shape B.shape (hs.below bw) (hs2.below bw) hR hl2 rA rB zA.2 zB.2 R 0 0 0 _ (by omega) (by simp) (by simp) (Below.refl _ _)
  simp only [List.drop_zero, Int.cast_ofNat_Int] at K
  generalize cntS (elS n A B) A.shape B.shape 0 0 = X at *
  have hlen2 : (R : Int) ≤ 9223372036854775807 := by omega
  clear HE0 C0 hAW hBW lA3 lA4 lB3 lB4 zA zB ih hA hB hs hs2
  generalize A.kind = ka at *
  generalize B.kind = kk at *
  generalize A.nums.length = la at *
  generalize B.nums.length = lb at *
  generalize A.items.length = la2 at *
  generalize B.items.length = lb2 at *
  clear hl hl2 hR hk
  go_enter Try.func90, Try.ntmps90
  go_wp2_with (go_at_call 99; (with_reducible refine K.mono ?_); rintro e w1 ⟨rfl, b1⟩)
  go_ret
  exact ⟨rfl, Below.then bw b1⟩
end Go.Proofs.Ytkjbccodahleoaa.Shape

namespace Go.Proofs.Ytkjbccodahleoaa.Shape
open Go.RowKit
set_option linter.unusedVariables false

theorem hid6 {p : Prop} (h : p) : Hid p := h
theorem rk_pos (A : Arr) : 1 ≤ rk A := by obtain ⟨k, sh, nu, it⟩ := A; rw [rk]; omega
set_option maxRecDepth 100000 in
set_option maxHeartbeats 1000000 in
theorem compareP : ∀ n, CmpSpec n
  | 0 => fun v v2 A B w hr _ _ _ _ => absurd hr (by have := rk_pos A; omega)
  | n + 1 => fun v v2 A B w hr hxA hxB hA hB => by
    have ih := compareP n
    have CC := fun v' v2' w' (g : ArrAt w' v' A) (g2 : ArrAt w' v2' B) (hk : A.kind = B.kind) (hl : A.shape.length = B.shape.length) => contentsP n ih v' v2' A B w' g g2 hr hxA hxB hk hl
    obtain ⟨sa, sc, na, nc, ia, ic, rfl, hs, -⟩ := arr_cellsO hA
    obtain ⟨sa2, sc2, na2, nc2, ia2, ic2, rfl, hs2, -⟩ := arr_cellsO hB
    have l1 := hs.len
    have l2 := hs2.len
    have bw := below_two w (.cells #[.int .i64 A.kind, .slice sa A.shape.length sc, .slice na A.nums.length nc, .slice ia A.items.length ic] 26) (.cells #[.int .i64 B.kind, .slice sa2 B.shape.length sc2, .slice na2 B.nums.length nc2, .slice ia2 B.items.length ic2] 26)
    have q0 := (Quad.new w (.int .i64 A.kind) (.slice sa A.shape.length sc) (.slice na A.nums.length nc) (.slice ia A.items.length ic)).below (below_new _ (.cells #[.int .i64 B.kind, .slice sa2 B.shape.length sc2, .slice na2 B.nums.length nc2, .slice ia2 B.items.length ic2] 26))
    have q1 : Quad ((w.alloc (.cells #[.int .i64 A.kind, .slice sa A.shape.length sc, .slice na A.nums.length nc, .slice ia A.items.length ic] 26)).alloc (.cells #[.int .i64 B.kind, .slice sa2 B.shape.length sc2, .slice na2 B.nums.length nc2, .slice ia2 B.items.length ic2] 26)) (w.heap.size + 1) (.int .i64 B.kind) (.slice sa2 B.shape.length sc2) (.slice na2 B.nums.length nc2) (.slice ia2 B.items.length ic2) := by simpa using Quad.new (w.alloc (.cells #[.int .i64 A.kind, .slice sa A.shape.length sc, .slice na A.nums.length nc, .slice ia A.items.length ic] 26)) (.int .i64 B.kind) (.slice sa2 B.shape.length sc2) (.slice na2 B.nums.length nc2) (.slice ia2 B.items.length ic2)
    have CC1 := CC _ _ _ (hA.below bw) (hB.below bw)
    have hsW := hs.below bw
    have hs2W := hs2.below bw
    have SC := fun w' (g : Below _ _ w') (hl : B.shape.length = A.shape.length) => cmpShapes sa sc A.shape sa2 sc2 B.shape A.shape.length w' (hsW.below g) (hs2W.below g) rfl hl
    have e := cmpF_succ n A B
    obtain ⟨X, hX⟩ : ∃ X, cmpF (n + 1) A B = X := ⟨_, rfl⟩
    rw [hX] at e ⊢
    have HE := hid6 e
    clear e hX CC hA hB hs hs2 hsW hs2W ih hr hxA hxB
    obtain ⟨cc, hcc⟩ : ∃ cc, cntS (elS n A B) A.shape B.shape 0 0 = cc := ⟨_, rfl⟩
    obtain ⟨ss, hss⟩ : ∃ ss, shpS A.shape B.shape = ss := ⟨_, rfl⟩
    rw [hcc] at CC1 HE
    rw [hss] at SC HE
    clear hcc hss
    generalize A.kind = ka at *
    generalize B.kind = kk at *
    generalize A.nums.length = la at *
    generalize B.nums.length = lb at *
    generalize A.items.length = la2 at *
    generalize B.items.length = lb2 at *
    generalize A.shape.length = R at *
    generalize B.shape.length = R2 at *
    by_cases hk : ka = kk
    · subst hk
      have e1 : sgn ka ka = 0 := sgn_zero.2 rfl
      by_cases hl : R = R2
      · subst hl
        have CC2 := CC1 rfl rfl
        have SC2 := fun w' g => SC w' g rfl
        have e2 : sgn (R : Int) (R : Int) = 0 := sgn_zero.2 rfl
        have HX : Hid (X = if cc ≠ 0 then cc else ss) := by
          have := HE.out
          rw [if_neg (show ¬ ka ≠ ka from fun h => h rfl), if_neg (show ¬ R ≠ R from fun h => h rfl)] at this
          exact this
        clear CC1 SC HE
        go_enter Try.func77, Try.ntmps77
        go_wp2_with (first
          | (go_at_call 88; (with_reducible refine (cmpK _ _ _).mono ?_); rintro e w1 ⟨rfl, rfl⟩)
          | (go_at_call 89; (with_reducible refine (cmpI _ _ _).mono ?_); rintro e w1 ⟨rfl, rfl⟩))
        go_at_call 90
        with_reducible refine CC2.mono ?_
        rintro e w1 ⟨rfl, b1⟩
        have B1 := Below.then bw b1
        obtain ⟨p0, p1, p2, p3, -⟩ := (q0.below b1).cells
        obtain ⟨r0, r1, r2, r3, -⟩ := (q1.below b1).cells
        have S1 := SC2 w1 b1
        clear CC2 SC2 q0 q1 bw b1
        by_cases hc : cc = 0
        · obtain rfl : X = ss := by have := HX.out; simpa [hc] using this
          have ec : (cc != 0) = false := by simp [hc]
          clear HX
          subst hc
          go_wp2_with (go_at_call 91; (with_reducible refine S1.mono ?_); rintro e w2 ⟨rfl, rfl⟩)
          go_ret
          exact ⟨rfl, B1⟩
        · obtain rfl : X = cc := by have := HX.out; simpa [hc] using this
          have ec : (X != 0) = true := by simpa using hc
          clear HX hc
          go_wp2_with fail
          go_ret
          exact ⟨rfl, B1⟩
      · obtain ⟨z, hz⟩ : ∃ z, sgn (R : Int) (R2 : Int) = z := ⟨_, rfl⟩
        have hz0 : z ≠ 0 := fun h => hl (by have := sgn_zero.1 (hz.trans h); omega)
        obtain rfl : X = z := by
          have := HE.out
          rw [if_neg (show ¬ ka ≠ ka from fun h => h rfl), if_pos (show R ≠ R2 from hl), hz] at this
          exact this
        have ec : (X != 0) = true := by simpa using hz0
        have D2 := fun w => cmpI (R : Int) (R2 : Int) w
        rw [hz] at D2
        clear CC1 SC HE hl hz0 hz
        go_enter Try.func77, Try.ntmps77
        go_wp2_with (first
          | (go_at_call 88; (with_reducible refine (cmpK _ _ _).mono ?_); rintro e w1 ⟨rfl, rfl⟩)
          | (go_at_call 89; (with_reducible refine (D2 _).mono ?_); rintro e w1 ⟨rfl, rfl⟩))
        go_ret
        exact ⟨rfl, bw⟩
    · obtain ⟨z, hz⟩ : ∃ z, sgn ka kk = z := ⟨_, rfl⟩
      have hz0 : z ≠ 0 := fun h => hk (sgn_zero.1 (hz.trans h))
      obtain rfl : X = z := by
        have := HE.out
        rw [if_pos (show ka ≠ kk from hk), hz] at this
        exact this
      have ec : (X != 0) = true := by simpa using hz0
      have D1 := fun w => cmpK ka kk w
      rw [hz] at D1
      clear CC1 SC HE hk hz0 hz
      go_enter Try.func77, Try.ntmps77
      go_wp2_with (go_at_call 88; (with_reducible refine (D1 _).mono ?_); rintro e w1 ⟨rfl, rfl⟩)
      go_ret
      exact ⟨rfl, bw⟩
end Go.Proofs.Ytkjbccodahleoaa.Shape

namespace Go.Proofs.Ytkjbccodahleoaa.Shape
open Go.RowKit
set_option linter.unusedVariables false

/-- The first element, as the walk spells it. -/
theorem IntsAt.first {w : World} {a : Option Addr} {cap : Nat} {x : Int} {xs : List Int} {n : Nat} (h : IntsAt w a cap (x :: xs)) (hn : (x :: xs).length = n) :
    ∃ b off : Nat, (∀ w' : World, (Instr.indexAt 23 (.slice a n cap) (.int .i64 0)).run Try.prog w' = .ok (.pointer (some ⟨b, off, none⟩)) w') ∧ w.cell? ⟨b, off, none⟩ = some (.int .i64 x) := by
  subst hn
  obtain ⟨b, off, h1, h2⟩ := h.at (k := 0) (by simp)
  exact ⟨b, off, fun w' => by simpa using h1 w', by simpa using h2⟩
theorem prod_tail {x : Int} {xs : List Int} (hr : rightB (x :: xs) = true) : pr (((x :: xs).take (x :: xs).length).drop 1) = (prN xs : Int) ∧ prN xs ≤ 65536 := by
  have h := size_drop hr 1
  have h2 := right_drop (k := 1) hr
  simp only [List.drop_succ_cons, List.drop_zero] at h h2
  rw [List.take_length, List.drop_succ_cons, List.drop_zero]
  refine ⟨?_, h.2⟩
  rw [← h.1, sizeS, if_pos h2]
set_option maxRecDepth 100000 in
set_option maxHeartbeats 2000000 in
theorem contR_step (v v2 : Value) (A B : Arr) (sA sB : Nat) (a a2 : Option Addr) (c c2 : Nat) (x y : Int) (ss ts : List Int) (W0 : World) (hA : ArrAt W0 v A) (hB : ArrAt W0 v2 B) (hs : IntsAt W0 a c (x :: ss)) (hs2 : IntsAt W0 a2 c2 (y :: ts))
    (hl : ss.length = ts.length) (hr : rightB (x :: ss) = true) (hr2 : rightB (y :: ts) = true) (i k : Nat) (hi : i + x.toNat * prN ss ≤ sA) (hk : k + y.toNat * prN ts ≤ sB) (hsA : sA ≤ 65536) (hsB : sB ≤ 65536) (f : Nat → Int)
    (ih : ∀ (cc : Nat) (w : World), (cc : Int) < x → (cc : Int) < y → Below W0.heap.size W0 w → Calls Try.prog 80 #[v, .int .i64 ((i + cc * prN ss : Nat) : Int), .slice (fromAt a c 1) ss.length (c - 1), v2, .int .i64 ((k + cc * prN ts : Nat) : Int), .slice (fromAt a2 c2 1) ts.length (c2 - 1)] w fun e w' => e = .returned (.int .i64 (f cc)) ∧ Below w.heap.size w w') :
    Calls Try.prog 80 #[v, .int .i64 i, .slice a (x :: ss).length c, v2, .int .i64 k, .slice a2 (y :: ts).length c2] W0 fun e w' => e = .returned (.int .i64 (if firstN f 0 (min x y).toNat ≠ 0 then firstN f 0 (min x y).toNat else sgn x y)) ∧ Below W0.heap.size W0 w' := by
  obtain ⟨sa, sc, na, nc, ia, ic, rfl, -, -⟩ := arr_cellsO hA
  obtain ⟨sa2, sc2, na2, nc2, ia2, ic2, rfl, -, -⟩ := arr_cellsO hB
  have nx : 0 ≤ x := (right_def.1 hr).2.1 x (by simp)
  have ny : 0 ≤ y := (right_def.1 hr2).2.1 y (by simp)
  have bx := hs.2.2.1 x (by simp)
  have by' := hs2.2.2.1 y (by simp)
  obtain ⟨pA, mA⟩ := prod_tail hr
  obtain ⟨pB, mB⟩ := prod_tail hr2
  have lA := hs.len
  have lB := hs2.len
  have P1 := fun w' (g : Below W0.heap.size W0 w') => productR2 a c (x :: ss) 1 (x :: ss).length 1 (((x :: ss).length : Nat) : Int) rfl rfl w' (hs.below g) hr (by simp) (Nat.le_refl _)
  have P2 := fun w' (g : Below W0.heap.size W0 w') => productR2 a2 c2 (y :: ts) 1 (y :: ts).length 1 (((y :: ts).length : Nat) : Int) rfl rfl w' (hs2.below g) hr2 (by simp) (Nat.le_refl _)
  rw [pA] at P1
  rw [pB] at P2
  obtain ⟨-, f1⟩ := hs.from 1 (by simp)
  obtain ⟨-, f2⟩ := hs2.from 1 (by simp)
  simp only [List.drop_succ_cons, List.drop_zero] at f1 f2
  have n1 : 0 < (x :: ss).length := by simp
  have n2 : 0 < (y :: ts).length := by simp
  obtain ⟨b1, o1, g1, h1⟩ := hs.first rfl
  obtain ⟨b2, o2, g2, h2⟩ := hs2.first rfl
  generalize (x :: ss).length = n at *
  generalize (y :: ts).length = n' at *
  generalize ss.length = m at *
  generalize ts.length = m' at *
  generalize prN ss = p at *
  generalize prN ts = q at *
  clear pA pB hs hs2 hr hr2
  obtain ⟨X, HX⟩ : ∃ X, Hid ((if firstN f 0 (min x y).toNat ≠ 0 then firstN f 0 (min x y).toNat else sgn x y) = X) := ⟨_, rfl⟩
  rw [HX.out]
  have f1' : ∀ w', (Instr.slice 23 (.slice a n c) (some (.int .i64 1)) none none).run Try.prog w' = .ok (.slice (fromAt a c 1) m (c - 1)) w' := fun w' => by simpa using f1 w'
  have f2' : ∀ w', (Instr.slice 23 (.slice a2 n' c2) (some (.int .i64 1)) none none).run Try.prog w' = .ok (.slice (fromAt a2 c2 1) m' (c2 - 1)) w' := fun w' => by simpa using f2 w'
  clear f1 f2
  generalize A.kind = ka at *
  generalize B.kind = kk at *
  generalize A.nums.length = la at *
  generalize B.nums.length = lb at *
  generalize A.items.length = la2 at *
  generalize B.items.length = lb2 at *
  generalize A.shape.length = R at *
  generalize B.shape.length = R2 at *
  clear hA hB
  have bw := below_two W0 (.cells #[.int .i64 ka, .slice sa R sc, .slice na la nc, .slice ia la2 ic] 26) (.cells #[.int .i64 kk, .slice sa2 R2 sc2, .slice na2 lb nc2, .slice ia2 lb2 ic2] 26)
  have q0 := (Quad.new W0 (.int .i64 ka) (.slice sa R sc) (.slice na la nc) (.slice ia la2 ic)).below (below_new _ (.cells #[.int .i64 kk, .slice sa2 R2 sc2, .slice na2 lb nc2, .slice ia2 lb2 ic2] 26))
  have q1 : Quad ((W0.alloc (.cells #[.int .i64 ka, .slice sa R sc, .slice na la nc, .slice ia la2 ic] 26)).alloc (.cells #[.int .i64 kk, .slice sa2 R2 sc2, .slice na2 lb nc2, .slice ia2 lb2 ic2] 26)) (W0.heap.size + 1) (.int .i64 kk) (.slice sa2 R2 sc2) (.slice na2 lb nc2) (.slice ia2 lb2 ic2) := by simpa using Quad.new (W0.alloc (.cells #[.int .i64 ka, .slice sa R sc, .slice na la nc, .slice ia la2 ic] 26)) (.int .i64 kk) (.slice sa2 R2 sc2) (.slice na2 lb nc2) (.slice ia2 lb2 ic2)
  have ne1 : ((n : Int) == 0) = false := by rw [beq_eq_false_iff_ne]; omega
  have D1 := P1 _ bw
  have D2 := P2 _ bw
  obtain ⟨N, hN⟩ : ∃ N, Hid ((min x y).toNat = N) := ⟨_, rfl⟩
  clear P1 P2 hl n1 n2
  go_enter Try.func80, Try.ntmps80
  go_wp2_with (first
    | (go_at_call 65; (with_reducible refine D1.mono ?_); rintro e w1 ⟨rfl, rfl⟩)
    | (go_at_call 65; (with_reducible refine D2.mono ?_); rintro e w1 ⟨rfl, rfl⟩))
  generalize ((W0.alloc (.cells #[.int .i64 ka, .slice sa R sc, .slice na la nc, .slice ia la2 ic] 26)).alloc (.cells #[.int .i64 kk, .slice sa2 R2 sc2, .slice na2 lb nc2, .slice ia2 lb2 ic2] 26)) = W at *
  clear D1 D2
  go_loopw [15] (fun v wr => ∃ cc : Nat, cc ≤ N ∧ v = .int .i64 cc ∧ Hid (firstN f 0 cc = 0) ∧ Below W.heap.size W wr) (fun v _ => N - (intOf v).toNat)
  case atStart => exact ⟨0, Nat.zero_le _, rfl, rfl, Below.refl _ _⟩
  case round =>
    obtain ⟨cc, hcc, rfl, hf, hbr⟩ := hrel
    have hb0 := Below.then bw hbr
    have k1 := (hb0.cell (cell_lt h1)).trans h1
    have k2 := (hb0.cell (cell_lt h2)).trans h2
    by_cases hlt : cc < N
    · have hcx : (cc : Int) < x ∧ (cc : Int) < y := by have := hN.out; omega
      obtain ⟨t1, t2⟩ := hcx
      have s1 := cc_sums (c := cc) (s := x.toNat) (by omega) hi
      have s2 := cc_sums (c := cc) (s := y.toNat) (by omega) hk
      obtain ⟨u0, u1, u2, u3, -⟩ := (q0.below hbr).cells
      obtain ⟨r0, r1, r2, r3, -⟩ := (q1.below hbr).cells
      have IH := ih cc wr.drew t1 t2 hb0.drew
      obtain ⟨P, hP⟩ : ∃ P : Nat, cc * p = P := ⟨_, rfl⟩
      obtain ⟨Q, hQ⟩ : ∃ Q : Nat, cc * q = Q := ⟨_, rfl⟩
      rw [hP, hQ] at IH
      rw [hP] at s1
      rw [hQ] at s2
      have eP : (cc : Int) * (p : Int) = (P : Int) := by rw [← hP]; simp
      have eQ : (cc : Int) * (q : Int) = (Q : Int) := by rw [← hQ]; simp
      have ea2 : ((i + P : Nat) : Int) = (i : Int) + (P : Int) := by omega
      have ea3 : ((k + Q : Nat) : Int) = (k : Int) + (Q : Int) := by omega
      rw [ea2, ea3] at IH
      have kP1 : i + P ≤ 65536 := by omega
      have kP2 : k + Q ≤ 65536 := by omega
      have g0 := hf.out
      have ga := firstN_at (N := N) g0 hlt
      have gn := firstN_next (j := cc) g0
      generalize f cc = z at *
      clear hP hQ ea2 ea3 g0 s1 s2 hf
      have W1 : IntKind.i64.wrap (P : Int) = (P : Int) := by rw [IntWalk.i64_left]; exact IntWalk.wrap64_in _ (by omega)
      have W2 : IntKind.i64.wrap (Q : Int) = (Q : Int) := by rw [IntWalk.i64_left]; exact IntWalk.wrap64_in _ (by omega)
      have W3 : IntKind.i64.wrap ((i : Int) + (P : Int)) = (i : Int) + (P : Int) := by rw [IntWalk.i64_left]; exact IntWalk.wrap64_in _ (by omega)
      have W4 : IntKind.i64.wrap ((k : Int) + (Q : Int)) = (k : Int) + (Q : Int) := by rw [IntWalk.i64_left]; exact IntWalk.wrap64_in _ (by omega)
      have KK : ∀ w', Below wr.drew.heap.size wr.drew w' → w'.cell? ⟨W0.heap.size, 0, none⟩ = some (.int .i64 ka) ∧ w'.cell? ⟨W0.heap.size, 1, none⟩ = some (.slice sa R sc) ∧ w'.cell? ⟨W0.heap.size, 2, none⟩ = some (.slice na la nc) ∧ w'.cell? ⟨W0.heap.size, 3, none⟩ = some (.slice ia la2 ic) ∧ w'.cell? ⟨W0.heap.size + 1, 0, none⟩ = some (.int .i64 kk) ∧ w'.cell? ⟨W0.heap.size + 1, 1, none⟩ = some (.slice sa2 R2 sc2) ∧ w'.cell? ⟨W0.heap.size + 1, 2, none⟩ = some (.slice na2 lb nc2) ∧ w'.cell? ⟨W0.heap.size + 1, 3, none⟩ = some (.slice ia2 lb2 ic2) := fun w' g => by
        obtain ⟨u0, u1, u2, u3, -⟩ := ((q0.below hbr.drew).below g).cells
        obtain ⟨r0, r1, r2, r3, -⟩ := ((q1.below hbr.drew).below g).cells
        exact ⟨u0, u1, u2, u3, r0, r1, r2, r3⟩
      by_cases hy0 : z = 0
      · have RR := hid6' (gn hy0)
        clear gn ga
        subst hy0
        go_wp2_with fail
        go_region_held3 (fun w' => w'.cell? ⟨W0.heap.size, 0, none⟩ = some (.int .i64 ka) ∧ w'.cell? ⟨W0.heap.size, 1, none⟩ = some (.slice sa R sc) ∧ w'.cell? ⟨W0.heap.size, 2, none⟩ = some (.slice na la nc) ∧ w'.cell? ⟨W0.heap.size, 3, none⟩ = some (.slice ia la2 ic) ∧ w'.cell? ⟨W0.heap.size + 1, 0, none⟩ = some (.int .i64 kk) ∧ w'.cell? ⟨W0.heap.size + 1, 1, none⟩ = some (.slice sa2 R2 sc2) ∧ w'.cell? ⟨W0.heap.size + 1, 2, none⟩ = some (.slice na2 lb nc2) ∧ w'.cell? ⟨W0.heap.size + 1, 3, none⟩ = some (.slice ia2 lb2 ic2))
          (first | go_keep | exact KK _ (by assumption))
          ((go_at_call 80; (with_reducible refine IH.mono ?_); rintro e w1 ⟨rfl, e1⟩))
        go_wp2_with fail
        go_roundw
        case rel => exact ⟨cc + 1, by omega, by go_num, RR, Below.then hbr.drew e1⟩
        case measure => simp [intOf]; omega
      · have e1' : (z != 0) = true := by simpa using hy0
        have RR : z = X := by
          have := HX.out
          rw [hN.out, ga hy0, if_pos hy0] at this
          exact this
        subst RR
        clear gn ga hy0
        go_wp2_with fail
        go_region_held3 (fun w' => w'.cell? ⟨W0.heap.size, 0, none⟩ = some (.int .i64 ka) ∧ w'.cell? ⟨W0.heap.size, 1, none⟩ = some (.slice sa R sc) ∧ w'.cell? ⟨W0.heap.size, 2, none⟩ = some (.slice na la nc) ∧ w'.cell? ⟨W0.heap.size, 3, none⟩ = some (.slice ia la2 ic) ∧ w'.cell? ⟨W0.heap.size + 1, 0, none⟩ = some (.int .i64 kk) ∧ w'.cell? ⟨W0.heap.size + 1, 1, none⟩ = some (.slice sa2 R2 sc2) ∧ w'.cell? ⟨W0.heap.size + 1, 2, none⟩ = some (.slice na2 lb nc2) ∧ w'.cell? ⟨W0.heap.size + 1, 3, none⟩ = some (.slice ia2 lb2 ic2))
          (first | go_keep | exact KK _ (by assumption))
          ((go_at_call 80; (with_reducible refine IH.mono ?_); rintro e w1 ⟨rfl, e1⟩))
        go_wp2_with fail
        go_ret
        exact ⟨rfl, Below.then hb0.drew e1⟩
    · obtain rfl : cc = N := by omega
      have RR : X = sgn x y := by
        have := HX.out
        rw [hN.out, hf.out] at this
        simpa using this.symm
      have C := fun w' => signR x y w'
      have dt : decide ((cc : Int) < x) = true ∧ decide ((cc : Int) < y) = false ∨ decide ((cc : Int) < x) = false := by
        have := hN.out
        by_cases h : (cc : Int) < x
        · exact Or.inl ⟨decide_eq_true h, decide_eq_false (by omega)⟩
        · exact Or.inr (decide_eq_false h)
      subst RR
      clear ih hf hlt hN HX q0 q1
      rcases dt with ⟨d1, d2⟩ | d1
      · go_wp2_with fail
        go_region_held3 (fun w' => w'.cell? ⟨b1, o1, none⟩ = some (.int .i64 x) ∧ w'.cell? ⟨b2, o2, none⟩ = some (.int .i64 y)) (go_keep)
          ((go_at_call 79; (with_reducible refine (C _).mono ?_); rintro e w1 ⟨rfl, rfl⟩))
        go_wp2_with fail
        go_ret
        exact ⟨rfl, hb0.drew⟩
      · go_wp2_with fail
        go_region_held3 (fun w' => w'.cell? ⟨b1, o1, none⟩ = some (.int .i64 x) ∧ w'.cell? ⟨b2, o2, none⟩ = some (.int .i64 y)) (go_keep)
          ((go_at_call 79; (with_reducible refine (C _).mono ?_); rintro e w1 ⟨rfl, rfl⟩))
        go_wp2_with fail
        go_ret
        exact ⟨rfl, hb0.drew⟩
end Go.Proofs.Ytkjbccodahleoaa.Shape

namespace Go.Proofs.Ytkjbccodahleoaa.Shape
open Go.RowKit
set_option linter.unusedVariables false

theorem rightB_tail {x : Int} {xs : List Int} (h : rightB (x :: xs) = true) : rightB xs = true := by simpa using right_drop (k := 1) h
theorem contR_any (n : Nat) (HC : CmpSpecR n) (A B : Arr) (hr : rk A ≤ n + 1) (hxA : rightE A = 0) (hxB : rightE B = 0) (hk : A.kind = B.kind) :
    ∀ (ss ts : List Int) (i k : Nat) (a a2 : Option Addr) (c c2 : Nat) (v v2 : Value) (w : World), ss.length = ts.length → rightB ss = true → rightB ts = true → ArrAt w v A → ArrAt w v2 B → IntsAt w a c ss → IntsAt w a2 c2 ts →
      i + prN ss ≤ prN A.shape → k + prN ts ≤ prN B.shape →
      Calls Try.prog 80 #[v, .int .i64 i, .slice a ss.length c, v2, .int .i64 k, .slice a2 ts.length c2] w fun e w' => e = .returned (.int .i64 (cntS (elS n A B) ss ts i k)) ∧ Below w.heap.size w w'
  | [], [], i, k, a, a2, c, c2, v, v2, w, _, _, _, hA, hB, _, _, hi, hj => by
    obtain ⟨-, -, lA3, lA4, -⟩ := right_lens hxA
    obtain ⟨-, -, lB3, lB4, -⟩ := right_lens hxB
    rw [cntS_nil]
    have e : prN [] = 1 := prN_nil
    by_cases h3 : A.kind = 3
    · exact contB n HC a a2 c c2 v v2 A B w i k h3 hA hB (by rw [(lA4 h3).1]; omega) (by rw [(lB4 (hk ▸ h3)).1]; omega) hr hxA hxB
    · exact contN n a a2 c c2 v v2 A B w i k h3 hA hB (by rw [(lA3 h3).1]; omega) (by rw [(lB3 (hk ▸ h3)).1]; omega)
  | [], _ :: _, _, _, _, _, _, _, _, _, _, hl, _, _, _, _, _, _, _, _ => by simp at hl
  | _ :: _, [], _, _, _, _, _, _, _, _, _, hl, _, _, _, _, _, _, _, _ => by simp at hl
  | x :: ss, y :: ts, i, k, a, a2, c, c2, v, v2, w, hl, h1, h2, hA, hB, hs, hs2, hi, hj => by
    have nA := (right_def.1 h1).2.1
    have nB := (right_def.1 h2).2.1
    have zA := (size_drop (right_short hxA) 0).2
    have zB := (size_drop (right_short hxB) 0).2
    simp only [List.drop_zero] at zA zB
    rw [prN_cons nA.head nA.tail] at hi
    rw [prN_cons nB.head nB.tail] at hj
    rw [cntS_cons]
    refine contR_step v v2 A B (prN A.shape) (prN B.shape) a a2 c c2 x y ss ts w hA hB hs hs2 (by simpa using hl) h1 h2 i k hi hj zA zB _ (fun cc w' g1 g2 hb => ?_)
    have q1 := (hs.from 1 (by simp)).1
    have q2 := (hs2.from 1 (by simp)).1
    simp only [List.drop_succ_cons, List.drop_zero] at q1 q2
    refine contR_any n HC A B hr hxA hxB hk ss ts _ _ _ _ _ _ v v2 w' (by simpa using hl) (rightB_tail h1) (rightB_tail h2) (hA.below hb) (hB.below hb) (q1.below hb) (q2.below hb) ?_ ?_
    · exact Nat.le_trans (cc_sums (s := x.toNat) (by omega) (Nat.le_refl _)) hi
    · exact Nat.le_trans (cc_sums (s := y.toNat) (by omega) (Nat.le_refl _)) hj
set_option maxRecDepth 100000 in
set_option maxHeartbeats 1000000 in
theorem compareR : ∀ n, CmpSpecR n
  | 0 => fun v v2 A B w hr _ _ _ _ => absurd hr (by have := rk_pos A; omega)
  | n + 1 => fun v v2 A B w hr hxA hxB hA hB => by
    have ih := compareR n
    obtain ⟨sa, sc, na, nc, ia, ic, rfl, hs, -⟩ := arr_cellsO hA
    obtain ⟨sa2, sc2, na2, nc2, ia2, ic2, rfl, hs2, -⟩ := arr_cellsO hB
    have CC := fun v' v2' w' (s1 : IntsAt w' sa sc A.shape) (s2 : IntsAt w' sa2 sc2 B.shape) (g : ArrAt w' v' A) (g2 : ArrAt w' v2' B) (hk : A.kind = B.kind) (hl : A.shape.length = B.shape.length) => contR_any n ih A B hr hxA hxB hk A.shape B.shape 0 0 sa sa2 sc sc2 v' v2' w' hl (right_short hxA) (right_short hxB) g g2 s1 s2 (by omega) (by omega)
    have l1 := hs.len
    have l2 := hs2.len
    have bw := below_two w (.cells #[.int .i64 A.kind, .slice sa A.shape.length sc, .slice na A.nums.length nc, .slice ia A.items.length ic] 26) (.cells #[.int .i64 B.kind, .slice sa2 B.shape.length sc2, .slice na2 B.nums.length nc2, .slice ia2 B.items.length ic2] 26)
    have q0 := (Quad.new w (.int .i64 A.kind) (.slice sa A.shape.length sc) (.slice na A.nums.length nc) (.slice ia A.items.length ic)).below (below_new _ (.cells #[.int .i64 B.kind, .slice sa2 B.shape.length sc2, .slice na2 B.nums.length nc2, .slice ia2 B.items.length ic2] 26))
    have q1 : Quad ((w.alloc (.cells #[.int .i64 A.kind, .slice sa A.shape.length sc, .slice na A.nums.length nc, .slice ia A.items.length ic] 26)).alloc (.cells #[.int .i64 B.kind, .slice sa2 B.shape.length sc2, .slice na2 B.nums.length nc2, .slice ia2 B.items.length ic2] 26)) (w.heap.size + 1) (.int .i64 B.kind) (.slice sa2 B.shape.length sc2) (.slice na2 B.nums.length nc2) (.slice ia2 B.items.length ic2) := by simpa using Quad.new (w.alloc (.cells #[.int .i64 A.kind, .slice sa A.shape.length sc, .slice na A.nums.length nc, .slice ia A.items.length ic] 26)) (.int .i64 B.kind) (.slice sa2 B.shape.length sc2) (.slice na2 B.nums.length nc2) (.slice ia2 B.items.length ic2)
    have CC1 := CC _ _ _ (hs.below bw) (hs2.below bw) (hA.below bw) (hB.below bw)
    simp only [Int.cast_ofNat_Int] at CC1
    have hsW := hs.below bw
    have hs2W := hs2.below bw
    have SC := fun w' (g : Below _ _ w') (hl : B.shape.length = A.shape.length) => ordShapesR sa sc A.shape sa2 sc2 B.shape A.shape.length w' (hsW.below g) (hs2W.below g) rfl hl
    have e := cmpF_succ n A B
    obtain ⟨X, hX⟩ : ∃ X, cmpF (n + 1) A B = X := ⟨_, rfl⟩
    rw [hX] at e ⊢
    have HE := hid6 e
    clear e hX CC hA hB hs hs2 hsW hs2W ih hr hxA hxB
    obtain ⟨cc, hcc⟩ : ∃ cc, cntS (elS n A B) A.shape B.shape 0 0 = cc := ⟨_, rfl⟩
    obtain ⟨ss, hss⟩ : ∃ ss, shpS A.shape B.shape = ss := ⟨_, rfl⟩
    rw [hcc] at CC1 HE
    rw [hss] at SC HE
    clear hcc hss
    generalize A.kind = ka at *
    generalize B.kind = kk at *
    generalize A.nums.length = la at *
    generalize B.nums.length = lb at *
    generalize A.items.length = la2 at *
    generalize B.items.length = lb2 at *
    generalize A.shape.length = R at *
    generalize B.shape.length = R2 at *
    by_cases hk : ka = kk
    · subst hk
      have e1 : (ka != ka) = false := by simp
      by_cases hl : R = R2
      · subst hl
        have CC2 := CC1 rfl rfl
        have SC2 := fun w' g => SC w' g rfl
        have e2 : ((R : Int) != (R : Int)) = false := by simp
        have HX : Hid (X = if cc ≠ 0 then cc else ss) := by
          have := HE.out
          rw [if_neg (show ¬ ka ≠ ka from fun h => h rfl), if_neg (show ¬ R ≠ R from fun h => h rfl)] at this
          exact this
        clear CC1 SC HE
        go_enter Try.func58, Try.ntmps58
        go_wp2_with fail
        go_at_call 80
        with_reducible refine CC2.mono ?_
        rintro e w1 ⟨rfl, b1⟩
        have B1 := Below.then bw b1
        obtain ⟨p0, p1, p2, p3, -⟩ := (q0.below b1).cells
        obtain ⟨r0, r1, r2, r3, -⟩ := (q1.below b1).cells
        have S1 := SC2 w1 b1
        clear CC2 SC2 q0 q1 bw b1
        by_cases hc : cc = 0
        · obtain rfl : X = ss := by have := HX.out; simpa [hc] using this
          have ec : (cc != 0) = false := by simp [hc]
          clear HX
          subst hc
          go_wp2_with (go_at_call 81; (with_reducible refine S1.mono ?_); rintro e w2 ⟨rfl, b2⟩)
          go_ret
          exact ⟨rfl, Below.then B1 b2⟩
        · obtain rfl : X = cc := by have := HX.out; simpa [hc] using this
          have ec : (X != 0) = true := by simpa using hc
          clear HX hc
          go_wp2_with fail
          go_ret
          exact ⟨rfl, B1⟩
      · obtain ⟨z, hz⟩ : ∃ z, sgn (R : Int) (R2 : Int) = z := ⟨_, rfl⟩
        have hz0 : z ≠ 0 := fun h => hl (by have := sgn_zero.1 (hz.trans h); omega)
        obtain rfl : X = z := by
          have := HE.out
          rw [if_neg (show ¬ ka ≠ ka from fun h => h rfl), if_pos (show R ≠ R2 from hl), hz] at this
          exact this
        have ec : ((R : Int) != (R2 : Int)) = true := by rw [bne_iff_ne]; omega
        have D2 := fun w => signR (R : Int) (R2 : Int) w
        rw [hz] at D2
        clear CC1 SC HE hl hz0 hz
        go_enter Try.func58, Try.ntmps58
        go_wp2_with (go_at_call 79; (with_reducible refine (D2 _).mono ?_); rintro e w1 ⟨rfl, rfl⟩)
        go_ret
        exact ⟨rfl, bw⟩
    · obtain ⟨z, hz⟩ : ∃ z, sgn ka kk = z := ⟨_, rfl⟩
      have hz0 : z ≠ 0 := fun h => hk (sgn_zero.1 (hz.trans h))
      obtain rfl : X = z := by
        have := HE.out
        rw [if_pos (show ka ≠ kk from hk), hz] at this
        exact this
      have ec : (ka != kk) = true := by rw [bne_iff_ne]; exact hk
      have D1 := fun w => signR ka kk w
      rw [hz] at D1
      clear CC1 SC HE hk hz0 hz
      go_enter Try.func58, Try.ntmps58
      go_wp2_with (go_at_call 79; (with_reducible refine (D1 _).mono ?_); rintro e w1 ⟨rfl, rfl⟩)
      go_ret
      exact ⟨rfl, bw⟩
end Go.Proofs.Ytkjbccodahleoaa.Shape

namespace Go.Proofs.Ytkjbccodahleoaa.Shape
open Go.RowKit
set_option linter.unusedVariables false

end Go.Proofs.Ytkjbccodahleoaa.Shape
