/-
  Layer 7: Show of the program and of the reference.
-/
import Derived.Test.YtppdibblkaepjaaDoorFltSame
import Derived.Test.YtppdibblkaepjaaDoorNumShowR
import Derived.Test.YtppdibblkaepjaaDoorShapeShowR
import Derived.Deep.RegionHeld3
import Derived.Handy
import Derived.Deep.DeepCutAuto
namespace Go.Proofs.YtppdibblkaepjaaDoor.Flt
open Go.RowKit Go.Proofs.YtppdibblkaepjaaDoor.Shape
set_option linter.unusedVariables false

def scalar : ByteArray := ⟨#[115, 99, 97, 108, 97, 114]⟩
def scS (L : List Int) : ByteArray := if L = [] then scalar else jS L
theorem scS_nil {L : List Int} (h : L.length = 0) : scS L = ⟨#[115, 99, 97, 108, 97, 114]⟩ := by
  unfold scS
  rw [if_pos (List.eq_nil_of_length_eq_zero h)]; rfl
theorem scS_cons {L : List Int} (h : 0 < L.length) : scS L = jS L := by
  unfold scS
  rw [if_neg (by intro e; subst e; simp at h)]
theorem scS_size (L : List Int) (h : ∀ x ∈ L, -9223372036854775808 ≤ x ∧ x ≤ 9223372036854775807) (hl : L.length ≤ 2000000) : (scS L).size ≤ 42000006 := by
  by_cases h0 : L.length = 0
  · rw [scS_nil h0]; decide
  · rw [scS_cons (by omega)]
    have := jS_size L h
    omega
theorem shS_size (n : Int) (h1 : -9223372036854775808 ≤ n) (h2 : n ≤ 9223372036854775807) : (Num.shS n).size ≤ 20 := Num.shS_size n h1 h2
theorem str_eq {a b : ByteArray} (h : a = b) : Ending.returned (.string a) = .returned (.string b) := by rw [h]
theorem c1 : (ByteArray.mk #[58]).size = 1 := rfl
theorem c2 : (ByteArray.mk #[58, 32]).size = 2 := rfl
theorem c3 : (ByteArray.mk #[32]).size = 1 := rfl
theorem c7 : (ByteArray.mk #[58, 32, 108, 101, 102, 116, 32]).size = 7 := rfl
theorem c8 : (ByteArray.mk #[44, 32, 114, 105, 103, 104, 116, 32]).size = 8 := rfl
/-- The text. -/
def headS (s : ByteArray) (k n : Int) : ByteArray := Num.shS (lin s (kS s n)) ++ ⟨#[58]⟩ ++ Num.shS (col s (kS s n)) ++ ⟨#[58, 32]⟩ ++ wS k
def nameS (T nm : ByteArray) : ByteArray := if nm.toList = [] then T else T ++ (⟨#[32]⟩ ++ nm)
def tailS (T : ByteArray) (k : Int) (L R : List Int) : ByteArray := if 13 ≤ k ∧ k ≤ 21 then T ++ (⟨#[58, 32, 108, 101, 102, 116, 32]⟩ ++ scS L ++ ⟨#[44, 32, 114, 105, 103, 104, 116, 32]⟩ ++ scS R) else T
def showT (s : ByteArray) (k n : Int) (L R : List Int) (nm : ByteArray) : ByteArray := if k = 0 then ⟨#[]⟩ else tailS (nameS (headS s k n) nm) k L R
theorem headS_size (s : ByteArray) (k n : Int) (hs : s.size ≤ 4611686018427387903) : (headS s k n).size ≤ 60 := by
  have h1 := lc_bd s (kS s n)
  have h2 := kS_le s n
  have h3 := shS_size (lin s (kS s n)) (by omega) (by omega)
  have h4 := shS_size (col s (kS s n)) (by omega) (by omega)
  have h5 := wS_size k
  have e1 : (ByteArray.mk #[58]).size = 1 := rfl
  have e2 : (ByteArray.mk #[58, 32]).size = 2 := rfl
  unfold headS
  simp only [ByteArray.size_append, e1, e2]
  omega

set_option maxHeartbeats 400000 in
theorem scP (a : Option Addr) (cap : Nat) (xs : List Int) (w : World) (h : IntsAt w a cap xs) (hs : xs.length ≤ 2000000) :
    Calls Tryd.prog 21 #[.slice a xs.length cap] w fun e w' => e = .returned (.string (scS xs)) ∧ Below w.heap.size w w' := by
  by_cases h0 : xs.length = 0
  · rw [scS_nil h0]
    have t1 : ((xs.length : Int) == 0) = true := by simp [h0]
    generalize xs.length = l at *
    clear h0
    go_enter Tryd.func21, Tryd.ntmps21
    go_wp2_with fail
    go_ret
    exact ⟨rfl, Below.refl _ _⟩
  · rw [scS_cons (by omega)]
    have t1 : ((xs.length : Int) == 0) = false := by rw [beq_eq_false_iff_ne]; omega
    have C := showQ a cap xs w h hs
    clear h h0 hs
    generalize xs.length = l at *
    generalize jS xs = X at *
    go_enter Tryd.func21, Tryd.ntmps21
    go_wp2_with (go_at_call 30; (with_reducible refine C.mono ?_); rintro e w1 ⟨rfl, b1⟩)
    go_ret
    exact ⟨rfl, b1⟩

set_option maxHeartbeats 400000 in
theorem scR (a : Option Addr) (cap : Nat) (xs : List Int) (w : World) (h : IntsAt w a cap xs) (hs : xs.length ≤ 2000000) :
    Calls Tryd.prog 23 #[.slice a xs.length cap] w fun e w' => e = .returned (.string (scS xs)) ∧ Below w.heap.size w w' := by
  by_cases h0 : xs.length = 0
  · rw [scS_nil h0]
    have t1 : ((xs.length : Int) == 0) = true := by simp [h0]
    generalize xs.length = l at *
    clear h0
    go_enter Tryd.func23, Tryd.ntmps23
    go_wp2_with fail
    go_ret
    exact ⟨rfl, Below.refl _ _⟩
  · rw [scS_cons (by omega)]
    have t1 : ((xs.length : Int) == 0) = false := by rw [beq_eq_false_iff_ne]; omega
    have C := showR a cap xs w h hs
    clear h h0 hs
    generalize xs.length = l at *
    generalize jS xs = X at *
    go_enter Tryd.func23, Tryd.ntmps23
    go_wp2_with (go_at_call 32; (with_reducible refine C.mono ?_); rintro e w1 ⟨rfl, rfl⟩)
    go_ret
    exact ⟨rfl, Below.refl _ _⟩

set_option maxHeartbeats 400000 in
theorem showP_ok (s nm : ByteArray) (n : Int) (L R : List Int) (la ra : Option Addr) (lc rc : Nat) (w : World) :
    Calls Tryd.prog 13 #[.string s, fltV 0 n la L.length lc ra R.length rc nm] w fun e w' => e = .returned (.string ⟨#[]⟩) ∧ Below w.heap.size w w' := by
  go_enter Tryd.func13, Tryd.ntmps13
  go_wp2_with fail
  go_ret
  exact ⟨rfl, below_new _ _⟩
set_option maxRecDepth 100000 in
set_option maxHeartbeats 2000000 in
theorem showP_some (s nm : ByteArray) (k n : Int) (L R : List Int) (la ra : Option Addr) (lc rc : Nat) (w : World) (hT : TabW w) (hL : IntsAt w la lc L) (hR : IntsAt w ra rc R) (hl : L.length ≤ 2000000) (hr : R.length ≤ 2000000) (hm : nm.size ≤ 2000000) (hn : -9223372036854775808 ≤ n ∧ n ≤ 9223372036854775807) (hs : s.size ≤ 4611686018427387903) (hk : (k == 0) = false) :
    Calls Tryd.prog 13 #[.string s, fltV k n la L.length lc ra R.length rc nm] w fun e w' => e = .returned (.string (tailS (nameS (headS s k n) nm) k L R)) ∧ Below w.heap.size w w' := by
  obtain ⟨TT, hTT⟩ : ∃ TT, Hid (tailS (nameS (headS s k n) nm) k L R = TT) := ⟨_, rfl⟩
  rw [hTT.out]
  have bw := below_new w (.cells #[.int .i64 k, .int .i64 n, .slice la L.length lc, .slice ra R.length rc, .string nm] 31)
  have f0 := Five.new w (.int .i64 k) (.int .i64 n) (.slice la L.length lc) (.slice ra R.length rc) (.string nm) 31
  have hLW := hL.below bw
  have hRW := hR.below bw
  have hTW := hT.below bw
  have hp := fun w' => placeP s n hs w'
  have z0 := headS_size s k n hs
  have zL := scS_size L hL.2.2.1 hl
  have zR := scS_size R hR.2.2.1 hr
  have y1 := lc_bd s (kS s n)
  have y2 := kS_le s n
  have hT1 : ∀ X Y Z : ByteArray, X = Num.shS (lin s (kS s n)) → Y = Num.shS (col s (kS s n)) → Z = wS k → headS s k n = X ++ ⟨#[58]⟩ ++ Y ++ ⟨#[58, 32]⟩ ++ Z := by rintro _ _ _ rfl rfl rfl; rfl
  have zX := shS_size (lin s (kS s n)) (by omega) (by omega)
  have zY := shS_size (col s (kS s n)) (by omega) (by omega)
  have zZ := wS_size k
  have HX := fun w' => Num.showP (lin s (kS s n)) w' (by omega) (by omega)
  have HY := fun w' => Num.showP (col s (kS s n)) w' (by omega) (by omega)
  clear hT hL hR y1 y2
  generalize hX : Num.shS (lin s (kS s n)) = X at *
  generalize hY : Num.shS (col s (kS s n)) = Y at *
  generalize (lin s (kS s n) : Int) = l at *
  generalize (col s (kS s n) : Int) = c at *
  have hT2 := hid' (hT1 X Y (wS k) rfl rfl rfl)
  clear hT1 hX hY
  go_enter Tryd.func13, Tryd.ntmps13
  go_upto_region 4 with (go_at_call 11; (with_reducible refine (hp _).mono ?_); rintro e w1 ⟨rfl, rfl⟩)
  generalize w.alloc (.cells #[.int .i64 k, .int .i64 n, .slice la L.length lc, .slice ra R.length rc, .string nm] 31) = W at *
  have hk0 := f0.p0
  have H0 : ∀ w', Below W.heap.size W w' → w'.cell? ⟨w.heap.size, 0, none⟩ = some (.int .i64 k) ∧ Below W.heap.size W w' := fun w' g => ⟨(f0.below g).p0, g⟩
  have HW := fun w' (g : Below W.heap.size W w') => wordP k w' (hTW.below g)
  generalize hZ : wS k = Z at *
  clear hp
  go_cut [7] (fun v wx => v = .string (X ++ ⟨#[58]⟩ ++ Y ++ ⟨#[58, 32]⟩ ++ Z) ∧ Below W.heap.size W wx)
  case first =>
    clear hZ z0 hT2
    have a1 := fun w => run_string_add_sum (P := Tryd.prog) w X ⟨#[58]⟩ (by rw [c1]; omega)
    have a2 := fun w => run_string_add_sum (P := Tryd.prog) w (X ++ ⟨#[58]⟩) Y (by rw [ByteArray.size_append, c1]; omega)
    have a3 := fun w => run_string_add_sum (P := Tryd.prog) w (X ++ ⟨#[58]⟩ ++ Y) ⟨#[58, 32]⟩ (by simp only [ByteArray.size_append, c1, c2]; omega)
    have a4 := fun w => run_string_add_sum (P := Tryd.prog) w (X ++ ⟨#[58]⟩ ++ Y ++ ⟨#[58, 32]⟩) Z (by simp only [ByteArray.size_append, c1, c2]; omega)
    go_region_held3 (fun w' => w'.cell? ⟨w.heap.size, 0, none⟩ = some (.int .i64 k) ∧ Below W.heap.size W w') (exact H0 _ (by go_grown))
      (first
        | (go_at_call 19; (with_reducible refine (HX _).mono ?_); rintro e w1 ⟨rfl, b1⟩; (have e1 : Below W.heap.size W w1 := Below.then (by go_grown) b1); (have S1 := e1.size))
        | (go_at_call 19; (with_reducible refine (HY _).mono ?_); rintro e w2 ⟨rfl, b2⟩; (have e2 : Below W.heap.size W w2 := Below.then (by go_grown) b2); (have S2 := e2.size))
        | (go_at_call 8; (with_reducible refine (HW _ (by go_grown)).mono ?_); rintro e w3 ⟨rfl, rfl⟩))
    all_goals (go_wp2_with fail; go_meet; exact ⟨rfl, by go_grown⟩)
  case rest =>
    rw [hT2.out] at z0
    obtain ⟨rfl, hb⟩ := hcut
    clear hk0 H0 HX HY HW zX zY zZ hZ
    have q0 := (f0.below hb).p0
    have q4 := (f0.below hb).p4
    have B := Below.then bw hb
    have f1 := f0.below hb
    have hL1 := hLW.below hb
    have hR1 := hRW.below hb
    clear f0 hLW hRW bw hb hTW
    generalize X ++ ⟨#[58]⟩ ++ Y ++ ⟨#[58, 32]⟩ ++ Z = T at *
    by_cases hnm : nm.toList = []
    · have eT := hid' (show nameS T nm = T by unfold nameS; rw [if_pos hnm])
      have t1 : nm.toList.isEmpty = true := by rw [hnm]; rfl
      clear hnm
      have zT : T.size ≤ 2000061 := by omega
      by_cases hrt : 13 ≤ k ∧ k ≤ 21
      · have eX := hid' (show tailS T k L R = T ++ (⟨#[58, 32, 108, 101, 102, 116, 32]⟩ ++ scS L ++ ⟨#[44, 32, 114, 105, 103, 104, 116, 32]⟩ ++ scS R) by unfold tailS; rw [if_pos hrt])
        have t2 : decide (13 ≤ k ∧ k ≤ 21) = true := decide_eq_true hrt
        obtain ⟨r1, r2⟩ := hrt
        go_upto_region 8 with (go_at_call 20; (with_reducible refine (runtimeP k _).mono ?_); rintro e w4 ⟨rfl, rfl⟩)
        have q2 := f1.p2
        have q3 := f1.p3
        have H0 : ∀ w', Below wc.heap.size wc w' → w'.cell? ⟨w.heap.size, 2, none⟩ = some (.slice la L.length lc) ∧ w'.cell? ⟨w.heap.size, 3, none⟩ = some (.slice ra R.length rc) ∧ Below wc.heap.size wc w' := fun w' g => ⟨(f1.below g).p2, (f1.below g).p3, g⟩
        have HL := fun w' (g : Below wc.heap.size wc w') => scP la lc L w' (hL1.below g) hl
        have HR := fun w' (g : Below wc.heap.size wc w') => scP ra rc R w' (hR1.below g) hr
        clear hL1 hR1 f1 q0 q4
        generalize scS L = SL at *
        generalize scS R = SR at *
        generalize L.length = nl at *
        generalize R.length = nr at *
        have a7 := fun w => run_string_add_sum (P := Tryd.prog) w ⟨#[58, 32, 108, 101, 102, 116, 32]⟩ SL (by rw [c7]; omega)
        have a8 := fun w => run_string_add_sum (P := Tryd.prog) w (⟨#[58, 32, 108, 101, 102, 116, 32]⟩ ++ SL) ⟨#[44, 32, 114, 105, 103, 104, 116, 32]⟩ (by rw [ByteArray.size_append, c7, c8]; omega)
        have a9 := fun w => run_string_add_sum (P := Tryd.prog) w (⟨#[58, 32, 108, 101, 102, 116, 32]⟩ ++ SL ++ ⟨#[44, 32, 114, 105, 103, 104, 116, 32]⟩) SR (by rw [ByteArray.size_append, ByteArray.size_append, c7, c8]; omega)
        have a10 := fun w => run_string_add_sum (P := Tryd.prog) w T (⟨#[58, 32, 108, 101, 102, 116, 32]⟩ ++ SL ++ ⟨#[44, 32, 114, 105, 103, 104, 116, 32]⟩ ++ SR) (by rw [ByteArray.size_append, ByteArray.size_append, ByteArray.size_append, c7, c8]; omega)
        go_region_held3 (fun w' => w'.cell? ⟨w.heap.size, 2, none⟩ = some (.slice la nl lc) ∧ w'.cell? ⟨w.heap.size, 3, none⟩ = some (.slice ra nr rc) ∧ Below wc.heap.size wc w') (exact H0 _ (by go_grown))
          (first
            | (go_at_call 21; (with_reducible refine (HL _ (by go_grown)).mono ?_); rintro e w5 ⟨rfl, b5⟩; (have e5 : Below wc.heap.size wc w5 := Below.then (by go_grown) b5); (have S5 := e5.size))
            | (go_at_call 21; (with_reducible refine (HR _ (by go_grown)).mono ?_); rintro e w6 ⟨rfl, b6⟩; (have e6 : Below wc.heap.size wc w6 := Below.then (by go_grown) b6); (have S6 := e6.size)))
        all_goals (go_wp2_with fail; go_ret; exact ⟨str_eq (by rw [← hTT.out, hT2.out, eT.out, eX.out]), Below.then B (by go_grown)⟩)
      · have eX := hid' (show tailS T k L R = T by unfold tailS; rw [if_neg hrt])
        have t2 : decide (13 ≤ k ∧ k ≤ 21) = false := decide_eq_false hrt
        clear hL1 hR1 f1
        go_wp2_with (go_at_call 20; (with_reducible refine (runtimeP k _).mono ?_); rintro e w4 ⟨rfl, rfl⟩)
        go_ret
        exact ⟨str_eq (by rw [← hTT.out, hT2.out, eT.out, eX.out]), B⟩
    · have eT := hid' (show nameS T nm = T ++ (⟨#[32]⟩ ++ nm) by unfold nameS; rw [if_neg hnm])
      have t1 : nm.toList.isEmpty = false := by simpa using hnm
      clear hnm
      have zT : (T ++ (⟨#[32]⟩ ++ nm)).size ≤ 2000061 := by simp only [ByteArray.size_append, c3]; omega
      have a5 := fun w => run_string_add_sum (P := Tryd.prog) w ⟨#[32]⟩ nm (by rw [c3]; omega)
      have a6 := fun w => run_string_add_sum (P := Tryd.prog) w T (⟨#[32]⟩ ++ nm) (by rw [ByteArray.size_append, c3]; omega)
      obtain ⟨T2, hT3, -⟩ : ∃ T2, T ++ (⟨#[32]⟩ ++ nm) = T2 ∧ True := ⟨_, rfl, trivial⟩
      rw [hT3] at zT eT
      by_cases hrt : 13 ≤ k ∧ k ≤ 21
      · have eX := hid' (show tailS T2 k L R = T2 ++ (⟨#[58, 32, 108, 101, 102, 116, 32]⟩ ++ scS L ++ ⟨#[44, 32, 114, 105, 103, 104, 116, 32]⟩ ++ scS R) by unfold tailS; rw [if_pos hrt])
        have t2 : decide (13 ≤ k ∧ k ≤ 21) = true := decide_eq_true hrt
        obtain ⟨r1, r2⟩ := hrt
        go_upto_region 8 with (go_at_call 20; (with_reducible refine (runtimeP k _).mono ?_); rintro e w4 ⟨rfl, rfl⟩)
        have q2 := f1.p2
        have q3 := f1.p3
        have H0 : ∀ w', Below wc.heap.size wc w' → w'.cell? ⟨w.heap.size, 2, none⟩ = some (.slice la L.length lc) ∧ w'.cell? ⟨w.heap.size, 3, none⟩ = some (.slice ra R.length rc) ∧ Below wc.heap.size wc w' := fun w' g => ⟨(f1.below g).p2, (f1.below g).p3, g⟩
        have HL := fun w' (g : Below wc.heap.size wc w') => scP la lc L w' (hL1.below g) hl
        have HR := fun w' (g : Below wc.heap.size wc w') => scP ra rc R w' (hR1.below g) hr
        clear hL1 hR1 f1 q0 q4
        generalize scS L = SL at *
        generalize scS R = SR at *
        generalize L.length = nl at *
        generalize R.length = nr at *
        have a7 := fun w => run_string_add_sum (P := Tryd.prog) w ⟨#[58, 32, 108, 101, 102, 116, 32]⟩ SL (by rw [c7]; omega)
        have a8 := fun w => run_string_add_sum (P := Tryd.prog) w (⟨#[58, 32, 108, 101, 102, 116, 32]⟩ ++ SL) ⟨#[44, 32, 114, 105, 103, 104, 116, 32]⟩ (by rw [ByteArray.size_append, c7, c8]; omega)
        have a9 := fun w => run_string_add_sum (P := Tryd.prog) w (⟨#[58, 32, 108, 101, 102, 116, 32]⟩ ++ SL ++ ⟨#[44, 32, 114, 105, 103, 104, 116, 32]⟩) SR (by rw [ByteArray.size_append, ByteArray.size_append, c7, c8]; omega)
        have a10 := fun w => run_string_add_sum (P := Tryd.prog) w T2 (⟨#[58, 32, 108, 101, 102, 116, 32]⟩ ++ SL ++ ⟨#[44, 32, 114, 105, 103, 104, 116, 32]⟩ ++ SR) (by rw [ByteArray.size_append, ByteArray.size_append, ByteArray.size_append, c7, c8]; omega)
        go_region_held3 (fun w' => w'.cell? ⟨w.heap.size, 2, none⟩ = some (.slice la nl lc) ∧ w'.cell? ⟨w.heap.size, 3, none⟩ = some (.slice ra nr rc) ∧ Below wc.heap.size wc w') (exact H0 _ (by go_grown))
          (first
            | (go_at_call 21; (with_reducible refine (HL _ (by go_grown)).mono ?_); rintro e w5 ⟨rfl, b5⟩; (have e5 : Below wc.heap.size wc w5 := Below.then (by go_grown) b5); (have S5 := e5.size))
            | (go_at_call 21; (with_reducible refine (HR _ (by go_grown)).mono ?_); rintro e w6 ⟨rfl, b6⟩; (have e6 : Below wc.heap.size wc w6 := Below.then (by go_grown) b6); (have S6 := e6.size)))
        all_goals (go_wp2_with fail; go_ret; exact ⟨str_eq (by rw [← hTT.out, hT2.out, eT.out, eX.out]), Below.then B (by go_grown)⟩)
      · have eX := hid' (show tailS T2 k L R = T2 by unfold tailS; rw [if_neg hrt])
        have t2 : decide (13 ≤ k ∧ k ≤ 21) = false := decide_eq_false hrt
        clear hL1 hR1 f1
        go_wp2_with (go_at_call 20; (with_reducible refine (runtimeP k _).mono ?_); rintro e w4 ⟨rfl, rfl⟩)
        go_ret
        exact ⟨str_eq (by rw [← hTT.out, hT2.out, eT.out, eX.out]), B⟩

set_option maxHeartbeats 400000 in
theorem showR_ok (s nm : ByteArray) (n : Int) (L R : List Int) (la ra : Option Addr) (lc rc : Nat) (w : World) :
    Calls Tryd.prog 14 #[.string s, fltV 0 n la L.length lc ra R.length rc nm] w fun e w' => e = .returned (.string ⟨#[]⟩) ∧ Below w.heap.size w w' := by
  go_enter Tryd.func14, Tryd.ntmps14
  go_wp2_with fail
  go_ret
  exact ⟨rfl, below_new _ _⟩
set_option maxRecDepth 100000 in
set_option maxHeartbeats 2000000 in
theorem showR_some (s nm : ByteArray) (k n : Int) (L R : List Int) (la ra : Option Addr) (lc rc : Nat) (w : World) (hL : IntsAt w la lc L) (hR : IntsAt w ra rc R) (hl : L.length ≤ 2000000) (hr : R.length ≤ 2000000) (hm : nm.size ≤ 2000000) (hn : -9223372036854775808 ≤ n ∧ n ≤ 9223372036854775807) (hs : s.size ≤ 4611686018427387903) (hk : (k == 0) = false) :
    Calls Tryd.prog 14 #[.string s, fltV k n la L.length lc ra R.length rc nm] w fun e w' => e = .returned (.string (tailS (nameS (headS s k n) nm) k L R)) ∧ Below w.heap.size w w' := by
  obtain ⟨TT, hTT⟩ : ∃ TT, Hid (tailS (nameS (headS s k n) nm) k L R = TT) := ⟨_, rfl⟩
  rw [hTT.out]
  have bw := below_new w (.cells #[.int .i64 k, .int .i64 n, .slice la L.length lc, .slice ra R.length rc, .string nm] 31)
  have f0 := Five.new w (.int .i64 k) (.int .i64 n) (.slice la L.length lc) (.slice ra R.length rc) (.string nm) 31
  have hLW := hL.below bw
  have hRW := hR.below bw

  have hp := fun w' => placeR s n hn hs w'
  have z0 := headS_size s k n hs
  have zL := scS_size L hL.2.2.1 hl
  have zR := scS_size R hR.2.2.1 hr
  have y1 := lc_bd s (kS s n)
  have y2 := kS_le s n
  have hT1 : ∀ X Y Z : ByteArray, X = Num.shS (lin s (kS s n)) → Y = Num.shS (col s (kS s n)) → Z = wS k → headS s k n = X ++ ⟨#[58]⟩ ++ Y ++ ⟨#[58, 32]⟩ ++ Z := by rintro _ _ _ rfl rfl rfl; rfl
  have zX := shS_size (lin s (kS s n)) (by omega) (by omega)
  have zY := shS_size (col s (kS s n)) (by omega) (by omega)
  have zZ := wS_size k
  have HX := fun w' => Num.showR (lin s (kS s n)) w' (by omega) (by omega)
  have HY := fun w' => Num.showR (col s (kS s n)) w' (by omega) (by omega)
  clear hL hR y1 y2
  generalize hX : Num.shS (lin s (kS s n)) = X at *
  generalize hY : Num.shS (col s (kS s n)) = Y at *
  generalize (lin s (kS s n) : Int) = l at *
  generalize (col s (kS s n) : Int) = c at *
  have hT2 := hid' (hT1 X Y (wS k) rfl rfl rfl)
  clear hT1 hX hY
  go_enter Tryd.func14, Tryd.ntmps14
  go_upto_region 4 with (go_at_call 12; (with_reducible refine (hp _).mono ?_); rintro e w1 ⟨rfl, rfl⟩)
  generalize w.alloc (.cells #[.int .i64 k, .int .i64 n, .slice la L.length lc, .slice ra R.length rc, .string nm] 31) = W at *
  have hk0 := f0.p0
  have H0 : ∀ w', Below W.heap.size W w' → w'.cell? ⟨w.heap.size, 0, none⟩ = some (.int .i64 k) ∧ Below W.heap.size W w' := fun w' g => ⟨(f0.below g).p0, g⟩
  have HW := fun w' => wordR k w'
  generalize hZ : wS k = Z at *
  clear hp
  go_cut [7] (fun v wx => v = .string (X ++ ⟨#[58]⟩ ++ Y ++ ⟨#[58, 32]⟩ ++ Z) ∧ Below W.heap.size W wx)
  case first =>
    clear hZ z0 hT2
    have a1 := fun w => run_string_add_sum (P := Tryd.prog) w X ⟨#[58]⟩ (by rw [c1]; omega)
    have a2 := fun w => run_string_add_sum (P := Tryd.prog) w (X ++ ⟨#[58]⟩) Y (by rw [ByteArray.size_append, c1]; omega)
    have a3 := fun w => run_string_add_sum (P := Tryd.prog) w (X ++ ⟨#[58]⟩ ++ Y) ⟨#[58, 32]⟩ (by simp only [ByteArray.size_append, c1, c2]; omega)
    have a4 := fun w => run_string_add_sum (P := Tryd.prog) w (X ++ ⟨#[58]⟩ ++ Y ++ ⟨#[58, 32]⟩) Z (by simp only [ByteArray.size_append, c1, c2]; omega)
    go_region_held3 (fun w' => w'.cell? ⟨w.heap.size, 0, none⟩ = some (.int .i64 k) ∧ Below W.heap.size W w') (exact H0 _ (by go_grown))
      (first
        | (go_at_call 22; (with_reducible refine (HX _).mono ?_); rintro e w1 ⟨rfl, b1⟩; (have e1 : Below W.heap.size W w1 := Below.then (by go_grown) b1); (have S1 := e1.size))
        | (go_at_call 22; (with_reducible refine (HY _).mono ?_); rintro e w2 ⟨rfl, b2⟩; (have e2 : Below W.heap.size W w2 := Below.then (by go_grown) b2); (have S2 := e2.size))
        | (go_at_call 9; (with_reducible refine (HW _).mono ?_); rintro e w3 ⟨rfl, b3⟩; (have e3 : Below W.heap.size W w3 := Below.then (by go_grown) b3); (have S3 := e3.size)))
    all_goals (go_wp2_with fail; go_meet; exact ⟨rfl, by go_grown⟩)
  case rest =>
    rw [hT2.out] at z0
    obtain ⟨rfl, hb⟩ := hcut
    clear hk0 H0 HX HY HW zX zY zZ hZ
    have q0 := (f0.below hb).p0
    have q4 := (f0.below hb).p4
    have B := Below.then bw hb
    have f1 := f0.below hb
    have hL1 := hLW.below hb
    have hR1 := hRW.below hb
    clear f0 hLW hRW bw hb
    generalize X ++ ⟨#[58]⟩ ++ Y ++ ⟨#[58, 32]⟩ ++ Z = T at *
    by_cases hnm : nm.toList = []
    · have eT := hid' (show nameS T nm = T by unfold nameS; rw [if_pos hnm])
      have t1 : nm.toList.isEmpty = true := by rw [hnm]; rfl
      clear hnm
      have zT : T.size ≤ 2000061 := by omega
      by_cases hrt : 13 ≤ k ∧ k ≤ 21
      · have eX := hid' (show tailS T k L R = T ++ (⟨#[58, 32, 108, 101, 102, 116, 32]⟩ ++ scS L ++ ⟨#[44, 32, 114, 105, 103, 104, 116, 32]⟩ ++ scS R) by unfold tailS; rw [if_pos hrt])
        have t2 : decide (13 ≤ k ∧ k ≤ 21) = true := decide_eq_true hrt
        obtain ⟨r1, r2⟩ := hrt
        go_upto_region 8 with fail
        have q2 := f1.p2
        have q3 := f1.p3
        have H0 : ∀ w', Below wc.heap.size wc w' → w'.cell? ⟨w.heap.size, 2, none⟩ = some (.slice la L.length lc) ∧ w'.cell? ⟨w.heap.size, 3, none⟩ = some (.slice ra R.length rc) ∧ Below wc.heap.size wc w' := fun w' g => ⟨(f1.below g).p2, (f1.below g).p3, g⟩
        have HL := fun w' (g : Below wc.heap.size wc w') => scR la lc L w' (hL1.below g) hl
        have HR := fun w' (g : Below wc.heap.size wc w') => scR ra rc R w' (hR1.below g) hr
        clear hL1 hR1 f1 q0 q4
        generalize scS L = SL at *
        generalize scS R = SR at *
        generalize L.length = nl at *
        generalize R.length = nr at *
        have a7 := fun w => run_string_add_sum (P := Tryd.prog) w ⟨#[58, 32, 108, 101, 102, 116, 32]⟩ SL (by rw [c7]; omega)
        have a8 := fun w => run_string_add_sum (P := Tryd.prog) w (⟨#[58, 32, 108, 101, 102, 116, 32]⟩ ++ SL) ⟨#[44, 32, 114, 105, 103, 104, 116, 32]⟩ (by rw [ByteArray.size_append, c7, c8]; omega)
        have a9 := fun w => run_string_add_sum (P := Tryd.prog) w (⟨#[58, 32, 108, 101, 102, 116, 32]⟩ ++ SL ++ ⟨#[44, 32, 114, 105, 103, 104, 116, 32]⟩) SR (by rw [ByteArray.size_append, ByteArray.size_append, c7, c8]; omega)
        have a10 := fun w => run_string_add_sum (P := Tryd.prog) w T (⟨#[58, 32, 108, 101, 102, 116, 32]⟩ ++ SL ++ ⟨#[44, 32, 114, 105, 103, 104, 116, 32]⟩ ++ SR) (by rw [ByteArray.size_append, ByteArray.size_append, ByteArray.size_append, c7, c8]; omega)
        go_region_held3 (fun w' => w'.cell? ⟨w.heap.size, 2, none⟩ = some (.slice la nl lc) ∧ w'.cell? ⟨w.heap.size, 3, none⟩ = some (.slice ra nr rc) ∧ Below wc.heap.size wc w') (exact H0 _ (by go_grown))
          (first
            | (go_at_call 23; (with_reducible refine (HL _ (by go_grown)).mono ?_); rintro e w5 ⟨rfl, b5⟩; (have e5 : Below wc.heap.size wc w5 := Below.then (by go_grown) b5); (have S5 := e5.size))
            | (go_at_call 23; (with_reducible refine (HR _ (by go_grown)).mono ?_); rintro e w6 ⟨rfl, b6⟩; (have e6 : Below wc.heap.size wc w6 := Below.then (by go_grown) b6); (have S6 := e6.size)))
        all_goals (go_wp2_with fail; go_ret; exact ⟨str_eq (by rw [← hTT.out, hT2.out, eT.out, eX.out]), Below.then B (by go_grown)⟩)
      · have eX := hid' (show tailS T k L R = T by unfold tailS; rw [if_neg hrt])
        have t2 : decide (13 ≤ k ∧ k ≤ 21) = false := decide_eq_false hrt
        clear hL1 hR1 f1
        by_cases r1 : 13 ≤ k
        · have r2 : ¬ k ≤ 21 := fun g => hrt ⟨r1, g⟩
          clear hrt t2
          go_wp2_with fail
          go_ret
          exact ⟨str_eq (by rw [← hTT.out, hT2.out, eT.out, eX.out]), B⟩
        · clear hrt t2
          go_wp2_with fail
          go_ret
          exact ⟨str_eq (by rw [← hTT.out, hT2.out, eT.out, eX.out]), B⟩
    · have eT := hid' (show nameS T nm = T ++ (⟨#[32]⟩ ++ nm) by unfold nameS; rw [if_neg hnm])
      have t1 : nm.toList.isEmpty = false := by simpa using hnm
      clear hnm
      have zT : (T ++ (⟨#[32]⟩ ++ nm)).size ≤ 2000061 := by simp only [ByteArray.size_append, c3]; omega
      have a5 := fun w => run_string_add_sum (P := Tryd.prog) w ⟨#[32]⟩ nm (by rw [c3]; omega)
      have a6 := fun w => run_string_add_sum (P := Tryd.prog) w T (⟨#[32]⟩ ++ nm) (by rw [ByteArray.size_append, c3]; omega)
      obtain ⟨T2, hT3, -⟩ : ∃ T2, T ++ (⟨#[32]⟩ ++ nm) = T2 ∧ True := ⟨_, rfl, trivial⟩
      rw [hT3] at zT eT
      by_cases hrt : 13 ≤ k ∧ k ≤ 21
      · have eX := hid' (show tailS T2 k L R = T2 ++ (⟨#[58, 32, 108, 101, 102, 116, 32]⟩ ++ scS L ++ ⟨#[44, 32, 114, 105, 103, 104, 116, 32]⟩ ++ scS R) by unfold tailS; rw [if_pos hrt])
        have t2 : decide (13 ≤ k ∧ k ≤ 21) = true := decide_eq_true hrt
        obtain ⟨r1, r2⟩ := hrt
        go_upto_region 8 with fail
        have q2 := f1.p2
        have q3 := f1.p3
        have H0 : ∀ w', Below wc.heap.size wc w' → w'.cell? ⟨w.heap.size, 2, none⟩ = some (.slice la L.length lc) ∧ w'.cell? ⟨w.heap.size, 3, none⟩ = some (.slice ra R.length rc) ∧ Below wc.heap.size wc w' := fun w' g => ⟨(f1.below g).p2, (f1.below g).p3, g⟩
        have HL := fun w' (g : Below wc.heap.size wc w') => scR la lc L w' (hL1.below g) hl
        have HR := fun w' (g : Below wc.heap.size wc w') => scR ra rc R w' (hR1.below g) hr
        clear hL1 hR1 f1 q0 q4
        generalize scS L = SL at *
        generalize scS R = SR at *
        generalize L.length = nl at *
        generalize R.length = nr at *
        have a7 := fun w => run_string_add_sum (P := Tryd.prog) w ⟨#[58, 32, 108, 101, 102, 116, 32]⟩ SL (by rw [c7]; omega)
        have a8 := fun w => run_string_add_sum (P := Tryd.prog) w (⟨#[58, 32, 108, 101, 102, 116, 32]⟩ ++ SL) ⟨#[44, 32, 114, 105, 103, 104, 116, 32]⟩ (by rw [ByteArray.size_append, c7, c8]; omega)
        have a9 := fun w => run_string_add_sum (P := Tryd.prog) w (⟨#[58, 32, 108, 101, 102, 116, 32]⟩ ++ SL ++ ⟨#[44, 32, 114, 105, 103, 104, 116, 32]⟩) SR (by rw [ByteArray.size_append, ByteArray.size_append, c7, c8]; omega)
        have a10 := fun w => run_string_add_sum (P := Tryd.prog) w T2 (⟨#[58, 32, 108, 101, 102, 116, 32]⟩ ++ SL ++ ⟨#[44, 32, 114, 105, 103, 104, 116, 32]⟩ ++ SR) (by rw [ByteArray.size_append, ByteArray.size_append, ByteArray.size_append, c7, c8]; omega)
        go_region_held3 (fun w' => w'.cell? ⟨w.heap.size, 2, none⟩ = some (.slice la nl lc) ∧ w'.cell? ⟨w.heap.size, 3, none⟩ = some (.slice ra nr rc) ∧ Below wc.heap.size wc w') (exact H0 _ (by go_grown))
          (first
            | (go_at_call 23; (with_reducible refine (HL _ (by go_grown)).mono ?_); rintro e w5 ⟨rfl, b5⟩; (have e5 : Below wc.heap.size wc w5 := Below.then (by go_grown) b5); (have S5 := e5.size))
            | (go_at_call 23; (with_reducible refine (HR _ (by go_grown)).mono ?_); rintro e w6 ⟨rfl, b6⟩; (have e6 : Below wc.heap.size wc w6 := Below.then (by go_grown) b6); (have S6 := e6.size)))
        all_goals (go_wp2_with fail; go_ret; exact ⟨str_eq (by rw [← hTT.out, hT2.out, eT.out, eX.out]), Below.then B (by go_grown)⟩)
      · have eX := hid' (show tailS T2 k L R = T2 by unfold tailS; rw [if_neg hrt])
        have t2 : decide (13 ≤ k ∧ k ≤ 21) = false := decide_eq_false hrt
        clear hL1 hR1 f1
        by_cases r1 : 13 ≤ k
        · have r2 : ¬ k ≤ 21 := fun g => hrt ⟨r1, g⟩
          clear hrt t2
          go_wp2_with fail
          go_ret
          exact ⟨str_eq (by rw [← hTT.out, hT2.out, eT.out, eX.out]), B⟩
        · clear hrt t2
          go_wp2_with fail
          go_ret
          exact ⟨str_eq (by rw [← hTT.out, hT2.out, eT.out, eX.out]), B⟩
end Go.Proofs.YtppdibblkaepjaaDoor.Flt
