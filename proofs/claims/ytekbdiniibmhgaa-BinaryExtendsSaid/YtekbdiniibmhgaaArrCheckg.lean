/-
  Layer 3: the reference's check and Right.
-/
import Derived.Test.YtekbdiniibmhgaaBinGI
import Derived.Deep.RegionWith
import Derived.Deep.RegionHeld3
import Derived.Deep.DeepCutAuto
namespace Go.Proofs.Ytekbdiniibmhgaa.Shape
open Go.RowKit

theorem ret_pair {p : Int × Int} {x y : Int} (h : p = (x, y)) : Ending.returned (.tuple #[.int .i64 x, .int .i64 y]) = .returned (.tuple #[.int .i64 p.1, .int .i64 p.2]) := by rw [h]
theorem ArrAt.drew {w : World} {v : Value} {A : Arr} (h : ArrAt w v A) : ArrAt w.drew v A := h.below (Below.refl _ _).drew
theorem IntsAt.drew {w : World} {a : Option Addr} {cap : Nat} {xs : List Int} (h : IntsAt w a cap xs) : IntsAt w.drew a cap xs := h
theorem Par.drew {w : World} {B : Nat} {c0 c1 c2 c3 : Value} (h : Par w B c0 c1 c2 c3) : Par w.drew B c0 c1 c2 c3 := h
theorem below_drew (w : World) : Below w.heap.size w w.drew := (Below.refl _ _).drew

set_option maxHeartbeats 400000 in
set_option maxRecDepth 100000 in
theorem checkR_kind (v : Value) (k : Int) (sh nu : List Int) (it : List Arr) (w : World) (h : ArrAt w v (.mk k sh nu it)) (hk' : k < 1 ∨ 3 < k) :
    Calls Try.prog 40 #[v] w fun e w' => e = .returned (.tuple #[.int .i64 (chk (.mk k sh nu it)).1, .int .i64 (chk (.mk k sh nu it)).2]) ∧ Below w.heap.size w w' := by
  have HE := chk_kind (sh := sh) (nu := nu) (it := it) hk'
  rw [ArrAt] at h
  obtain ⟨sa, sc, na, nc, ia, ic, rfl, hk, hs, hnn, h1, h2, b, off, ha, hc⟩ := h
  rcases hk' with g | g
  · go_enter Try.func40, Try.ntmps40
    go_wp2_with fail
    go_ret2
    exact ⟨by first | rfl | exact ret_pair HE, below_new _ _⟩
  · have g' : ¬ k < 1 := by omega
    go_enter Try.func40, Try.ntmps40
    go_wp2_with fail
    go_ret2
    exact ⟨by first | rfl | exact ret_pair HE, below_new _ _⟩

set_option maxHeartbeats 1000000 in
set_option maxRecDepth 100000 in
theorem checkR_dims1 (v : Value) (sh nu : List Int) (it : List Arr) (w : World) (h : ArrAt w v (.mk 1 sh nu it)) (hd : dimsE sh ≠ 0) :
    Calls Try.prog 40 #[v] w fun e w' => e = .returned (.tuple #[.int .i64 (chk (.mk 1 sh nu it)).1, .int .i64 (chk (.mk 1 sh nu it)).2]) ∧ Below w.heap.size w w' := by
  have HE : Hid (chk (.mk 1 sh nu it) = (dimsE sh, 0)) := chk_dims (by omega) hd
  have hA := h
  rw [ArrAt] at h
  obtain ⟨sa, sc, na, nc, ia, ic, rfl, hk, hs, hnn, h1, h2, b, off, ha, hc⟩ := h
  have hA1 := hA.below (below_new w (.cells #[.int .i64 1, .slice sa sh.length sc, .slice na nu.length nc, .slice ia it.length ic] 33))
  have hs1 := hs.below (below_new w (.cells #[.int .i64 1, .slice sa sh.length sc, .slice na nu.length nc, .slice ia it.length ic] 33))
  have hP1 := Par.new w (.int .i64 1) (.slice sa sh.length sc) (.slice na nu.length nc) (.slice ia it.length ic) 33
  have hnl := hnn.len
  have hd' : (dimsE sh != 0) = true := by simpa using hd
  clear hd
  go_enter Try.func40, Try.ntmps40
  go_wp2_with (go_at_call 73; refine (dimsR _ _ _ _ hs1).mono ?_; rintro e w' ⟨rfl, rfl⟩)
  go_ret2
  exact ⟨by first | rfl | exact ret_pair HE.out, below_new _ _⟩

set_option maxHeartbeats 1000000 in
set_option maxRecDepth 100000 in
theorem checkR_len1 (v : Value) (sh nu : List Int) (it : List Arr) (w : World) (h : ArrAt w v (.mk 1 sh nu it)) (hd : dimsE sh = 0) (hl : ¬ (nu.length : Int) = pr sh ∨ 0 < it.length) :
    Calls Try.prog 40 #[v] w fun e w' => e = .returned (.tuple #[.int .i64 (chk (.mk 1 sh nu it)).1, .int .i64 (chk (.mk 1 sh nu it)).2]) ∧ Below w.heap.size w w' := by
  have HE : Hid (chk (.mk 1 sh nu it) = (16, 0)) := chk_len (by omega) hd hl
  have hA := h
  rw [ArrAt] at h
  obtain ⟨sa, sc, na, nc, ia, ic, rfl, hk, hs, hnn, h1, h2, b, off, ha, hc⟩ := h
  have hA1 := hA.below (below_new w (.cells #[.int .i64 1, .slice sa sh.length sc, .slice na nu.length nc, .slice ia it.length ic] 33))
  have hs1 := hs.below (below_new w (.cells #[.int .i64 1, .slice sa sh.length sc, .slice na nu.length nc, .slice ia it.length ic] 33))
  have hP1 := Par.new w (.int .i64 1) (.slice sa sh.length sc) (.slice na nu.length nc) (.slice ia it.length ic) 33
  have hnl := hnn.len
  have hr := (dimsE_right sh).1 hd
  have hz : ((aSize (.mk 1 sh nu it) : Nat) : Int) = nu.length := rfl
  have HL : Hid (¬ (nu.length : Int) = pr sh ∨ 0 < it.length) := hl
  clear hl
  go_enter Try.func40, Try.ntmps40
  go_upto_region 9 with (go_at_call 73; refine (dimsR _ _ _ _ hs1).mono ?_; rintro e w' ⟨rfl, rfl⟩)
  go_cut [43] (fun s wx => s = .bool true ∧ Par wx w.heap.size (.int .i64 1) (.slice sa sh.length sc) (.slice na nu.length nc) (.slice ia it.length ic) ∧ Below w.heap.size w wx)
  case first =>
    by_cases c : (nu.length : Int) = pr sh
    · have c1 : ((nu.length : Int) != pr sh) = false := by rw [c]; simp
      have c2 : 0 < (it.length : Int) := by rcases HL.out with g | g <;> omega
      clear c
      go_region_held3 (fun w' => w'.cell? ⟨w.heap.size, 0, none⟩ = some (.int .i64 1) ∧ w'.cell? ⟨w.heap.size, 1, none⟩ = some (.slice sa sh.length sc) ∧ w'.cell? ⟨w.heap.size, 2, none⟩ = some (.slice na nu.length nc) ∧ w'.cell? ⟨w.heap.size, 3, none⟩ = some (.slice ia it.length ic)) (first | go_keep | exact ⟨q1, q2, q3, q4⟩)
        ((first   | (go_at_call 74; ((with_reducible refine (sizeR _ _ _ hA1.drew).mono ?_); rintro e w1 ⟨rfl, hb1⟩; obtain ⟨q0, q1, q2, q3, q4⟩ := hP1.drew.below hb1))   | (go_at_call 75; ((with_reducible refine (countR _ _ _ _ hs1.drew hr).mono ?_); rintro e w' ⟨rfl, rfl⟩))   | (go_at_call 75; ((with_reducible refine (countR _ _ _ _ (hs1.drew.below hb1) hr).mono ?_); rintro e w' ⟨rfl, rfl⟩))))
      all_goals (go_wp2_with fail; go_meet)
      all_goals exact ⟨congrArg Value.bool (decide_eq_true (by omega)), hP1.drew.below hb1, Below.then (below_new _ _) (Below.then (below_drew _) hb1)⟩
    · have c1 : ((nu.length : Int) != pr sh) = true := by simpa using c
      clear c
      first | (go_region_with (first
          | (go_at_call 74; ((with_reducible refine (sizeR _ _ _ hA1.drew).mono ?_); rintro e w1 ⟨rfl, hb1⟩; obtain ⟨q0, q1, q2, q3, q4⟩ := hP1.drew.below hb1))
          | (go_at_call 75; ((with_reducible refine (countR _ _ _ _ hs1.drew hr).mono ?_); rintro e w' ⟨rfl, rfl⟩))
          | (go_at_call 75; ((with_reducible refine (countR _ _ _ _ (hs1.drew.below hb1) hr).mono ?_); rintro e w' ⟨rfl, rfl⟩)))) | fail
      all_goals (go_wp2_with fail; go_meet)
      all_goals exact ⟨rfl, hP1.drew.below hb1, Below.then (below_new _ _) (Below.then (below_drew _) hb1)⟩
  case rest =>
    obtain ⟨rfl, hp, hb⟩ := hcut
    go_wp2_with fail
    go_ret2
    exact ⟨by first | rfl | exact ret_pair HE.out, hb⟩

set_option maxHeartbeats 2000000 in
set_option maxRecDepth 100000 in
theorem checkR_ok1 (n : Nat) (ih : ∀ (v : Value) (A : Arr) (w : World), rk A ≤ n → ArrAt w v A → Calls Try.prog 40 #[v] w fun e w' => e = .returned (.tuple #[.int .i64 (chk A).1, .int .i64 (chk A).2]) ∧ Below w.heap.size w w')
    (v : Value) (sh nu : List Int) (it : List Arr) (w : World) (hn : rk (.mk 1 sh nu it) ≤ n + 1) (h : ArrAt w v (.mk 1 sh nu it)) (hd : dimsE sh = 0) (hl : (nu.length : Int) = pr sh) (ho : it.length = 0) :
    Calls Try.prog 40 #[v] w fun e w' => e = .returned (.tuple #[.int .i64 (chk (.mk 1 sh nu it)).1, .int .i64 (chk (.mk 1 sh nu it)).2]) ∧ Below w.heap.size w w' := by
  have HG : Hid (¬ ((aSize (.mk 1 sh nu it) : Int) ≠ pr sh ∨ 0 < other 1 nu it)) := by
    unfold Hid
    show ¬ ((nu.length : Int) ≠ pr sh ∨ 0 < it.length)
    omega
  have hA := h
  rw [ArrAt] at h
  obtain ⟨sa, sc, na, nc, ia, ic, rfl, hk, hs, hnn, h1, h2, b, off, ha, hc⟩ := h
  have hA1 := hA.below (below_new w (.cells #[.int .i64 1, .slice sa sh.length sc, .slice na nu.length nc, .slice ia it.length ic] 33))
  have hs1 := hs.below (below_new w (.cells #[.int .i64 1, .slice sa sh.length sc, .slice na nu.length nc, .slice ia it.length ic] 33))
  have hP1 := Par.new w (.int .i64 1) (.slice sa sh.length sc) (.slice na nu.length nc) (.slice ia it.length ic) 33
  have hnl := hnn.len
  have hr := (dimsE_right sh).1 hd
  have hz : ((aSize (.mk 1 sh nu it) : Nat) : Int) = nu.length := rfl
  have hq : ((nu.length : Int) != pr sh) = false := by rw [hl]; simp
  have ho' : ¬ (0 < (it.length : Int)) := by omega
  have HO : Hid (it.length = 0) := ho
  clear hl ho
  go_enter Try.func40, Try.ntmps40
  go_upto_region 9 with (go_at_call 73; refine (dimsR _ _ _ _ hs1).mono ?_; rintro e w' ⟨rfl, rfl⟩)
  go_cut [43] (fun s wx => s = .bool false ∧ Par wx w.heap.size (.int .i64 1) (.slice sa sh.length sc) (.slice na nu.length nc) (.slice ia it.length ic) ∧ Below w.heap.size w wx)
  case first =>
    go_region_held3 (fun w' => w'.cell? ⟨w.heap.size, 0, none⟩ = some (.int .i64 1) ∧ w'.cell? ⟨w.heap.size, 1, none⟩ = some (.slice sa sh.length sc) ∧ w'.cell? ⟨w.heap.size, 2, none⟩ = some (.slice na nu.length nc) ∧ w'.cell? ⟨w.heap.size, 3, none⟩ = some (.slice ia it.length ic)) (first | go_keep | exact ⟨q1, q2, q3, q4⟩)
      ((first   | (go_at_call 74; ((with_reducible refine (sizeR _ _ _ hA1.drew).mono ?_); rintro e w1 ⟨rfl, hb1⟩; obtain ⟨q0, q1, q2, q3, q4⟩ := hP1.drew.below hb1))   | (go_at_call 75; ((with_reducible refine (countR _ _ _ _ hs1.drew hr).mono ?_); rintro e w' ⟨rfl, rfl⟩))   | (go_at_call 75; ((with_reducible refine (countR _ _ _ _ (hs1.drew.below hb1) hr).mono ?_); rintro e w' ⟨rfl, rfl⟩))))
    all_goals (go_wp2_with fail; go_meet)
    all_goals exact ⟨congrArg Value.bool (decide_eq_false (by have := HO.out; omega)), hP1.drew.below hb1, Below.then (below_new _ _) (Below.then (below_drew _) hb1)⟩
  case rest =>
    obtain ⟨rfl, hp, hb⟩ := hcut
    obtain ⟨p0, p1, p2, p3, p4⟩ := id hp
    clear hA1 hs1 hP1 hq ho'
    go_wp2_with fail
    go_loop [6] (fun i => ∃ j : Nat, j ≤ nu.length ∧ i = .int .i64 j ∧ (nu.take j).all (elemB 1) = true) (fun i => nu.length - (intOf i).toNat)
    case atStart => exact ⟨0, Nat.zero_le _, rfl, rfl⟩
    case round =>
      obtain ⟨j, hj, rfl, hall⟩ := hrel
      by_cases hlt : j < nu.length
      · obtain ⟨b1, o1, f1, v1⟩ := (hnn.below hb).at hlt
        by_cases c1 : numB nu[j] = true
        · have HE2 : Hid ((nu.take (j + 1)).all (elemB 1) = true) := all_take hlt hall (by simp [elemB, c1])
          clear hall
          go_wp2_with (go_at_call 76; refine (numberR _ _).mono ?_; rintro e w' ⟨rfl, rfl⟩)
          go_round
          case rel => exact ⟨j + 1, by omega, by go_num, HE2.out⟩
          case measure => simp [intOf]; omega
        · have c1' : numB nu[j] = false := by simpa using c1
          have HE2 : Hid (chk (.mk 1 sh nu it) = (17, 0)) := chk_elem (by omega) hd HG.out (all_bad hlt (by simp [elemB, c1']))
          clear hall c1
          go_wp2_with (go_at_call 76; refine (numberR _ _).mono ?_; rintro e w' ⟨rfl, rfl⟩)
          go_ret2
          exact ⟨by first | rfl | exact ret_pair HE2.out, hb⟩
      · obtain rfl : j = nu.length := by omega
        rw [List.take_length] at hall
        have HR : Hid (chk (.mk 1 sh nu it) = match chkL 0 it with | none => (17, 0) | some d => lastE d (wt (.mk 1 sh nu it))) := chk_rest (by omega) hd HG.out hall
        clear hall
        go_wp2_with fail
        go_loopw [7, 8] (fun d i wr => ∃ (j : Nat) (D : Int), j ≤ it.length ∧ d = .int .i64 D ∧ i = .int .i64 j ∧ 0 ≤ D ∧ D ≤ 17 ∧ Par wr w.heap.size (.int .i64 1) (.slice sa sh.length sc) (.slice na nu.length nc) (.slice ia it.length ic) ∧ Below w.heap.size w wr ∧ chkL 0 it = chkL D (it.drop j)) (fun _ i _ => it.length - (intOf i).toNat)
        case atStart => exact ⟨0, 0, Nat.zero_le _, rfl, rfl, by omega, by omega, hp, hb, by rw [List.drop_zero]⟩
        case round =>
          clear hp hb p0 p1 p2 p3 p4
          obtain ⟨j, D, hj, rfl, rfl, hD0, hD1, hp, hb, hg⟩ := hrel
          have HD : Hid (chkL 0 it = chkL D (it.drop j)) := hg
          clear hg
          obtain ⟨p0, p1, p2, p3, p4⟩ := id hp
          by_cases hlt : j < it.length
          · have hi := items_at (ic := ic) rfl ha hlt
            obtain ⟨c0, c1, c2, c3, ⟨g0, g1, g2, g3⟩, hB⟩ := (ArrsAt.below hb hc).at hlt
            have bd := chk_bd it[j]
            obtain ⟨bd1, bd2⟩ := bd
            have hrk : rk it[j] ≤ n := Nat.le_of_lt_succ (Nat.lt_of_lt_of_le (rk_item hlt) hn)
            by_cases he : (chk it[j]).1 = 0
            · have HS : Hid (chkL D (it.drop j) = chkL (max D ((chk it[j]).2 + 1)) (it.drop (j + 1))) := chkL_step hlt he
              by_cases hm : (chk it[j]).2 + 1 ≤ D
              · have HM : Hid (max D ((chk it[j]).2 + 1) = D) := max_left' hm
                go_wp2_with (go_at_call 40; refine (ih _ _ _ hrk hB).mono ?_; rintro e w2 ⟨rfl, hb2⟩)
                go_roundw
                case rel => exact ⟨j + 1, D, by omega, rfl, by go_num, hD0, hD1, hp.below hb2, hb.trans (hb2.mono hb.size), by rw [HD.out, HS.out, HM.out]⟩
                case measure => simp [intOf]; omega
              · have HM : Hid (max D ((chk it[j]).2 + 1) = (chk it[j]).2 + 1) := max_right' hm
                go_wp2_with (go_at_call 40; refine (ih _ _ _ hrk hB).mono ?_; rintro e w2 ⟨rfl, hb2⟩)
                go_roundw
                case rel => exact ⟨j + 1, (chk it[j]).2 + 1, by omega, rfl, by go_num, by omega, by omega, hp.below hb2, hb.trans (hb2.mono hb.size), by rw [HD.out, HS.out, HM.out]⟩
                case measure => simp [intOf]; omega
            · have HE2 : Hid (chk (.mk 1 sh nu it) = (17, 0)) := by unfold Hid; rw [HR.out, HD.out, chkL_bad hlt he]
              have he' : ((chk it[j]).1 != 0) = true := by simpa using he
              clear he HR
              go_wp2_with (go_at_call 40; refine (ih _ _ _ hrk hB).mono ?_; rintro e w2 ⟨rfl, hb2⟩)
              go_ret2
              exact ⟨by first | rfl | exact ret_pair HE2.out, hb.trans (hb2.mono hb.size)⟩
          · have HX : Hid (chk (.mk 1 sh nu it) = lastE D (wt (.mk 1 sh nu it))) := by unfold Hid; rw [HR.out, HD.out, chkL_end hlt]
            have hAr := hA.below hb
            clear HR
            by_cases c6 : 16 < D
            · have HE2 : Hid (chk (.mk 1 sh nu it) = (21, 0)) := by unfold Hid; rw [HX.out, lastE, if_pos (Or.inl c6)]
              clear HX
              go_wp2_with fail
              go_ret2
              exact ⟨by first | rfl | exact ret_pair HE2.out, hb⟩
            · by_cases c7 : 262144 < wt (.mk 1 sh nu it)
              · have HE2 : Hid (chk (.mk 1 sh nu it) = (21, 0)) := by unfold Hid; rw [HX.out, lastE, if_pos (Or.inr c7)]
                clear HX
                go_wp2_with (go_at_call 78; refine (weightR _ _ _ hAr).mono ?_; rintro e w2 ⟨rfl, hb2⟩)
                go_ret2
                exact ⟨by first | rfl | exact ret_pair HE2.out, hb.trans (hb2.mono hb.size)⟩
              · have HE2 : Hid (chk (.mk 1 sh nu it) = (0, D)) := by unfold Hid; rw [HX.out, lastE, if_neg (by omega)]
                clear HX
                go_wp2_with (go_at_call 78; refine (weightR _ _ _ hAr).mono ?_; rintro e w2 ⟨rfl, hb2⟩)
                go_ret2
                exact ⟨by first | rfl | exact ret_pair HE2.out, hb.trans (hb2.mono hb.size)⟩

set_option maxHeartbeats 1000000 in
set_option maxRecDepth 100000 in
theorem checkR_dims2 (v : Value) (sh nu : List Int) (it : List Arr) (w : World) (h : ArrAt w v (.mk 2 sh nu it)) (hd : dimsE sh ≠ 0) :
    Calls Try.prog 40 #[v] w fun e w' => e = .returned (.tuple #[.int .i64 (chk (.mk 2 sh nu it)).1, .int .i64 (chk (.mk 2 sh nu it)).2]) ∧ Below w.heap.size w w' := by
  have HE : Hid (chk (.mk 2 sh nu it) = (dimsE sh, 0)) := chk_dims (by omega) hd
  have hA := h
  rw [ArrAt] at h
  obtain ⟨sa, sc, na, nc, ia, ic, rfl, hk, hs, hnn, h1, h2, b, off, ha, hc⟩ := h
  have hA1 := hA.below (below_new w (.cells #[.int .i64 2, .slice sa sh.length sc, .slice na nu.length nc, .slice ia it.length ic] 33))
  have hs1 := hs.below (below_new w (.cells #[.int .i64 2, .slice sa sh.length sc, .slice na nu.length nc, .slice ia it.length ic] 33))
  have hP1 := Par.new w (.int .i64 2) (.slice sa sh.length sc) (.slice na nu.length nc) (.slice ia it.length ic) 33
  have hnl := hnn.len
  have hd' : (dimsE sh != 0) = true := by simpa using hd
  clear hd
  go_enter Try.func40, Try.ntmps40
  go_wp2_with (go_at_call 73; refine (dimsR _ _ _ _ hs1).mono ?_; rintro e w' ⟨rfl, rfl⟩)
  go_ret2
  exact ⟨by first | rfl | exact ret_pair HE.out, below_new _ _⟩

set_option maxHeartbeats 1000000 in
set_option maxRecDepth 100000 in
theorem checkR_len2 (v : Value) (sh nu : List Int) (it : List Arr) (w : World) (h : ArrAt w v (.mk 2 sh nu it)) (hd : dimsE sh = 0) (hl : ¬ (nu.length : Int) = pr sh ∨ 0 < it.length) :
    Calls Try.prog 40 #[v] w fun e w' => e = .returned (.tuple #[.int .i64 (chk (.mk 2 sh nu it)).1, .int .i64 (chk (.mk 2 sh nu it)).2]) ∧ Below w.heap.size w w' := by
  have HE : Hid (chk (.mk 2 sh nu it) = (16, 0)) := chk_len (by omega) hd hl
  have hA := h
  rw [ArrAt] at h
  obtain ⟨sa, sc, na, nc, ia, ic, rfl, hk, hs, hnn, h1, h2, b, off, ha, hc⟩ := h
  have hA1 := hA.below (below_new w (.cells #[.int .i64 2, .slice sa sh.length sc, .slice na nu.length nc, .slice ia it.length ic] 33))
  have hs1 := hs.below (below_new w (.cells #[.int .i64 2, .slice sa sh.length sc, .slice na nu.length nc, .slice ia it.length ic] 33))
  have hP1 := Par.new w (.int .i64 2) (.slice sa sh.length sc) (.slice na nu.length nc) (.slice ia it.length ic) 33
  have hnl := hnn.len
  have hr := (dimsE_right sh).1 hd
  have hz : ((aSize (.mk 2 sh nu it) : Nat) : Int) = nu.length := rfl
  have HL : Hid (¬ (nu.length : Int) = pr sh ∨ 0 < it.length) := hl
  clear hl
  go_enter Try.func40, Try.ntmps40
  go_upto_region 9 with (go_at_call 73; refine (dimsR _ _ _ _ hs1).mono ?_; rintro e w' ⟨rfl, rfl⟩)
  go_cut [43] (fun s wx => s = .bool true ∧ Par wx w.heap.size (.int .i64 2) (.slice sa sh.length sc) (.slice na nu.length nc) (.slice ia it.length ic) ∧ Below w.heap.size w wx)
  case first =>
    by_cases c : (nu.length : Int) = pr sh
    · have c1 : ((nu.length : Int) != pr sh) = false := by rw [c]; simp
      have c2 : 0 < (it.length : Int) := by rcases HL.out with g | g <;> omega
      clear c
      go_region_held3 (fun w' => w'.cell? ⟨w.heap.size, 0, none⟩ = some (.int .i64 2) ∧ w'.cell? ⟨w.heap.size, 1, none⟩ = some (.slice sa sh.length sc) ∧ w'.cell? ⟨w.heap.size, 2, none⟩ = some (.slice na nu.length nc) ∧ w'.cell? ⟨w.heap.size, 3, none⟩ = some (.slice ia it.length ic)) (first | go_keep | exact ⟨q1, q2, q3, q4⟩)
        ((first   | (go_at_call 74; ((with_reducible refine (sizeR _ _ _ hA1.drew).mono ?_); rintro e w1 ⟨rfl, hb1⟩; obtain ⟨q0, q1, q2, q3, q4⟩ := hP1.drew.below hb1))   | (go_at_call 75; ((with_reducible refine (countR _ _ _ _ hs1.drew hr).mono ?_); rintro e w' ⟨rfl, rfl⟩))   | (go_at_call 75; ((with_reducible refine (countR _ _ _ _ (hs1.drew.below hb1) hr).mono ?_); rintro e w' ⟨rfl, rfl⟩))))
      all_goals (go_wp2_with fail; go_meet)
      all_goals exact ⟨congrArg Value.bool (decide_eq_true (by omega)), hP1.drew.below hb1, Below.then (below_new _ _) (Below.then (below_drew _) hb1)⟩
    · have c1 : ((nu.length : Int) != pr sh) = true := by simpa using c
      clear c
      first | (go_region_with (first
          | (go_at_call 74; ((with_reducible refine (sizeR _ _ _ hA1.drew).mono ?_); rintro e w1 ⟨rfl, hb1⟩; obtain ⟨q0, q1, q2, q3, q4⟩ := hP1.drew.below hb1))
          | (go_at_call 75; ((with_reducible refine (countR _ _ _ _ hs1.drew hr).mono ?_); rintro e w' ⟨rfl, rfl⟩))
          | (go_at_call 75; ((with_reducible refine (countR _ _ _ _ (hs1.drew.below hb1) hr).mono ?_); rintro e w' ⟨rfl, rfl⟩)))) | fail
      all_goals (go_wp2_with fail; go_meet)
      all_goals exact ⟨rfl, hP1.drew.below hb1, Below.then (below_new _ _) (Below.then (below_drew _) hb1)⟩
  case rest =>
    obtain ⟨rfl, hp, hb⟩ := hcut
    go_wp2_with fail
    go_ret2
    exact ⟨by first | rfl | exact ret_pair HE.out, hb⟩

set_option maxHeartbeats 2000000 in
set_option maxRecDepth 100000 in
theorem checkR_ok2 (n : Nat) (ih : ∀ (v : Value) (A : Arr) (w : World), rk A ≤ n → ArrAt w v A → Calls Try.prog 40 #[v] w fun e w' => e = .returned (.tuple #[.int .i64 (chk A).1, .int .i64 (chk A).2]) ∧ Below w.heap.size w w')
    (v : Value) (sh nu : List Int) (it : List Arr) (w : World) (hn : rk (.mk 2 sh nu it) ≤ n + 1) (h : ArrAt w v (.mk 2 sh nu it)) (hd : dimsE sh = 0) (hl : (nu.length : Int) = pr sh) (ho : it.length = 0) :
    Calls Try.prog 40 #[v] w fun e w' => e = .returned (.tuple #[.int .i64 (chk (.mk 2 sh nu it)).1, .int .i64 (chk (.mk 2 sh nu it)).2]) ∧ Below w.heap.size w w' := by
  have HG : Hid (¬ ((aSize (.mk 2 sh nu it) : Int) ≠ pr sh ∨ 0 < other 2 nu it)) := by
    unfold Hid
    show ¬ ((nu.length : Int) ≠ pr sh ∨ 0 < it.length)
    omega
  have hA := h
  rw [ArrAt] at h
  obtain ⟨sa, sc, na, nc, ia, ic, rfl, hk, hs, hnn, h1, h2, b, off, ha, hc⟩ := h
  have hA1 := hA.below (below_new w (.cells #[.int .i64 2, .slice sa sh.length sc, .slice na nu.length nc, .slice ia it.length ic] 33))
  have hs1 := hs.below (below_new w (.cells #[.int .i64 2, .slice sa sh.length sc, .slice na nu.length nc, .slice ia it.length ic] 33))
  have hP1 := Par.new w (.int .i64 2) (.slice sa sh.length sc) (.slice na nu.length nc) (.slice ia it.length ic) 33
  have hnl := hnn.len
  have hr := (dimsE_right sh).1 hd
  have hz : ((aSize (.mk 2 sh nu it) : Nat) : Int) = nu.length := rfl
  have hq : ((nu.length : Int) != pr sh) = false := by rw [hl]; simp
  have ho' : ¬ (0 < (it.length : Int)) := by omega
  have HO : Hid (it.length = 0) := ho
  clear hl ho
  go_enter Try.func40, Try.ntmps40
  go_upto_region 9 with (go_at_call 73; refine (dimsR _ _ _ _ hs1).mono ?_; rintro e w' ⟨rfl, rfl⟩)
  go_cut [43] (fun s wx => s = .bool false ∧ Par wx w.heap.size (.int .i64 2) (.slice sa sh.length sc) (.slice na nu.length nc) (.slice ia it.length ic) ∧ Below w.heap.size w wx)
  case first =>
    go_region_held3 (fun w' => w'.cell? ⟨w.heap.size, 0, none⟩ = some (.int .i64 2) ∧ w'.cell? ⟨w.heap.size, 1, none⟩ = some (.slice sa sh.length sc) ∧ w'.cell? ⟨w.heap.size, 2, none⟩ = some (.slice na nu.length nc) ∧ w'.cell? ⟨w.heap.size, 3, none⟩ = some (.slice ia it.length ic)) (first | go_keep | exact ⟨q1, q2, q3, q4⟩)
      ((first   | (go_at_call 74; ((with_reducible refine (sizeR _ _ _ hA1.drew).mono ?_); rintro e w1 ⟨rfl, hb1⟩; obtain ⟨q0, q1, q2, q3, q4⟩ := hP1.drew.below hb1))   | (go_at_call 75; ((with_reducible refine (countR _ _ _ _ hs1.drew hr).mono ?_); rintro e w' ⟨rfl, rfl⟩))   | (go_at_call 75; ((with_reducible refine (countR _ _ _ _ (hs1.drew.below hb1) hr).mono ?_); rintro e w' ⟨rfl, rfl⟩))))
    all_goals (go_wp2_with fail; go_meet)
    all_goals exact ⟨congrArg Value.bool (decide_eq_false (by have := HO.out; omega)), hP1.drew.below hb1, Below.then (below_new _ _) (Below.then (below_drew _) hb1)⟩
  case rest =>
    obtain ⟨rfl, hp, hb⟩ := hcut
    obtain ⟨p0, p1, p2, p3, p4⟩ := id hp
    clear hA1 hs1 hP1 hq ho'
    go_wp2_with fail
    go_loop [6] (fun i => ∃ j : Nat, j ≤ nu.length ∧ i = .int .i64 j ∧ (nu.take j).all (elemB 2) = true) (fun i => nu.length - (intOf i).toNat)
    case atStart => exact ⟨0, Nat.zero_le _, rfl, rfl⟩
    case round =>
      obtain ⟨j, hj, rfl, hall⟩ := hrel
      by_cases hlt : j < nu.length
      · obtain ⟨b1, o1, f1, v1⟩ := (hnn.below hb).at hlt
        by_cases c1 : runeB nu[j] = true
        · have HE2 : Hid ((nu.take (j + 1)).all (elemB 2) = true) := all_take hlt hall (by simp [elemB, c1])
          clear hall
          go_wp2_with (go_at_call 77; refine (runeR _ _).mono ?_; rintro e w' ⟨rfl, rfl⟩)
          go_round
          case rel => exact ⟨j + 1, by omega, by go_num, HE2.out⟩
          case measure => simp [intOf]; omega
        · have c1' : runeB nu[j] = false := by simpa using c1
          have HE2 : Hid (chk (.mk 2 sh nu it) = (17, 0)) := chk_elem (by omega) hd HG.out (all_bad hlt (by simp [elemB, c1']))
          clear hall c1
          go_wp2_with (go_at_call 77; refine (runeR _ _).mono ?_; rintro e w' ⟨rfl, rfl⟩)
          go_ret2
          exact ⟨by first | rfl | exact ret_pair HE2.out, hb⟩
      · obtain rfl : j = nu.length := by omega
        rw [List.take_length] at hall
        have HR : Hid (chk (.mk 2 sh nu it) = match chkL 0 it with | none => (17, 0) | some d => lastE d (wt (.mk 2 sh nu it))) := chk_rest (by omega) hd HG.out hall
        clear hall
        go_wp2_with fail
        go_loopw [7, 8] (fun d i wr => ∃ (j : Nat) (D : Int), j ≤ it.length ∧ d = .int .i64 D ∧ i = .int .i64 j ∧ 0 ≤ D ∧ D ≤ 17 ∧ Par wr w.heap.size (.int .i64 2) (.slice sa sh.length sc) (.slice na nu.length nc) (.slice ia it.length ic) ∧ Below w.heap.size w wr ∧ chkL 0 it = chkL D (it.drop j)) (fun _ i _ => it.length - (intOf i).toNat)
        case atStart => exact ⟨0, 0, Nat.zero_le _, rfl, rfl, by omega, by omega, hp, hb, by rw [List.drop_zero]⟩
        case round =>
          clear hp hb p0 p1 p2 p3 p4
          obtain ⟨j, D, hj, rfl, rfl, hD0, hD1, hp, hb, hg⟩ := hrel
          have HD : Hid (chkL 0 it = chkL D (it.drop j)) := hg
          clear hg
          obtain ⟨p0, p1, p2, p3, p4⟩ := id hp
          by_cases hlt : j < it.length
          · have hi := items_at (ic := ic) rfl ha hlt
            obtain ⟨c0, c1, c2, c3, ⟨g0, g1, g2, g3⟩, hB⟩ := (ArrsAt.below hb hc).at hlt
            have bd := chk_bd it[j]
            obtain ⟨bd1, bd2⟩ := bd
            have hrk : rk it[j] ≤ n := Nat.le_of_lt_succ (Nat.lt_of_lt_of_le (rk_item hlt) hn)
            by_cases he : (chk it[j]).1 = 0
            · have HS : Hid (chkL D (it.drop j) = chkL (max D ((chk it[j]).2 + 1)) (it.drop (j + 1))) := chkL_step hlt he
              by_cases hm : (chk it[j]).2 + 1 ≤ D
              · have HM : Hid (max D ((chk it[j]).2 + 1) = D) := max_left' hm
                go_wp2_with (go_at_call 40; refine (ih _ _ _ hrk hB).mono ?_; rintro e w2 ⟨rfl, hb2⟩)
                go_roundw
                case rel => exact ⟨j + 1, D, by omega, rfl, by go_num, hD0, hD1, hp.below hb2, hb.trans (hb2.mono hb.size), by rw [HD.out, HS.out, HM.out]⟩
                case measure => simp [intOf]; omega
              · have HM : Hid (max D ((chk it[j]).2 + 1) = (chk it[j]).2 + 1) := max_right' hm
                go_wp2_with (go_at_call 40; refine (ih _ _ _ hrk hB).mono ?_; rintro e w2 ⟨rfl, hb2⟩)
                go_roundw
                case rel => exact ⟨j + 1, (chk it[j]).2 + 1, by omega, rfl, by go_num, by omega, by omega, hp.below hb2, hb.trans (hb2.mono hb.size), by rw [HD.out, HS.out, HM.out]⟩
                case measure => simp [intOf]; omega
            · have HE2 : Hid (chk (.mk 2 sh nu it) = (17, 0)) := by unfold Hid; rw [HR.out, HD.out, chkL_bad hlt he]
              have he' : ((chk it[j]).1 != 0) = true := by simpa using he
              clear he HR
              go_wp2_with (go_at_call 40; refine (ih _ _ _ hrk hB).mono ?_; rintro e w2 ⟨rfl, hb2⟩)
              go_ret2
              exact ⟨by first | rfl | exact ret_pair HE2.out, hb.trans (hb2.mono hb.size)⟩
          · have HX : Hid (chk (.mk 2 sh nu it) = lastE D (wt (.mk 2 sh nu it))) := by unfold Hid; rw [HR.out, HD.out, chkL_end hlt]
            have hAr := hA.below hb
            clear HR
            by_cases c6 : 16 < D
            · have HE2 : Hid (chk (.mk 2 sh nu it) = (21, 0)) := by unfold Hid; rw [HX.out, lastE, if_pos (Or.inl c6)]
              clear HX
              go_wp2_with fail
              go_ret2
              exact ⟨by first | rfl | exact ret_pair HE2.out, hb⟩
            · by_cases c7 : 262144 < wt (.mk 2 sh nu it)
              · have HE2 : Hid (chk (.mk 2 sh nu it) = (21, 0)) := by unfold Hid; rw [HX.out, lastE, if_pos (Or.inr c7)]
                clear HX
                go_wp2_with (go_at_call 78; refine (weightR _ _ _ hAr).mono ?_; rintro e w2 ⟨rfl, hb2⟩)
                go_ret2
                exact ⟨by first | rfl | exact ret_pair HE2.out, hb.trans (hb2.mono hb.size)⟩
              · have HE2 : Hid (chk (.mk 2 sh nu it) = (0, D)) := by unfold Hid; rw [HX.out, lastE, if_neg (by omega)]
                clear HX
                go_wp2_with (go_at_call 78; refine (weightR _ _ _ hAr).mono ?_; rintro e w2 ⟨rfl, hb2⟩)
                go_ret2
                exact ⟨by first | rfl | exact ret_pair HE2.out, hb.trans (hb2.mono hb.size)⟩

set_option maxHeartbeats 1000000 in
set_option maxRecDepth 100000 in
theorem checkR_dims3 (v : Value) (sh nu : List Int) (it : List Arr) (w : World) (h : ArrAt w v (.mk 3 sh nu it)) (hd : dimsE sh ≠ 0) :
    Calls Try.prog 40 #[v] w fun e w' => e = .returned (.tuple #[.int .i64 (chk (.mk 3 sh nu it)).1, .int .i64 (chk (.mk 3 sh nu it)).2]) ∧ Below w.heap.size w w' := by
  have HE : Hid (chk (.mk 3 sh nu it) = (dimsE sh, 0)) := chk_dims (by omega) hd
  have hA := h
  rw [ArrAt] at h
  obtain ⟨sa, sc, na, nc, ia, ic, rfl, hk, hs, hnn, h1, h2, b, off, ha, hc⟩ := h
  have hA1 := hA.below (below_new w (.cells #[.int .i64 3, .slice sa sh.length sc, .slice na nu.length nc, .slice ia it.length ic] 33))
  have hs1 := hs.below (below_new w (.cells #[.int .i64 3, .slice sa sh.length sc, .slice na nu.length nc, .slice ia it.length ic] 33))
  have hP1 := Par.new w (.int .i64 3) (.slice sa sh.length sc) (.slice na nu.length nc) (.slice ia it.length ic) 33
  have hnl := hnn.len
  have hd' : (dimsE sh != 0) = true := by simpa using hd
  clear hd
  go_enter Try.func40, Try.ntmps40
  go_wp2_with (go_at_call 73; refine (dimsR _ _ _ _ hs1).mono ?_; rintro e w' ⟨rfl, rfl⟩)
  go_ret2
  exact ⟨by first | rfl | exact ret_pair HE.out, below_new _ _⟩

set_option maxHeartbeats 1000000 in
set_option maxRecDepth 100000 in
theorem checkR_len3 (v : Value) (sh nu : List Int) (it : List Arr) (w : World) (h : ArrAt w v (.mk 3 sh nu it)) (hd : dimsE sh = 0) (hl : ¬ (it.length : Int) = pr sh ∨ 0 < nu.length) :
    Calls Try.prog 40 #[v] w fun e w' => e = .returned (.tuple #[.int .i64 (chk (.mk 3 sh nu it)).1, .int .i64 (chk (.mk 3 sh nu it)).2]) ∧ Below w.heap.size w w' := by
  have HE : Hid (chk (.mk 3 sh nu it) = (16, 0)) := chk_len (by omega) hd hl
  have hA := h
  rw [ArrAt] at h
  obtain ⟨sa, sc, na, nc, ia, ic, rfl, hk, hs, hnn, h1, h2, b, off, ha, hc⟩ := h
  have hA1 := hA.below (below_new w (.cells #[.int .i64 3, .slice sa sh.length sc, .slice na nu.length nc, .slice ia it.length ic] 33))
  have hs1 := hs.below (below_new w (.cells #[.int .i64 3, .slice sa sh.length sc, .slice na nu.length nc, .slice ia it.length ic] 33))
  have hP1 := Par.new w (.int .i64 3) (.slice sa sh.length sc) (.slice na nu.length nc) (.slice ia it.length ic) 33
  have hnl := hnn.len
  have hr := (dimsE_right sh).1 hd
  have hz : ((aSize (.mk 3 sh nu it) : Nat) : Int) = it.length := rfl
  have HL : Hid (¬ (it.length : Int) = pr sh ∨ 0 < nu.length) := hl
  clear hl
  go_enter Try.func40, Try.ntmps40
  go_upto_region 9 with (go_at_call 73; refine (dimsR _ _ _ _ hs1).mono ?_; rintro e w' ⟨rfl, rfl⟩)
  go_cut [43] (fun s wx => s = .bool true ∧ Par wx w.heap.size (.int .i64 3) (.slice sa sh.length sc) (.slice na nu.length nc) (.slice ia it.length ic) ∧ Below w.heap.size w wx)
  case first =>
    by_cases c : (it.length : Int) = pr sh
    · have c1 : ((it.length : Int) != pr sh) = false := by rw [c]; simp
      have c2 : 0 < (nu.length : Int) := by rcases HL.out with g | g <;> omega
      clear c
      go_region_held3 (fun w' => w'.cell? ⟨w.heap.size, 0, none⟩ = some (.int .i64 3) ∧ w'.cell? ⟨w.heap.size, 1, none⟩ = some (.slice sa sh.length sc) ∧ w'.cell? ⟨w.heap.size, 2, none⟩ = some (.slice na nu.length nc) ∧ w'.cell? ⟨w.heap.size, 3, none⟩ = some (.slice ia it.length ic)) (first | go_keep | exact ⟨q1, q2, q3, q4⟩)
        ((first   | (go_at_call 74; ((with_reducible refine (sizeR _ _ _ hA1.drew).mono ?_); rintro e w1 ⟨rfl, hb1⟩; obtain ⟨q0, q1, q2, q3, q4⟩ := hP1.drew.below hb1))   | (go_at_call 75; ((with_reducible refine (countR _ _ _ _ hs1.drew hr).mono ?_); rintro e w' ⟨rfl, rfl⟩))   | (go_at_call 75; ((with_reducible refine (countR _ _ _ _ (hs1.drew.below hb1) hr).mono ?_); rintro e w' ⟨rfl, rfl⟩))))
      all_goals (go_wp2_with fail; go_meet)
      all_goals exact ⟨congrArg Value.bool (decide_eq_true (by omega)), hP1.drew.below hb1, Below.then (below_new _ _) (Below.then (below_drew _) hb1)⟩
    · have c1 : ((it.length : Int) != pr sh) = true := by simpa using c
      clear c
      first | (go_region_with (first
          | (go_at_call 74; ((with_reducible refine (sizeR _ _ _ hA1.drew).mono ?_); rintro e w1 ⟨rfl, hb1⟩; obtain ⟨q0, q1, q2, q3, q4⟩ := hP1.drew.below hb1))
          | (go_at_call 75; ((with_reducible refine (countR _ _ _ _ hs1.drew hr).mono ?_); rintro e w' ⟨rfl, rfl⟩))
          | (go_at_call 75; ((with_reducible refine (countR _ _ _ _ (hs1.drew.below hb1) hr).mono ?_); rintro e w' ⟨rfl, rfl⟩)))) | fail
      all_goals (go_wp2_with fail; go_meet)
      all_goals exact ⟨rfl, hP1.drew.below hb1, Below.then (below_new _ _) (Below.then (below_drew _) hb1)⟩
  case rest =>
    obtain ⟨rfl, hp, hb⟩ := hcut
    go_wp2_with fail
    go_ret2
    exact ⟨by first | rfl | exact ret_pair HE.out, hb⟩

set_option maxHeartbeats 2000000 in
set_option maxRecDepth 100000 in
theorem checkR_ok3 (n : Nat) (ih : ∀ (v : Value) (A : Arr) (w : World), rk A ≤ n → ArrAt w v A → Calls Try.prog 40 #[v] w fun e w' => e = .returned (.tuple #[.int .i64 (chk A).1, .int .i64 (chk A).2]) ∧ Below w.heap.size w w')
    (v : Value) (sh nu : List Int) (it : List Arr) (w : World) (hn : rk (.mk 3 sh nu it) ≤ n + 1) (h : ArrAt w v (.mk 3 sh nu it)) (hd : dimsE sh = 0) (hl : (it.length : Int) = pr sh) (ho : nu.length = 0) :
    Calls Try.prog 40 #[v] w fun e w' => e = .returned (.tuple #[.int .i64 (chk (.mk 3 sh nu it)).1, .int .i64 (chk (.mk 3 sh nu it)).2]) ∧ Below w.heap.size w w' := by
  have HG : Hid (¬ ((aSize (.mk 3 sh nu it) : Int) ≠ pr sh ∨ 0 < other 3 nu it)) := by
    unfold Hid
    show ¬ ((it.length : Int) ≠ pr sh ∨ 0 < nu.length)
    omega
  have hA := h
  rw [ArrAt] at h
  obtain ⟨sa, sc, na, nc, ia, ic, rfl, hk, hs, hnn, h1, h2, b, off, ha, hc⟩ := h
  have hA1 := hA.below (below_new w (.cells #[.int .i64 3, .slice sa sh.length sc, .slice na nu.length nc, .slice ia it.length ic] 33))
  have hs1 := hs.below (below_new w (.cells #[.int .i64 3, .slice sa sh.length sc, .slice na nu.length nc, .slice ia it.length ic] 33))
  have hP1 := Par.new w (.int .i64 3) (.slice sa sh.length sc) (.slice na nu.length nc) (.slice ia it.length ic) 33
  have hnl := hnn.len
  have hr := (dimsE_right sh).1 hd
  have hz : ((aSize (.mk 3 sh nu it) : Nat) : Int) = it.length := rfl
  have hq : ((it.length : Int) != pr sh) = false := by rw [hl]; simp
  have ho' : ¬ (0 < (nu.length : Int)) := by omega
  have HO : Hid (nu.length = 0) := ho
  clear hl ho
  go_enter Try.func40, Try.ntmps40
  go_upto_region 9 with (go_at_call 73; refine (dimsR _ _ _ _ hs1).mono ?_; rintro e w' ⟨rfl, rfl⟩)
  go_cut [43] (fun s wx => s = .bool false ∧ Par wx w.heap.size (.int .i64 3) (.slice sa sh.length sc) (.slice na nu.length nc) (.slice ia it.length ic) ∧ Below w.heap.size w wx)
  case first =>
    go_region_held3 (fun w' => w'.cell? ⟨w.heap.size, 0, none⟩ = some (.int .i64 3) ∧ w'.cell? ⟨w.heap.size, 1, none⟩ = some (.slice sa sh.length sc) ∧ w'.cell? ⟨w.heap.size, 2, none⟩ = some (.slice na nu.length nc) ∧ w'.cell? ⟨w.heap.size, 3, none⟩ = some (.slice ia it.length ic)) (first | go_keep | exact ⟨q1, q2, q3, q4⟩)
      ((first   | (go_at_call 74; ((with_reducible refine (sizeR _ _ _ hA1.drew).mono ?_); rintro e w1 ⟨rfl, hb1⟩; obtain ⟨q0, q1, q2, q3, q4⟩ := hP1.drew.below hb1))   | (go_at_call 75; ((with_reducible refine (countR _ _ _ _ hs1.drew hr).mono ?_); rintro e w' ⟨rfl, rfl⟩))   | (go_at_call 75; ((with_reducible refine (countR _ _ _ _ (hs1.drew.below hb1) hr).mono ?_); rintro e w' ⟨rfl, rfl⟩))))
    all_goals (go_wp2_with fail; go_meet)
    all_goals exact ⟨congrArg Value.bool (decide_eq_false (by have := HO.out; omega)), hP1.drew.below hb1, Below.then (below_new _ _) (Below.then (below_drew _) hb1)⟩
  case rest =>
    obtain ⟨rfl, hp, hb⟩ := hcut
    obtain ⟨p0, p1, p2, p3, p4⟩ := id hp
    clear hA1 hs1 hP1 hq ho'
    go_wp2_with fail
    go_loop [6] (fun i => ∃ j : Nat, j ≤ nu.length ∧ i = .int .i64 j ∧ (nu.take j).all (elemB 3) = true) (fun i => nu.length - (intOf i).toNat)
    case atStart => exact ⟨0, Nat.zero_le _, rfl, rfl⟩
    case round =>
      obtain ⟨j, hj, rfl, hall⟩ := hrel
      by_cases hlt : j < nu.length
      · have := HO.out; omega
      · obtain rfl : j = nu.length := by omega
        rw [List.take_length] at hall
        have HR : Hid (chk (.mk 3 sh nu it) = match chkL 0 it with | none => (17, 0) | some d => lastE d (wt (.mk 3 sh nu it))) := chk_rest (by omega) hd HG.out hall
        clear hall
        go_wp2_with fail
        go_loopw [7, 8] (fun d i wr => ∃ (j : Nat) (D : Int), j ≤ it.length ∧ d = .int .i64 D ∧ i = .int .i64 j ∧ 0 ≤ D ∧ D ≤ 17 ∧ Par wr w.heap.size (.int .i64 3) (.slice sa sh.length sc) (.slice na nu.length nc) (.slice ia it.length ic) ∧ Below w.heap.size w wr ∧ chkL 0 it = chkL D (it.drop j)) (fun _ i _ => it.length - (intOf i).toNat)
        case atStart => exact ⟨0, 0, Nat.zero_le _, rfl, rfl, by omega, by omega, hp, hb, by rw [List.drop_zero]⟩
        case round =>
          clear hp hb p0 p1 p2 p3 p4
          obtain ⟨j, D, hj, rfl, rfl, hD0, hD1, hp, hb, hg⟩ := hrel
          have HD : Hid (chkL 0 it = chkL D (it.drop j)) := hg
          clear hg
          obtain ⟨p0, p1, p2, p3, p4⟩ := id hp
          by_cases hlt : j < it.length
          · have hi := items_at (ic := ic) rfl ha hlt
            obtain ⟨c0, c1, c2, c3, ⟨g0, g1, g2, g3⟩, hB⟩ := (ArrsAt.below hb hc).at hlt
            have bd := chk_bd it[j]
            obtain ⟨bd1, bd2⟩ := bd
            have hrk : rk it[j] ≤ n := Nat.le_of_lt_succ (Nat.lt_of_lt_of_le (rk_item hlt) hn)
            by_cases he : (chk it[j]).1 = 0
            · have HS : Hid (chkL D (it.drop j) = chkL (max D ((chk it[j]).2 + 1)) (it.drop (j + 1))) := chkL_step hlt he
              by_cases hm : (chk it[j]).2 + 1 ≤ D
              · have HM : Hid (max D ((chk it[j]).2 + 1) = D) := max_left' hm
                go_wp2_with (go_at_call 40; refine (ih _ _ _ hrk hB).mono ?_; rintro e w2 ⟨rfl, hb2⟩)
                go_roundw
                case rel => exact ⟨j + 1, D, by omega, rfl, by go_num, hD0, hD1, hp.below hb2, hb.trans (hb2.mono hb.size), by rw [HD.out, HS.out, HM.out]⟩
                case measure => simp [intOf]; omega
              · have HM : Hid (max D ((chk it[j]).2 + 1) = (chk it[j]).2 + 1) := max_right' hm
                go_wp2_with (go_at_call 40; refine (ih _ _ _ hrk hB).mono ?_; rintro e w2 ⟨rfl, hb2⟩)
                go_roundw
                case rel => exact ⟨j + 1, (chk it[j]).2 + 1, by omega, rfl, by go_num, by omega, by omega, hp.below hb2, hb.trans (hb2.mono hb.size), by rw [HD.out, HS.out, HM.out]⟩
                case measure => simp [intOf]; omega
            · have HE2 : Hid (chk (.mk 3 sh nu it) = (17, 0)) := by unfold Hid; rw [HR.out, HD.out, chkL_bad hlt he]
              have he' : ((chk it[j]).1 != 0) = true := by simpa using he
              clear he HR
              go_wp2_with (go_at_call 40; refine (ih _ _ _ hrk hB).mono ?_; rintro e w2 ⟨rfl, hb2⟩)
              go_ret2
              exact ⟨by first | rfl | exact ret_pair HE2.out, hb.trans (hb2.mono hb.size)⟩
          · have HX : Hid (chk (.mk 3 sh nu it) = lastE D (wt (.mk 3 sh nu it))) := by unfold Hid; rw [HR.out, HD.out, chkL_end hlt]
            have hAr := hA.below hb
            clear HR
            by_cases c6 : 16 < D
            · have HE2 : Hid (chk (.mk 3 sh nu it) = (21, 0)) := by unfold Hid; rw [HX.out, lastE, if_pos (Or.inl c6)]
              clear HX
              go_wp2_with fail
              go_ret2
              exact ⟨by first | rfl | exact ret_pair HE2.out, hb⟩
            · by_cases c7 : 262144 < wt (.mk 3 sh nu it)
              · have HE2 : Hid (chk (.mk 3 sh nu it) = (21, 0)) := by unfold Hid; rw [HX.out, lastE, if_pos (Or.inr c7)]
                clear HX
                go_wp2_with (go_at_call 78; refine (weightR _ _ _ hAr).mono ?_; rintro e w2 ⟨rfl, hb2⟩)
                go_ret2
                exact ⟨by first | rfl | exact ret_pair HE2.out, hb.trans (hb2.mono hb.size)⟩
              · have HE2 : Hid (chk (.mk 3 sh nu it) = (0, D)) := by unfold Hid; rw [HX.out, lastE, if_neg (by omega)]
                clear HX
                go_wp2_with (go_at_call 78; refine (weightR _ _ _ hAr).mono ?_; rintro e w2 ⟨rfl, hb2⟩)
                go_ret2
                exact ⟨by first | rfl | exact ret_pair HE2.out, hb.trans (hb2.mono hb.size)⟩

theorem checkR_any (n : Nat) : ∀ (v : Value) (A : Arr) (w : World), rk A ≤ n → ArrAt w v A → Calls Try.prog 40 #[v] w fun e w' => e = .returned (.tuple #[.int .i64 (chk A).1, .int .i64 (chk A).2]) ∧ Below w.heap.size w w' := by
  induction n with
  | zero =>
    intro v A w hn _
    obtain ⟨k, sh, nu, it⟩ := A
    rw [rk] at hn; omega
  | succ n ih =>
    intro v A w hn h
    obtain ⟨k, sh, nu, it⟩ := A
    by_cases hk : k < 1 ∨ 3 < k
    · exact checkR_kind v k sh nu it w h hk
    · have h3 : k = 1 ∨ k = 2 ∨ k = 3 := by omega
      by_cases hd : dimsE sh = 0
      · rcases h3 with rfl | rfl | rfl
        · by_cases hl : (nu.length : Int) = pr sh
          · by_cases ho : it.length = 0
            · exact checkR_ok1 n ih v sh nu it w hn h hd hl ho
            · exact checkR_len1 v sh nu it w h hd (Or.inr (by omega))
          · exact checkR_len1 v sh nu it w h hd (Or.inl hl)
        · by_cases hl : (nu.length : Int) = pr sh
          · by_cases ho : it.length = 0
            · exact checkR_ok2 n ih v sh nu it w hn h hd hl ho
            · exact checkR_len2 v sh nu it w h hd (Or.inr (by omega))
          · exact checkR_len2 v sh nu it w h hd (Or.inl hl)
        · by_cases hl : (it.length : Int) = pr sh
          · by_cases ho : nu.length = 0
            · exact checkR_ok3 n ih v sh nu it w hn h hd hl ho
            · exact checkR_len3 v sh nu it w h hd (Or.inr (by omega))
          · exact checkR_len3 v sh nu it w h hd (Or.inl hl)
      · rcases h3 with rfl | rfl | rfl
        · exact checkR_dims1 v sh nu it w h hd
        · exact checkR_dims2 v sh nu it w h hd
        · exact checkR_dims3 v sh nu it w h hd
theorem checkR (v : Value) (A : Arr) (w : World) (h : ArrAt w v A) : Calls Try.prog 40 #[v] w fun e w' => e = .returned (.tuple #[.int .i64 (chk A).1, .int .i64 (chk A).2]) ∧ Below w.heap.size w w' :=
  checkR_any (rk A) v A w (Nat.le_refl _) h
end Go.Proofs.Ytekbdiniibmhgaa.Shape
