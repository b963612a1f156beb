/-
  Layer 3: the reference's product, Dims, Count, Shapes, Rune and Number.
  Layer 3: what makes an array valid, as plain functions: the first error, and the depth of the boxes.
  Layer 6: the order of arrays on plain data.
  Layer 6: the order of arrays on plain data: exchanging inverts it, and it is transitive.
-/
import Derived.Test.YtkjbccodahleoaaBd1
import Derived.Test.YtkjbccodahleoaaBd2
namespace Go.Proofs.Ytkjbccodahleoaa.Shape
open Go.RowKit

theorem ret_bool {a b : Bool} (h : a = b) : Ending.returned (.bool a) = .returned (.bool b) := by rw [h]
def prodS (xs : List Int) : Int := if nz xs ≤ 65536 then nz xs else 65537
theorem prodS_small {xs : List Int} (h : nz xs ≤ 65536) : prodS xs = nz xs := by rw [prodS, if_pos h]
theorem prodS_big {xs : List Int} (h : 65536 < nz xs) : prodS xs = 65537 := by rw [prodS, if_neg (by omega)]
theorem nz_huge {xs : List Int} {k : Nat} (hn : NN xs) (hk : k < xs.length) (h : 65536 < xs[k]) : 65536 < nz xs := by
  have e := split_at xs k hk
  rw [e] at hn
  have h4 := nz_right hn
  have h5 := nz_pos hn.right.tail
  rw [nz, if_neg (by omega)] at h4
  have : xs[k] * 1 ≤ xs[k] * nz (xs.drop (k + 1)) := Int.mul_le_mul_of_nonneg_left h5 (by omega)
  rw [← e] at h4
  omega
theorem nz_over {xs : List Int} {k : Nat} (hn : NN xs) (h : 65536 < nz (xs.take (k + 1))) : 65536 < nz xs := by
  have e : xs.take (k + 1) ++ xs.drop (k + 1) = xs := List.take_append_drop _ _
  have := nz_left (a := xs.take (k + 1)) (b := xs.drop (k + 1)) (by rw [e]; exact hn)
  rw [e] at this
  omega
theorem NN.take {xs : List Int} (h : NN xs) (k : Nat) : NN (xs.take k) := fun x hx => h x (List.mem_of_mem_take hx)

set_option maxHeartbeats 1000000 in
theorem prodR (a : Option Addr) (cap : Nat) (xs : List Int) (w : World) (h : IntsAt w a cap xs) (hn : NN xs) :
    Calls Try.prog 87 #[.slice a xs.length cap] w fun e w' => e = .returned (.int .i64 (prodS xs)) ∧ w = w' := by
  have hl := h.len
  go_enter Try.func87, Try.ntmps87
  go_wp2
  go_loop [3, 4] (fun p i => ∃ k : Nat, k ≤ xs.length ∧ i = .int .i64 k ∧ p = .int .i64 (nz (xs.take k)) ∧ nz (xs.take k) ≤ 65536) (fun _ i => xs.length - (intOf i).toNat)
  case atStart => exact ⟨0, Nat.zero_le _, rfl, rfl, by show (1 : Int) ≤ 65536; decide⟩
  case round =>
    obtain ⟨k, hk, rfl, rfl, hp⟩ := hrel
    have hp1 := nz_pos (hn.take k)
    by_cases hlt : k < xs.length
    · obtain ⟨b, off, hi, hc⟩ := h.at hlt
      have hx : 0 ≤ xs[k] := hn _ (List.getElem_mem hlt)
      by_cases c2 : 65536 < xs[k]
      · have HE : Hid (prodS xs = 65537) := prodS_big (nz_huge hn hlt c2)
        go_wp2
        go_ret
        exact ⟨ret_int HE.out.symm, rfl⟩
      · by_cases c3 : xs[k] = 0
        · have hs := nz_step hlt
          rw [if_pos c3, Int.mul_one] at hs
          have c3' : ¬ 0 < xs[k] := by omega
          have hp2 : nz (xs.take (k + 1)) ≤ 65536 := by omega
          have HS : Hid (nz (xs.take (k + 1)) = nz (xs.take k)) := hs
          clear hs c3
          go_wp2
          go_round
          case rel => exact ⟨k + 1, by omega, by go_num, by rw [HS.out], hp2⟩
          case measure => simp [intOf]; omega
        · have hs := nz_step hlt
          rw [if_neg c3] at hs
          have c3' : 0 < xs[k] := by omega
          have hm : 0 ≤ nz (xs.take k) * xs[k] ∧ nz (xs.take k) * xs[k] ≤ 65536 * 65536 :=
            ⟨Int.mul_nonneg (by omega) (by omega), Int.mul_le_mul hp (by omega) (by omega) (by decide)⟩
          obtain ⟨m1, m2⟩ := hm
          have HS : Hid (nz (xs.take (k + 1)) = nz (xs.take k) * xs[k]) := hs
          by_cases c4 : 65536 < nz (xs.take k) * xs[k]
          · have HE : Hid (prodS xs = 65537) := prodS_big (nz_over (k := k) hn (by rw [hs]; exact c4))
            clear hs c3
            go_wp2
            go_ret
            exact ⟨ret_int HE.out.symm, rfl⟩
          · have hp2 : nz (xs.take (k + 1)) ≤ 65536 := by rw [hs]; omega
            clear hs c3
            go_wp2
            go_round
            case rel => exact ⟨k + 1, by omega, by go_num, by rw [HS.out], hp2⟩
            case measure => simp [intOf]; omega
    · obtain rfl : k = xs.length := by omega
      rw [List.take_length] at hp
      have HE : Hid (prodS xs = nz xs) := prodS_small hp
      go_wp2
      go_ret
      exact ⟨ret_int HE.out.symm, rfl⟩

/-- The first error of a shape. -/
def dimsE (xs : List Int) : Int := if 8 < xs.length then 15 else if NN xs then (if nz xs ≤ 65536 then 0 else 21) else 16
theorem dimsE_long {xs : List Int} (h : 8 < xs.length) : dimsE xs = 15 := by rw [dimsE, if_pos h]
theorem dimsE_neg {xs : List Int} (h : ¬ 8 < xs.length) (hn : ¬ NN xs) : dimsE xs = 16 := by rw [dimsE, if_neg h, if_neg hn]
theorem dimsE_big {xs : List Int} (h : ¬ 8 < xs.length) (hn : NN xs) (h2 : ¬ nz xs ≤ 65536) : dimsE xs = 21 := by rw [dimsE, if_neg h, if_pos hn, if_neg h2]
theorem dimsE_ok {xs : List Int} (h : ¬ 8 < xs.length) (hn : NN xs) (h2 : nz xs ≤ 65536) : dimsE xs = 0 := by rw [dimsE, if_neg h, if_pos hn, if_pos h2]
theorem dimsE_right (xs : List Int) : dimsE xs = 0 ↔ rightB xs = true := by
  rw [right_def, dimsE]
  by_cases h : 8 < xs.length
  · rw [if_pos h]; constructor <;> intro g <;> omega
  · rw [if_neg h]
    by_cases hn : NN xs
    · rw [if_pos hn]
      by_cases h2 : nz xs ≤ 65536
      · rw [if_pos h2]; exact ⟨fun _ => ⟨by omega, hn, h2⟩, fun _ => rfl⟩
      · rw [if_neg h2]; exact ⟨fun g => by omega, fun g => absurd g.2.2 h2⟩
    · rw [if_neg hn]; exact ⟨fun g => by omega, fun g => absurd g.2.1 hn⟩

set_option maxHeartbeats 1000000 in
theorem dimsR (a : Option Addr) (cap : Nat) (xs : List Int) (w : World) (h : IntsAt w a cap xs) :
    Calls Try.prog 71 #[.slice a xs.length cap] w fun e w' => e = .returned (.int .i64 (dimsE xs)) ∧ w = w' := by
  have hl := h.len
  by_cases h8 : 8 < xs.length
  · have HE : Hid (dimsE xs = 15) := dimsE_long h8
    go_enter Try.func71, Try.ntmps71
    go_wp2
    go_ret
    exact ⟨ret_int HE.out.symm, rfl⟩
  · go_enter Try.func71, Try.ntmps71
    go_wp2
    go_loop [3] (fun i => ∃ k : Nat, k ≤ xs.length ∧ i = .int .i64 k ∧ NN (xs.take k)) (fun i => xs.length - (intOf i).toNat)
    case atStart => exact ⟨0, Nat.zero_le _, rfl, NN.nil⟩
    case round =>
      obtain ⟨k, hk, rfl, hn⟩ := hrel
      by_cases hlt : k < xs.length
      · obtain ⟨b, off, hi, hc⟩ := h.at hlt
        by_cases c1 : xs[k] < 0
        · have HE : Hid (dimsE xs = 16) := dimsE_neg h8 (fun g => by have := g _ (List.getElem_mem hlt); omega)
          go_wp2
          go_ret
          exact ⟨ret_int HE.out.symm, rfl⟩
        · have hn2 : NN (xs.take (k + 1)) := by rw [take_snoc xs k hlt]; exact hn.snoc (by omega)
          go_wp2
          go_round
          case rel => exact ⟨k + 1, by omega, by go_num, hn2⟩
          case measure => simp [intOf]; omega
      · obtain rfl : k = xs.length := by omega
        rw [List.take_length] at hn
        by_cases c2 : nz xs ≤ 65536
        · have HE : Hid (dimsE xs = 0) := dimsE_ok h8 hn c2
          have hp := prodS_small c2
          go_wp2_with (go_at_call 87; refine (prodR _ _ _ _ h hn).mono ?_; rintro e w' ⟨rfl, rfl⟩)
          go_ret
          exact ⟨ret_int HE.out.symm, rfl⟩
        · have HE : Hid (dimsE xs = 21) := dimsE_big h8 hn c2
          have hp := prodS_big (xs := xs) (by omega)
          go_wp2_with (go_at_call 87; refine (prodR _ _ _ _ h hn).mono ?_; rintro e w' ⟨rfl, rfl⟩)
          go_ret
          exact ⟨ret_int HE.out.symm, rfl⟩

theorem pr_zero {xs : List Int} {k : Nat} (hk : k < xs.length) (h : xs[k] = 0) : pr xs = 0 := by
  rw [split_at xs k hk, pr_append, pr, h]; simp
set_option maxHeartbeats 1000000 in
theorem countR (a : Option Addr) (cap : Nat) (xs : List Int) (w : World) (h : IntsAt w a cap xs) (hr : rightB xs = true) :
    Calls Try.prog 73 #[.slice a xs.length cap] w fun e w' => e = .returned (.int .i64 (pr xs)) ∧ w = w' := by
  have hl := h.len
  obtain ⟨r1, r2, r3⟩ := right_def.1 hr
  go_enter Try.func73, Try.ntmps73
  go_wp2
  go_loop [3] (fun i => ∃ k : Nat, k ≤ xs.length ∧ i = .int .i64 k ∧ ∀ x ∈ xs.take k, x ≠ 0) (fun i => xs.length - (intOf i).toNat)
  case atStart => exact ⟨0, Nat.zero_le _, rfl, fun x hx => absurd hx (by simp)⟩
  case round =>
    obtain ⟨k, hk, rfl, hz⟩ := hrel
    by_cases hlt : k < xs.length
    · obtain ⟨b, off, hi, hc⟩ := h.at hlt
      by_cases c1 : xs[k] = 0
      · have HE : Hid (pr xs = 0) := pr_zero hlt c1
        have c1' : (xs[k] == 0) = true := by simpa using c1
        clear c1
        go_wp2
        go_ret
        exact ⟨ret_int HE.out.symm, rfl⟩
      · have HZ : Hid (∀ x ∈ xs.take (k + 1), x ≠ 0) := by
          unfold Hid; rw [take_snoc xs k hlt]; intro x hx
          rcases List.mem_append.1 hx with g | g
          · exact hz x g
          · rw [List.mem_singleton.1 g]; exact c1
        have c1' : (xs[k] == 0) = false := by simpa using c1
        clear c1 hz
        go_wp2
        go_round
        case rel => exact ⟨k + 1, by omega, by go_num, HZ.out⟩
        case measure => simp [intOf]; omega
    · obtain rfl : k = xs.length := by omega
      rw [List.take_length] at hz
      have HE : Hid (pr xs = prodS xs) := by unfold Hid; rw [prodS_small r3]; exact pr_eq_nz hz
      clear hz
      go_wp2_with (go_at_call 87; refine (prodR _ _ _ _ h r2).mono ?_; rintro e w' ⟨rfl, rfl⟩)
      go_ret
      exact ⟨ret_int HE.out.symm, rfl⟩

def numB (n : Int) : Bool := decide (-4611686018427387903 ≤ n ∧ n ≤ 4611686018427387903)
def runeB (n : Int) : Bool := decide (0 ≤ n ∧ n ≤ 1114111 ∧ (n < 55296 ∨ 57343 < n))
theorem numberR (n : Int) (w : World) : Calls Try.prog 74 #[.int .i64 n] w fun e w' => e = .returned (.bool (numB n)) ∧ w = w' := by
  rcases Int.lt_or_le n (-4611686018427387903) with h | h
  · go_enter Try.func74, Try.ntmps74
    go_wp2
    go_ret
    exact ⟨ret_bool (by simp [numB]; omega), rfl⟩
  · rcases Int.lt_or_le 4611686018427387903 n with h2 | h2
    · go_enter Try.func74, Try.ntmps74
      go_wp2
      go_ret
      exact ⟨ret_bool (by simp [numB]; omega), rfl⟩
    · go_enter Try.func74, Try.ntmps74
      go_wp2
      go_ret
      exact ⟨ret_bool (by simp [numB]; omega), rfl⟩
theorem runeR (n : Int) (w : World) : Calls Try.prog 75 #[.int .i64 n] w fun e w' => e = .returned (.bool (runeB n)) ∧ w = w' := by
  by_cases h0 : 0 ≤ n
  · by_cases h1 : n ≤ 1114111
    · by_cases h2 : n < 55296
      · go_enter Try.func75, Try.ntmps75
        go_wp2
        go_ret
        exact ⟨ret_bool (by simp [runeB]; omega), rfl⟩
      · by_cases h3 : 57343 < n
        · go_enter Try.func75, Try.ntmps75
          go_wp2
          go_ret
          exact ⟨ret_bool (by simp [runeB]; omega), rfl⟩
        · go_enter Try.func75, Try.ntmps75
          go_wp2
          go_ret
          exact ⟨ret_bool (by simp [runeB]; omega), rfl⟩
    · go_enter Try.func75, Try.ntmps75
      go_wp2
      go_ret
      exact ⟨ret_bool (by simp [runeB]; omega), rfl⟩
  · go_enter Try.func75, Try.ntmps75
    go_wp2
    go_ret
    exact ⟨ret_bool (by simp [runeB]; omega), rfl⟩
end Go.Proofs.Ytkjbccodahleoaa.Shape

namespace Go.Proofs.Ytkjbccodahleoaa.Shape

/-- Is n an element of an array of kind k? -/
def elemB (k n : Int) : Bool := !((k == 1 && !numB n) || (k == 2 && !runeB n))
/-- What the other field's length must be: 0. -/
def other (k : Int) (nu : List Int) (it : List Arr) : Nat := if k = 3 then nu.length else it.length
def lastE (d w : Int) : Int × Int := if 16 < d ∨ 262144 < w then (21, 0) else (0, d)
mutual
/-- The first error of an array and, if there is none, its depth. -/
def chk : Arr → Int × Int
  | .mk k sh nu it =>
    if k < 1 ∨ 3 < k then (14, 0)
    else if dimsE sh ≠ 0 then (dimsE sh, 0)
    else if (aSize (.mk k sh nu it) : Int) ≠ pr sh ∨ 0 < other k nu it then (16, 0)
    else if nu.all (elemB k) = false then (17, 0)
    else match chkL 0 it with
      | none => (17, 0)
      | some d => lastE d (wt (.mk k sh nu it))
def chkL (d : Int) : List Arr → Option Int
  | [] => some d
  | A :: r => if (chk A).1 ≠ 0 then none else chkL (max d ((chk A).2 + 1)) r
end

theorem chk_kind {k : Int} {sh nu : List Int} {it : List Arr} (h : k < 1 ∨ 3 < k) : chk (.mk k sh nu it) = (14, 0) := by rw [chk, if_pos h]
theorem chk_dims {k : Int} {sh nu : List Int} {it : List Arr} (h : ¬ (k < 1 ∨ 3 < k)) (hd : dimsE sh ≠ 0) : chk (.mk k sh nu it) = (dimsE sh, 0) := by rw [chk, if_neg h, if_pos hd]
theorem chk_len {k : Int} {sh nu : List Int} {it : List Arr} (h : ¬ (k < 1 ∨ 3 < k)) (hd : dimsE sh = 0) (hl : (aSize (.mk k sh nu it) : Int) ≠ pr sh ∨ 0 < other k nu it) : chk (.mk k sh nu it) = (16, 0) := by
  rw [chk, if_neg h, if_neg (by simpa using hd), if_pos hl]
theorem chk_elem {k : Int} {sh nu : List Int} {it : List Arr} (h : ¬ (k < 1 ∨ 3 < k)) (hd : dimsE sh = 0) (hl : ¬ ((aSize (.mk k sh nu it) : Int) ≠ pr sh ∨ 0 < other k nu it)) (he : nu.all (elemB k) = false) : chk (.mk k sh nu it) = (17, 0) := by
  rw [chk, if_neg h, if_neg (by simpa using hd), if_neg hl, if_pos he]
theorem chk_rest {k : Int} {sh nu : List Int} {it : List Arr} (h : ¬ (k < 1 ∨ 3 < k)) (hd : dimsE sh = 0) (hl : ¬ ((aSize (.mk k sh nu it) : Int) ≠ pr sh ∨ 0 < other k nu it)) (he : nu.all (elemB k) = true) :
    chk (.mk k sh nu it) = match chkL 0 it with | none => (17, 0) | some d => lastE d (wt (.mk k sh nu it)) := by
  rw [chk, if_neg h, if_neg (by simpa using hd), if_neg hl, if_neg (by rw [he]; simp)]
theorem lastE_bd (d w : Int) (h : 0 ≤ d) : 0 ≤ (lastE d w).2 ∧ (lastE d w).2 ≤ 16 := by
  unfold lastE; split
  · exact ⟨Int.le_refl _, by decide⟩
  · show 0 ≤ d ∧ d ≤ 16; omega
theorem chkL_nn : ∀ (l : List Arr) (d e : Int), 0 ≤ d → chkL d l = some e → 0 ≤ e
  | [], d, e, h, g => by simp only [chkL, Option.some.injEq] at g; omega
  | A :: r, d, e, h, g => by
    rw [chkL] at g
    split at g
    · cases g
    · exact chkL_nn r _ e (by omega) g
theorem chk_bd (A : Arr) : 0 ≤ (chk A).2 ∧ (chk A).2 ≤ 16 := by
  obtain ⟨k, sh, nu, it⟩ := A
  rw [chk]
  split
  · exact ⟨Int.le_refl _, by show (0 : Int) ≤ 16; decide⟩
  · split
    · exact ⟨Int.le_refl _, by show (0 : Int) ≤ 16; decide⟩
    · split
      · exact ⟨Int.le_refl _, by show (0 : Int) ≤ 16; decide⟩
      · split
        · exact ⟨Int.le_refl _, by show (0 : Int) ≤ 16; decide⟩
        · split
          · exact ⟨Int.le_refl _, by show (0 : Int) ≤ 16; decide⟩
          · rename_i d hd; exact lastE_bd _ _ (chkL_nn it 0 d (Int.le_refl _) hd)
theorem chkL_bad {l : List Arr} {j : Nat} {d : Int} (h : j < l.length) (hb : (chk l[j]).1 ≠ 0) : chkL d (l.drop j) = none := by
  rw [List.drop_eq_getElem_cons h, chkL, if_pos hb]
theorem chkL_step {l : List Arr} {j : Nat} {d : Int} (h : j < l.length) (hb : (chk l[j]).1 = 0) : chkL d (l.drop j) = chkL (max d ((chk l[j]).2 + 1)) (l.drop (j + 1)) := by
  rw [List.drop_eq_getElem_cons h, chkL, if_neg (by simpa using hb)]
theorem chkL_end {l : List Arr} {j : Nat} {d : Int} (h : ¬ j < l.length) : chkL d (l.drop j) = some d := by
  rw [List.drop_eq_nil_of_le (by omega), chkL]
theorem all_bad {k : Int} {nu : List Int} {j : Nat} (h : j < nu.length) (hb : elemB k nu[j] = false) : nu.all (elemB k) = false := by
  rw [List.all_eq_false]; exact ⟨nu[j], List.getElem_mem h, by rw [hb]; simp⟩
theorem all_take {k : Int} {nu : List Int} {j : Nat} (h : j < nu.length) (ha : (nu.take j).all (elemB k) = true) (hb : elemB k nu[j] = true) : (nu.take (j + 1)).all (elemB k) = true := by
  rw [List.take_succ_eq_append_getElem h, List.all_append, ha]; simp [hb]
theorem max_left' {d e : Int} (h : e ≤ d) : max d e = d := by omega
theorem max_right' {d e : Int} (h : ¬ e ≤ d) : max d e = e := by omega
end Go.Proofs.Ytkjbccodahleoaa.Shape

namespace Go.Proofs.Ytkjbccodahleoaa.Shape
open Go.RowKit
set_option linter.unusedVariables false

def sgn (a b : Int) : Int := if a < b then -1 else if b < a then 1 else 0
/-- The first of f c, f (c + 1), .. (n of them) that is not 0, or 0. -/
def firstN (f : Nat → Int) : Nat → Nat → Int
  | _, 0 => 0
  | c, n + 1 => if f c ≠ 0 then f c else firstN f (c + 1) n
/-- The order of contents: cells of shapes ss and ts whose first elements are i and k. -/
def cntS (el : Nat → Nat → Int) : List Int → List Int → Nat → Nat → Int
  | s :: ss, t :: ts, i, k =>
    if firstN (fun c => cntS el ss ts (i + c * prN ss) (k + c * prN ts)) 0 (min s t).toNat ≠ 0 then firstN (fun c => cntS el ss ts (i + c * prN ss) (k + c * prN ts)) 0 (min s t).toNat else sgn s t
  | _, _, i, k => el i k
/-- The order of shapes of one length. -/
def shpS : List Int → List Int → Int
  | s :: ss, t :: ts => if s ≠ t then sgn s t else shpS ss ts
  | _, _ => 0
def arr0 : Arr := .mk 0 [] [] []
/-- The order of arrays, to a depth of n. -/
def cmpF : Nat → Arr → Arr → Int
  | 0, _, _ => 0
  | n + 1, A, B =>
    if A.kind ≠ B.kind then sgn A.kind B.kind
    else if A.shape.length ≠ B.shape.length then sgn A.shape.length B.shape.length
    else if cntS (fun i k => if A.kind = 3 then cmpF n (A.items.getD i arr0) (B.items.getD k arr0) else sgn (A.nums.getD i 0) (B.nums.getD k 0)) A.shape B.shape 0 0 ≠ 0
      then cntS (fun i k => if A.kind = 3 then cmpF n (A.items.getD i arr0) (B.items.getD k arr0) else sgn (A.nums.getD i 0) (B.nums.getD k 0)) A.shape B.shape 0 0
    else shpS A.shape B.shape
/-- What orders elements. -/
def elS (n : Nat) (A B : Arr) (i k : Nat) : Int := if A.kind = 3 then cmpF n (A.items.getD i arr0) (B.items.getD k arr0) else sgn (A.nums.getD i 0) (B.nums.getD k 0)
theorem cmpF_succ (n : Nat) (A B : Arr) : cmpF (n + 1) A B =
    if A.kind ≠ B.kind then sgn A.kind B.kind
    else if A.shape.length ≠ B.shape.length then sgn A.shape.length B.shape.length
    else if cntS (elS n A B) A.shape B.shape 0 0 ≠ 0 then cntS (elS n A B) A.shape B.shape 0 0
    else shpS A.shape B.shape := rfl

theorem sgn_bd (a b : Int) : -1 ≤ sgn a b ∧ sgn a b ≤ 1 := by unfold sgn; split <;> (try split) <;> decide
theorem sgn_zero {a b : Int} : sgn a b = 0 ↔ a = b := by unfold sgn; split <;> (try split) <;> omega
theorem sgn_neg (a b : Int) : sgn b a = - sgn a b := by unfold sgn; split <;> split <;> (try split) <;> omega
theorem sgn_le {a b : Int} : sgn a b ≤ 0 ↔ a ≤ b := by unfold sgn; split <;> (try split) <;> omega

theorem firstN_congr {f g : Nat → Int} : ∀ (n c : Nat), (∀ m, c ≤ m → m < c + n → f m = g m) → firstN f c n = firstN g c n
  | 0, _, _ => rfl
  | n + 1, c, h => by
    rw [firstN, firstN, h c (Nat.le_refl _) (by omega), firstN_congr n (c + 1) fun m h1 h2 => h m (by omega) (by omega)]
theorem firstN_zero {f : Nat → Int} : ∀ (n c : Nat), firstN f c n = 0 ↔ ∀ m, c ≤ m → m < c + n → f m = 0
  | 0, c => ⟨fun _ m h1 h2 => absurd h2 (by omega), fun _ => rfl⟩
  | n + 1, c => by
    rw [firstN]
    by_cases h : f c = 0
    · simp only [h, ne_eq, not_true_eq_false, if_false]
      rw [firstN_zero n (c + 1)]
      exact ⟨fun g m h1 h2 => by
        rcases Nat.eq_or_lt_of_le h1 with rfl | h3
        · exact h
        · exact g m h3 (by omega), fun g m h1 h2 => g m (by omega) (by omega)⟩
    · simp only [ne_eq, h, not_false_eq_true, if_true, false_iff]
      exact fun g => h (g c (Nat.le_refl _) (by omega))
/-- One round more. -/
theorem firstN_snoc {f : Nat → Int} : ∀ (n c : Nat), firstN f c (n + 1) = if firstN f c n ≠ 0 then firstN f c n else f (c + n)
  | 0, c => by
    rw [firstN, firstN]
    simp only [ne_eq, not_true_eq_false, if_false, Nat.add_zero]
    by_cases h : f c = 0 <;> simp [h, firstN]
  | n + 1, c => by
    rw [firstN, firstN_snoc n (c + 1), firstN]
    by_cases h : f c = 0
    · simp only [h, ne_eq, not_true_eq_false, if_false]
      rw [show c + 1 + n = c + (n + 1) by omega]
    · simp [h]
theorem firstN_const {f : Nat → Int} (h : ∀ m, f m = f 0) : ∀ (n c : Nat), firstN f c n = if n = 0 then 0 else f 0
  | 0, c => rfl
  | n + 1, c => by
    rw [firstN, firstN_const h n (c + 1), h c]
    by_cases g : f 0 = 0 <;> simp [g]
theorem firstN_neg {f : Nat → Int} : ∀ (n c : Nat), firstN (fun m => - f m) c n = - firstN f c n
  | 0, _ => rfl
  | n + 1, c => by
    rw [firstN, firstN, firstN_neg n (c + 1)]
    by_cases g : f c = 0
    · simp [g]
    · have : ¬ (- f c = 0) := by omega
      simp [g]
theorem firstN_bd {f : Nat → Int} (h : ∀ m, -1 ≤ f m ∧ f m ≤ 1) : ∀ (n c : Nat), -1 ≤ firstN f c n ∧ firstN f c n ≤ 1
  | 0, _ => by rw [firstN]; decide
  | n + 1, c => by
    rw [firstN]
    split
    · exact h c
    · exact firstN_bd h n (c + 1)

theorem cntS_nil (el : Nat → Nat → Int) (i k : Nat) : cntS el [] [] i k = el i k := by simp [cntS]
theorem cntS_cons (el : Nat → Nat → Int) (s t : Int) (ss ts : List Int) (i k : Nat) : cntS el (s :: ss) (t :: ts) i k =
    if firstN (fun c => cntS el ss ts (i + c * prN ss) (k + c * prN ts)) 0 (min s t).toNat ≠ 0 then firstN (fun c => cntS el ss ts (i + c * prN ss) (k + c * prN ts)) 0 (min s t).toNat else sgn s t := by rw [cntS]
/-- Cells without elements are all alike. -/
theorem cntS_void (el : Nat → Nat → Int) : ∀ (ss ts : List Int) (i k i' k' : Nat), ss.length = ts.length → NN ss → NN ts → prN ss = 0 → prN ts = 0 → cntS el ss ts i k = cntS el ss ts i' k'
  | [], [], _, _, _, _, _, _, _, h, _ => by simp [prN, pr] at h
  | [], _ :: _, _, _, _, _, hl, _, _, _, _ => by simp at hl
  | _ :: _, [], _, _, _, _, hl, _, _, _, _ => by simp at hl
  | s :: ss, t :: ts, i, k, i', k', hl, hN, hM, h1, h2 => by
    rw [prN_cons hN.head hN.tail] at h1
    rw [prN_cons hM.head hM.tail] at h2
    rw [cntS_cons, cntS_cons]
    have e : firstN (fun c => cntS el ss ts (i + c * prN ss) (k + c * prN ts)) 0 (min s t).toNat = firstN (fun c => cntS el ss ts (i' + c * prN ss) (k' + c * prN ts)) 0 (min s t).toNat := by
      refine firstN_congr _ _ fun m _ hm => ?_
      have hs0 : s.toNat ≠ 0 := by omega
      have ht0 : t.toNat ≠ 0 := by omega
      exact cntS_void el ss ts _ _ _ _ (by simpa using hl) hN.tail hM.tail ((Nat.mul_eq_zero.1 h1).resolve_left hs0) ((Nat.mul_eq_zero.1 h2).resolve_left ht0)
    rw [e]
/-- What decides where cells have no elements: one pair. -/
theorem cntS_once (el : Nat → Nat → Int) (ss ts : List Int) (i k n : Nat) (hl : ss.length = ts.length) (hN : NN ss) (hM : NN ts) (h1 : prN ss = 0) (h2 : prN ts = 0) :
    firstN (fun c => cntS el ss ts (i + c * prN ss) (k + c * prN ts)) 0 n = firstN (fun c => cntS el ss ts (i + c * prN ss) (k + c * prN ts)) 0 (min n 1) := by
  rw [firstN_const (fun m => cntS_void el ss ts _ _ _ _ hl hN hM h1 h2), firstN_const (fun m => cntS_void el ss ts _ _ _ _ hl hN hM h1 h2)]
  by_cases h : n = 0
  · subst h; rfl
  · rw [if_neg h, if_neg (by omega)]
theorem cntS_congr {el el2 : Nat → Nat → Int} : ∀ (ss ts : List Int) (i k : Nat), ss.length = ts.length → NN ss → NN ts → (∀ a b, a < i + prN ss → b < k + prN ts → i ≤ a → k ≤ b → el a b = el2 a b) → cntS el ss ts i k = cntS el2 ss ts i k
  | [], [], i, k, _, _, _, h => by
    rw [cntS_nil, cntS_nil]
    have e : prN [] = 1 := by simp [prN, pr]
    exact h i k (by rw [e]; omega) (by rw [e]; omega) (Nat.le_refl _) (Nat.le_refl _)
  | [], _ :: _, _, _, hl, _, _, _ => by simp at hl
  | _ :: _, [], _, _, hl, _, _, _ => by simp at hl
  | s :: ss, t :: ts, i, k, hl, hN, hM, h => by
    rw [cntS_cons, cntS_cons]
    rw [prN_cons hN.head hN.tail, prN_cons hM.head hM.tail] at h
    have e : firstN (fun c => cntS el ss ts (i + c * prN ss) (k + c * prN ts)) 0 (min s t).toNat = firstN (fun c => cntS el2 ss ts (i + c * prN ss) (k + c * prN ts)) 0 (min s t).toNat := by
      refine firstN_congr _ _ fun m _ hm => ?_
      refine cntS_congr ss ts _ _ (by simpa using hl) hN.tail hM.tail fun a b h1 h2 h3 h4 => h a b ?_ ?_ (by omega) (by omega)
      · have h5 : (m + 1) * prN ss ≤ s.toNat * prN ss := Nat.mul_le_mul_right _ (by omega)
        rw [Nat.succ_mul] at h5; omega
      · have h5 : (m + 1) * prN ts ≤ t.toNat * prN ts := Nat.mul_le_mul_right _ (by omega)
        rw [Nat.succ_mul] at h5; omega
    rw [e]
theorem cntS_bd {el : Nat → Nat → Int} (h : ∀ a b, -1 ≤ el a b ∧ el a b ≤ 1) : ∀ (ss ts : List Int) (i k : Nat), -1 ≤ cntS el ss ts i k ∧ cntS el ss ts i k ≤ 1
  | s :: ss, t :: ts, i, k => by
    rw [cntS_cons]
    split
    · exact firstN_bd (fun m => cntS_bd h ss ts _ _) _ _
    · exact sgn_bd s t
  | [], [], i, k => by simp only [cntS]; exact h _ _
  | [], _ :: _, i, k => by simp only [cntS]; exact h _ _
  | _ :: _, [], i, k => by simp only [cntS]; exact h _ _
theorem shpS_bd : ∀ (s t : List Int), -1 ≤ shpS s t ∧ shpS s t ≤ 1
  | s :: ss, t :: ts => by
    rw [shpS]; split
    · exact sgn_bd _ _
    · exact shpS_bd ss ts
  | [], [] => by simp [shpS]
  | [], _ :: _ => by simp [shpS]
  | _ :: _, [] => by simp [shpS]
theorem cmpF_bd : ∀ (n : Nat) (A B : Arr), -1 ≤ cmpF n A B ∧ cmpF n A B ≤ 1
  | 0, _, _ => by rw [cmpF]; decide
  | n + 1, A, B => by
    rw [cmpF_succ]
    split
    · exact sgn_bd _ _
    split
    · exact sgn_bd _ _
    split
    · refine cntS_bd (fun a b => ?_) _ _ _ _
      unfold elS
      split
      · exact cmpF_bd n _ _
      · exact sgn_bd _ _
    · exact shpS_bd _ _
end Go.Proofs.Ytkjbccodahleoaa.Shape

namespace Go.Proofs.Ytkjbccodahleoaa.Shape
open Go.RowKit
set_option linter.unusedVariables false

/-! ### Exchanging -/
theorem cntS_neg {el el2 : Nat → Nat → Int} (h : ∀ i k, el2 k i = - el i k) : ∀ (ss ts : List Int) (i k : Nat), ss.length = ts.length → cntS el2 ts ss k i = - cntS el ss ts i k
  | [], [], i, k, _ => by rw [cntS_nil, cntS_nil]; exact h i k
  | [], _ :: _, _, _, hl => by simp at hl
  | _ :: _, [], _, _, hl => by simp at hl
  | s :: ss, t :: ts, i, k, hl => by
    rw [cntS_cons, cntS_cons]
    have e : firstN (fun c => cntS el2 ts ss (k + c * prN ts) (i + c * prN ss)) 0 (min t s).toNat = - firstN (fun c => cntS el ss ts (i + c * prN ss) (k + c * prN ts)) 0 (min s t).toNat := by
      rw [← firstN_neg, Int.min_comm t s]
      exact firstN_congr _ _ fun m _ _ => cntS_neg h ss ts _ _ (by simpa using hl)
    rw [e]
    generalize firstN (fun c => cntS el ss ts (i + c * prN ss) (k + c * prN ts)) 0 (min s t).toNat = x
    by_cases hx : x = 0
    · subst hx
      simp only [Int.neg_zero, ne_eq, not_true_eq_false, if_false]
      exact sgn_neg s t
    · have : ¬ (- x = 0) := by omega
      simp [hx]
theorem shpS_neg : ∀ (s t : List Int), s.length = t.length → shpS t s = - shpS s t
  | [], [], _ => by simp [shpS]
  | [], _ :: _, hl => by simp at hl
  | _ :: _, [], hl => by simp at hl
  | s :: ss, t :: ts, hl => by
    rw [shpS, shpS]
    by_cases h : s = t
    · subst h; simp only [ne_eq, not_true_eq_false, if_false]; exact shpS_neg ss ts (by simpa using hl)
    · rw [if_pos h, if_pos (Ne.symm h)]; exact sgn_neg s t
theorem cmpF_neg : ∀ (n : Nat) (A B : Arr), cmpF n B A = - cmpF n A B
  | 0, _, _ => by rw [cmpF, cmpF]; rfl
  | n + 1, A, B => by
    rw [cmpF_succ, cmpF_succ]
    by_cases hk : A.kind = B.kind
    · rw [if_neg (show ¬ B.kind ≠ A.kind from fun h => h hk.symm), if_neg (show ¬ A.kind ≠ B.kind from fun h => h hk)]
      by_cases hl : A.shape.length = B.shape.length
      · rw [if_neg (show ¬ B.shape.length ≠ A.shape.length from fun h => h hl.symm), if_neg (show ¬ A.shape.length ≠ B.shape.length from fun h => h hl)]
        have e : cntS (elS n B A) B.shape A.shape 0 0 = - cntS (elS n A B) A.shape B.shape 0 0 := by
          refine cntS_neg (fun i k => ?_) _ _ _ _ hl
          unfold elS
          rw [hk]
          split
          · exact cmpF_neg n _ _
          · exact sgn_neg _ _
        rw [e]
        generalize cntS (elS n A B) A.shape B.shape 0 0 = x
        by_cases hx : x = 0
        · subst hx
          simp only [Int.neg_zero, ne_eq, not_true_eq_false, if_false]
          exact shpS_neg _ _ hl
        · have : ¬ (- x = 0) := by omega
          simp [hx]
      · rw [if_pos (show B.shape.length ≠ A.shape.length from fun h => hl h.symm), if_pos (show A.shape.length ≠ B.shape.length from hl)]; exact sgn_neg _ _
    · rw [if_pos (show B.kind ≠ A.kind from fun h => hk h.symm), if_pos (show A.kind ≠ B.kind from hk)]; exact sgn_neg _ _

/-! ### Transitivity -/
/-- What three comparisons of x with y, y with z, and x with z keep. -/
def Tr (x y z : Int) : Prop := x ≤ 0 → y ≤ 0 → z ≤ 0 ∧ (z = 0 ↔ x = 0 ∧ y = 0)
theorem sgn_tr (a b c : Int) : Tr (sgn a b) (sgn b c) (sgn a c) := by
  intro h1 h2
  have g1 := sgn_le.1 h1
  have g2 := sgn_le.1 h2
  refine ⟨sgn_le.2 (by omega), ?_⟩
  rw [sgn_zero, sgn_zero, sgn_zero]
  omega
/-- The first of two that is not 0. -/
def lex (x x' : Int) : Int := if x ≠ 0 then x else x'
theorem tr_lex {x y z x' y' z' : Int} (h : Tr x y z) (h' : x = 0 → y = 0 → Tr x' y' z') : Tr (lex x x') (lex y y') (lex z z') := by
  intro h1 h2
  unfold lex at h1 h2 ⊢
  by_cases hx : x = 0
  · by_cases hy : y = 0
    · obtain ⟨h3, h4⟩ := h (by omega) (by omega)
      have hz := h4.2 ⟨hx, hy⟩
      simp only [hx, hy, hz, ne_eq, not_true_eq_false, if_false] at h1 h2 ⊢
      exact h' hx hy h1 h2
    · simp only [ne_eq, hy, not_false_eq_true, if_true] at h2 ⊢
      obtain ⟨h3, h4⟩ := h (by omega) h2
      have hz : ¬ z = 0 := fun g => hy (h4.1 g).2
      simp only [hz, not_false_eq_true, if_true]
      exact ⟨h3, fun g => g.elim, fun g => g.2.elim⟩
  · simp only [ne_eq, hx, not_false_eq_true, if_true] at h1 ⊢
    have hy2 : y ≤ 0 := by
      by_cases hy : y = 0
      · omega
      · simpa [hy] using h2
    obtain ⟨h3, h4⟩ := h h1 hy2
    have hz : ¬ z = 0 := fun g => hx (h4.1 g).1
    simp only [hz, not_false_eq_true, if_true]
    exact ⟨h3, fun g => g.elim, fun g => g.1.elim⟩
/-- Two lists by their elements' comparisons f c, f (c + 1), .., then by their lengths. -/
def lx (f : Nat → Int) : Nat → Nat → Nat → Int
  | _, 0, 0 => 0
  | _, 0, _ + 1 => -1
  | _, _ + 1, 0 => 1
  | c, s + 1, t + 1 => lex (f c) (lx f (c + 1) s t)
theorem lx_eq (f : Nat → Int) : ∀ (s t c : Nat), lex (firstN f c (min s t)) (sgn (s : Int) (t : Int)) = lx f c s t
  | 0, 0, c => by simp [lx, lex, firstN, sgn]
  | 0, t + 1, c => by
    rw [Nat.zero_min, firstN, lx]
    simp only [lex, ne_eq, not_true_eq_false, if_false, sgn]
    rw [if_pos (by omega)]
  | s + 1, 0, c => by
    rw [Nat.min_zero, firstN, lx]
    simp only [lex, ne_eq, not_true_eq_false, if_false, sgn]
    rw [if_neg (by omega), if_pos (by omega)]
  | s + 1, t + 1, c => by
    have e : min (s + 1) (t + 1) = min s t + 1 := by omega
    have e2 : sgn ((s + 1 : Nat) : Int) ((t + 1 : Nat) : Int) = sgn (s : Int) (t : Int) := by
      unfold sgn
      by_cases h1 : (s : Int) < t
      · rw [if_pos (by omega), if_pos h1]
      · rw [if_neg (by omega), if_neg h1]
        by_cases h2 : (t : Int) < s
        · rw [if_pos (by omega), if_pos h2]
        · rw [if_neg (by omega), if_neg h2]
    rw [e, firstN, e2, lx, ← lx_eq f s t (c + 1)]
    by_cases h : f c = 0
    · simp [lex, h]
    · simp [lex, h]
theorem lx_tr {f g h : Nat → Int} (H : ∀ m, Tr (f m) (g m) (h m)) : ∀ (s t u c : Nat), Tr (lx f c s t) (lx g c t u) (lx h c s u)
  | 0, 0, 0, c => by simp [lx, Tr]
  | 0, 0, u + 1, c => by simp [lx, Tr]
  | 0, t + 1, 0, c => by simp [lx, Tr]
  | 0, t + 1, u + 1, c => by intro h1 h2; simp [lx]
  | s + 1, 0, u, c => by intro h1; simp [lx] at h1
  | s + 1, t + 1, 0, c => by intro h1 h2; simp [lx] at h2
  | s + 1, t + 1, u + 1, c => by
    rw [lx, lx, lx]
    exact tr_lex (H c) fun _ _ => lx_tr H s t u (c + 1)
theorem cntS_lx (el : Nat → Nat → Int) (s t : Int) (ss ts : List Int) (i k : Nat) (hs : 0 ≤ s) (ht : 0 ≤ t) : cntS el (s :: ss) (t :: ts) i k = lx (fun c => cntS el ss ts (i + c * prN ss) (k + c * prN ts)) 0 s.toNat t.toNat := by
  rw [cntS_cons, ← lx_eq]
  have e : (min s t).toNat = min s.toNat t.toNat := by omega
  rw [e, show ((s.toNat : Nat) : Int) = s by omega, show ((t.toNat : Nat) : Int) = t by omega]
  rfl
theorem cntS_tr {f g h : Nat → Nat → Int} (H : ∀ i k m, Tr (f i k) (g k m) (h i m)) : ∀ (ss ts us : List Int) (i k m : Nat), ss.length = ts.length → ts.length = us.length → NN ss → NN ts → NN us → Tr (cntS f ss ts i k) (cntS g ts us k m) (cntS h ss us i m)
  | [], [], [], i, k, m, _, _, _, _, _ => by rw [cntS_nil, cntS_nil, cntS_nil]; exact H i k m
  | [], _ :: _, _, _, _, _, hl, _, _, _, _ => by simp at hl
  | [], [], _ :: _, _, _, _, _, hl, _, _, _ => by simp at hl
  | _ :: _, [], _, _, _, _, hl, _, _, _, _ => by simp at hl
  | _ :: _, _ :: _, [], _, _, _, _, hl, _, _, _ => by simp at hl
  | s :: ss, t :: ts, u :: us, i, k, m, h1, h2, n1, n2, n3 => by
    rw [cntS_lx _ _ _ _ _ _ _ n1.head n2.head, cntS_lx _ _ _ _ _ _ _ n2.head n3.head, cntS_lx _ _ _ _ _ _ _ n1.head n3.head]
    exact lx_tr (fun c => cntS_tr H ss ts us _ _ _ (by simpa using h1) (by simpa using h2) n1.tail n2.tail n3.tail) _ _ _ _
theorem shpS_lex (s t : Int) (ss ts : List Int) : shpS (s :: ss) (t :: ts) = lex (sgn s t) (shpS ss ts) := by
  rw [shpS, lex]
  by_cases h : s = t
  · subst h; simp [sgn]
  · rw [if_pos h, if_pos (fun g => h (sgn_zero.1 g))]
theorem shpS_tr : ∀ (s t u : List Int), s.length = t.length → t.length = u.length → Tr (shpS s t) (shpS t u) (shpS s u)
  | [], [], [], _, _ => by simp [shpS, Tr]
  | [], _ :: _, _, hl, _ => by simp at hl
  | [], [], _ :: _, _, hl => by simp at hl
  | _ :: _, [], _, hl, _ => by simp at hl
  | _ :: _, _ :: _, [], _, hl => by simp at hl
  | s :: ss, t :: ts, u :: us, h1, h2 => by
    rw [shpS_lex, shpS_lex, shpS_lex]
    exact tr_lex (sgn_tr s t u) fun _ _ => shpS_tr ss ts us (by simpa using h1) (by simpa using h2)
/-- Arrays whose dimensions are no less than 0, and their items' too. -/
def NNA : Nat → Arr → Prop
  | 0, _ => True
  | n + 1, A => NN A.shape ∧ ∀ B ∈ A.items, NNA n B
theorem cmpF_lex (n : Nat) (A B : Arr) : cmpF (n + 1) A B = lex (sgn A.kind B.kind) (lex (sgn A.shape.length B.shape.length) (if A.kind = B.kind ∧ A.shape.length = B.shape.length then lex (cntS (elS n A B) A.shape B.shape 0 0) (shpS A.shape B.shape) else 0)) := by
  rw [cmpF_succ]
  by_cases hk : A.kind = B.kind
  · have e1 : sgn A.kind B.kind = 0 := sgn_zero.2 hk
    rw [if_neg (show ¬ A.kind ≠ B.kind from fun h => h hk), e1]
    by_cases hl : A.shape.length = B.shape.length
    · have e2 : sgn (A.shape.length : Int) B.shape.length = 0 := sgn_zero.2 (by rw [hl])
      rw [if_neg (show ¬ A.shape.length ≠ B.shape.length from fun h => h hl), e2, if_pos (show A.kind = B.kind ∧ A.shape.length = B.shape.length from ⟨hk, hl⟩)]
      simp [lex]
    · have e2 : sgn (A.shape.length : Int) B.shape.length ≠ 0 := fun h => hl (by have := sgn_zero.1 h; omega)
      rw [if_pos (show A.shape.length ≠ B.shape.length from hl)]
      simp [lex, e2]
  · have e1 : sgn A.kind B.kind ≠ 0 := fun h => hk (sgn_zero.1 h)
    rw [if_pos (show A.kind ≠ B.kind from hk)]
    simp [lex, e1]
theorem nna_arr0 : ∀ n, NNA n arr0
  | 0 => trivial
  | n + 1 => ⟨fun x hx => by simp [arr0, Arr.shape] at hx, fun B hB => by simp [arr0, Arr.items] at hB⟩
theorem nna_item {n : Nat} {A : Arr} (h : NNA (n + 1) A) (i : Nat) : NNA n (A.items.getD i arr0) := by
  rw [List.getD_eq_getElem?_getD]
  cases hx : A.items[i]? with
  | none => exact nna_arr0 n
  | some B => exact h.2 B (List.mem_of_getElem? hx)
theorem cmpF_tr : ∀ (n : Nat) (A B C : Arr), NNA n A → NNA n B → NNA n C → Tr (cmpF n A B) (cmpF n B C) (cmpF n A C)
  | 0, A, B, C, _, _, _ => by simp [cmpF, Tr]
  | n + 1, A, B, C, hA, hB, hC => by
    rw [cmpF_lex, cmpF_lex, cmpF_lex]
    refine tr_lex (sgn_tr _ _ _) fun h1 h2 => tr_lex (sgn_tr _ _ _) fun h3 h4 => ?_
    have k1 := sgn_zero.1 h1
    have k2 := sgn_zero.1 h2
    have l1 : A.shape.length = B.shape.length := by have := sgn_zero.1 h3; omega
    have l2 : B.shape.length = C.shape.length := by have := sgn_zero.1 h4; omega
    rw [if_pos ⟨k1, l1⟩, if_pos ⟨k2, l2⟩, if_pos ⟨k1.trans k2, l1.trans l2⟩]
    refine tr_lex (cntS_tr (fun i k m => ?_) _ _ _ _ _ _ l1 l2 hA.1 hB.1 hC.1) fun _ _ => shpS_tr _ _ _ l1 l2
    unfold elS
    rw [k1, k2]
    split
    · exact cmpF_tr n _ _ _ (nna_item hA i) (nna_item hB k) (nna_item hC m)
    · exact sgn_tr _ _ _
end Go.Proofs.Ytkjbccodahleoaa.Shape
