/-
  Layer 9: what was written in short forms is read back (mathematics).
-/
import Derived.Test.YtmnomkcgkjccgaaLitP9
namespace Go.Proofs.Ytmnomkcgkjccgaa.Lit
open Go.RowKit
set_option linter.unusedVariables false
set_option linter.unusedSimpArgs false

theorem readGo_fuel {q : Nat} {s : ByteArray} : ∀ (f g i : Nat) (x : St), s.size - i < f → s.size - i < g → readGo q s f i x = readGo q s g i x
  | 0, g, i, x, hf, hg => by omega
  | f + 1, g, i, x, hf, hg => by
    obtain ⟨g', rfl⟩ : ∃ g', g = g' + 1 := ⟨g - 1, by omega⟩
    rw [readGo, readGo]
    by_cases hi : i < s.size
    · rw [if_pos hi, if_pos hi]
      have hd := dec_pos s i hi
      cases hn : nextS q (Utf8.decode s i).1 (begB (s.data.toList.drop i) (Utf8.decode s i).1) x with
      | bad e => rfl
      | st y =>
        simp only
        by_cases h6 : y.pl = 6
        · rw [if_pos h6, if_pos h6]
        · rw [if_neg h6, if_neg h6]
          exact readGo_fuel f g' _ y (by omega) (by omega)
    · rw [if_neg hi, if_neg hi]
/-- What is read from a place on, in a state. -/
def rd (q : Nat) (s : ByteArray) (i : Nat) (x : St) : Rd := readGo q s (s.size + 1 - i) i x
def rdN (q : Nat) (s : ByteArray) (i z : Nat) : Ot → Rd
  | .bad e => .bad e
  | .st y => if y.pl = 6 then .ok y.te (i + 1) else rd q s (i + z) y
theorem drop_lt {s : ByteArray} {i : Nat} {u : UInt8} {r : List UInt8} (h : s.data.toList.drop i = u :: r) : i < s.size := by
  have := congrArg List.length h
  rw [List.length_drop, ← Lib.size_eq, List.length_cons] at this
  omega
theorem drop_more {s : ByteArray} {i : Nat} {a r : List UInt8} (h : s.data.toList.drop i = a ++ r) : s.data.toList.drop (i + a.length) = r := by
  rw [← List.drop_drop, h, List.drop_left]
theorem rd_step {q : Nat} {s : ByteArray} {i c : Nat} {x : St} {r : List UInt8} (hv : c < 55296 ∨ (57343 < c ∧ c ≤ 1114111)) (h : s.data.toList.drop i = Lib.encodeRune (c : Int) ++ r) :
    rd q s i x = rdN q s i (Lib.encodeRune (c : Int)).length (nextS q c true x) := by
  have hi : i < s.size := by
    have h1 := (enc_len c).1
    have h2 := congrArg List.length h
    rw [List.length_drop, ← Lib.size_eq, List.length_append] at h2
    omega
  have hd : Utf8.decode s i = (c, (Lib.encodeRune (c : Int)).length) := by
    rw [← Lib.decodeL_drop, h]; exact decL_enc c hv r
  have hb : begB (s.data.toList.drop i) c = true := by
    unfold begB
    rw [List.isPrefixOf_iff_prefix, h]
    exact List.prefix_append _ _
  have h1 := (enc_len c).1
  unfold rd
  obtain ⟨f, hf⟩ : ∃ f, s.size + 1 - i = f + 1 := ⟨s.size - i, by omega⟩
  rw [hf, readGo, if_pos hi, hd]
  simp only
  rw [hb]
  cases hn : nextS q c true x with
  | bad e => rfl
  | st y =>
    simp only [rdN]
    by_cases h6 : y.pl = 6
    · rw [if_pos h6, if_pos h6]
    · rw [if_neg h6, if_neg h6]
      have := (dec_pos s i hi).2.1
      rw [hd] at this
      exact readGo_fuel _ _ _ y (by simp only at this; omega) (by simp only at this; omega)
theorem rd_byte {q : Nat} {s : ByteArray} {i : Nat} {x : St} {u : UInt8} {r : List UInt8} (hu : u.toNat < 128) (h : s.data.toList.drop i = u :: r) :
    rd q s i x = rdN q s i 1 (nextS q u.toNat true x) ∧ s.data.toList.drop (i + 1) = r := by
  have e : Lib.encodeRune (u.toNat : Int) = [u] := by
    rw [enc_ascii _ hu]
    have : UInt8.ofNat u.toNat = u := by simp
    rw [this]
  have h2 : s.data.toList.drop i = Lib.encodeRune (u.toNat : Int) ++ r := by rw [e]; exact h
  refine ⟨?_, drop_more (a := [u]) h⟩
  have := rd_step (q := q) (x := x) (show u.toNat < 55296 ∨ _ from .inl (by omega)) h2
  rw [e] at this
  exact this

/-! ### The states -/
theorem n_back {q : Nat} (hq : q = 34 ∨ q = 39) (te : List UInt8) (co ct : Nat) : nextS q 92 true ⟨1, te, co, ct⟩ = .st ⟨2, te, co, ct⟩ := by
  rcases hq with rfl | rfl <;> rfl
def afterQ (q : Nat) : Nat := if q = 39 then 5 else 1
theorem n_esc {q : Nat} (hq : q = 34 ∨ q = 39) (c : Nat) (hc : c = 92 ∨ c = 39 ∨ c = 34) (te : List UInt8) (co ct : Nat) : nextS q c true ⟨2, te, co, ct⟩ = .st ⟨afterQ q, te ++ Lib.encodeRune (c : Int), co, ct⟩ := by
  rcases hq with rfl | rfl <;> rcases hc with rfl | rfl | rfl <;> rfl
theorem n_110 {q : Nat} (hq : q = 34 ∨ q = 39) (te : List UInt8) (co ct : Nat) : nextS q 110 true ⟨2, te, co, ct⟩ = .st ⟨afterQ q, te ++ Lib.encodeRune ((10 : Nat) : Int), co, ct⟩ := by
  rcases hq with rfl | rfl <;> rfl
theorem n_116 {q : Nat} (hq : q = 34 ∨ q = 39) (te : List UInt8) (co ct : Nat) : nextS q 116 true ⟨2, te, co, ct⟩ = .st ⟨afterQ q, te ++ Lib.encodeRune ((9 : Nat) : Int), co, ct⟩ := by
  rcases hq with rfl | rfl <;> rfl
theorem n_114 {q : Nat} (hq : q = 34 ∨ q = 39) (te : List UInt8) (co ct : Nat) : nextS q 114 true ⟨2, te, co, ct⟩ = .st ⟨afterQ q, te ++ Lib.encodeRune ((13 : Nat) : Int), co, ct⟩ := by
  rcases hq with rfl | rfl <;> rfl
theorem n_117 {q : Nat} (hq : q = 34 ∨ q = 39) (te : List UInt8) (co ct : Nat) : nextS q 117 true ⟨2, te, co, ct⟩ = .st ⟨3, te, co, ct⟩ := by
  rcases hq with rfl | rfl <;> rfl
theorem n_123 {q : Nat} (hq : q = 34 ∨ q = 39) (te : List UInt8) (co ct : Nat) : nextS q 123 true ⟨3, te, co, ct⟩ = .st ⟨4, te, 0, 0⟩ := by
  rcases hq with rfl | rfl <;> rfl
theorem n_dig {q : Nat} (hq : q = 34 ∨ q = 39) (d : Nat) (hd : d < 16) (te : List UInt8) (co ct : Nat) (hct : ct < 6) : nextS q (hx1 d).toNat true ⟨4, te, co, ct⟩ = .st ⟨4, te, co * 16 + d, ct + 1⟩ := by
  have hv : hexV (hx1 d).toNat = some d := by
    have : d = 0 ∨ d = 1 ∨ d = 2 ∨ d = 3 ∨ d = 4 ∨ d = 5 ∨ d = 6 ∨ d = 7 ∨ d = 8 ∨ d = 9 ∨ d = 10 ∨ d = 11 ∨ d = 12 ∨ d = 13 ∨ d = 14 ∨ d = 15 := by omega
    rcases this with rfl | rfl | rfl | rfl | rfl | rfl | rfl | rfl | rfl | rfl | rfl | rfl | rfl | rfl | rfl | rfl <;> rfl
  have hb : 48 ≤ (hx1 d).toNat := by
    have : d = 0 ∨ d = 1 ∨ d = 2 ∨ d = 3 ∨ d = 4 ∨ d = 5 ∨ d = 6 ∨ d = 7 ∨ d = 8 ∨ d = 9 ∨ d = 10 ∨ d = 11 ∨ d = 12 ∨ d = 13 ∨ d = 14 ∨ d = 15 := by omega
    rcases this with rfl | rfl | rfl | rfl | rfl | rfl | rfl | rfl | rfl | rfl | rfl | rfl | rfl | rfl | rfl | rfl <;> decide
  generalize (hx1 d).toNat = c at *
  unfold nextS
  rw [if_neg (by simp; omega), if_neg (by simp; omega), if_neg (show ¬ (4 : Nat) = 0 by decide), if_neg (show ¬ (4 : Nat) = 1 by decide), if_neg (show ¬ (4 : Nat) = 2 by decide), if_neg (show ¬ (4 : Nat) = 3 by decide), if_pos (show (4 : Nat) = 4 from rfl)]
  unfold digS
  rw [hv]
  simp only
  rw [if_pos hct]
theorem n_125 {q : Nat} (hq : q = 34 ∨ q = 39) (te : List UInt8) (co ct : Nat) (h0 : 0 < ct) (hc : isChB co = true) : nextS q 125 true ⟨4, te, co, ct⟩ = .st ⟨afterQ q, te ++ Lib.encodeRune (co : Int), co, ct⟩ := by
  have : nextS q 125 true ⟨4, te, co, ct⟩ = digS q 125 ⟨4, te, co, ct⟩ := by rcases hq with rfl | rfl <;> rfl
  rw [this]
  unfold digS
  rw [hexV_125]
  simp only
  rw [if_pos ⟨trivial, h0, hc⟩]
  rfl
theorem n_own {q : Nat} (hq : q = 34 ∨ q = 39) (c : Nat) (h1 : ¬ c < 32) (h2 : c ≠ q) (h3 : c ≠ 92) (te : List UInt8) (co ct : Nat) : nextS q c true ⟨1, te, co, ct⟩ = .st ⟨afterQ q, te ++ Lib.encodeRune (c : Int), co, ct⟩ := by
  unfold nextS
  rw [if_neg (by simp; omega), if_neg (by simp; omega), if_neg (show ¬ (1 : Nat) = 0 by decide), if_pos (show (1 : Nat) = 1 from rfl)]
  unfold inS
  rw [if_neg h3, if_pos h2]
  rfl
theorem n_open {q : Nat} (hq : q = 34 ∨ q = 39) : nextS q q true ⟨0, [], 0, 0⟩ = .st ⟨1, [], 0, 0⟩ := by
  rcases hq with rfl | rfl <;> rfl
theorem n_end34 (te : List UInt8) (co ct : Nat) : nextS 34 34 true ⟨1, te, co, ct⟩ = .st ⟨6, te, co, ct⟩ := rfl
theorem n_end39 (te : List UInt8) (co ct : Nat) : nextS 39 39 true ⟨5, te, co, ct⟩ = .st ⟨6, te, co, ct⟩ := rfl
theorem afterQ_6 {q : Nat} : afterQ q ≠ 6 := by unfold afterQ; split <;> decide
theorem rdN_on {q : Nat} {s : ByteArray} {i z : Nat} {y : St} (h : y.pl ≠ 6) : rdN q s i z (.st y) = rd q s (i + z) y := by rw [rdN, if_neg h]

/-- A character in its short form is read. -/
theorem short_read {q : Nat} (hq : q = 34 ∨ q = 39) {c : Nat} (hv : c < 55296 ∨ (57343 < c ∧ c ≤ 1114111)) {s : ByteArray} {i : Nat} {r : List UInt8} (h : s.data.toList.drop i = chW q c ++ r) (te : List UInt8) (co ct : Nat) :
    ∃ co' ct', rd q s i ⟨1, te, co, ct⟩ = rd q s (i + (chW q c).length) ⟨afterQ q, te ++ Lib.encodeRune (c : Int), co', ct'⟩ := by
  have esc : ∀ (u : UInt8) (hu : u.toNat < 128) (hS : chW q c = [92, u]) (hn : nextS q u.toNat true ⟨2, te, co, ct⟩ = .st ⟨afterQ q, te ++ Lib.encodeRune (c : Int), co, ct⟩),
      ∃ co' ct', rd q s i ⟨1, te, co, ct⟩ = rd q s (i + (chW q c).length) ⟨afterQ q, te ++ Lib.encodeRune (c : Int), co', ct'⟩ := fun u hu hS hn => by
    rw [hS] at h ⊢
    obtain ⟨e1, k1⟩ := rd_byte (q := q) (x := ⟨1, te, co, ct⟩) (u := 92) (by decide) h
    obtain ⟨e2, k2⟩ := rd_byte (q := q) (x := ⟨2, te, co, ct⟩) hu k1
    refine ⟨co, ct, ?_⟩
    rw [e1, show (92 : UInt8).toNat = 92 from rfl, n_back hq, rdN_on (by simp), e2, hn, rdN_on afterQ_6]
    rfl
  by_cases h1 : c = 10
  · subst h1; exact esc 110 (by decide) rfl (n_110 hq _ _ _)
  by_cases h2 : c = 9
  · subst h2; exact esc 116 (by decide) rfl (n_116 hq _ _ _)
  by_cases h3 : c = 13
  · subst h3; exact esc 114 (by decide) rfl (n_114 hq _ _ _)
  by_cases h0 : c = q ∨ c = 92
  · have hc3 : c = 92 ∨ c = 39 ∨ c = 34 := by omega
    have hb : (UInt8.ofNat c).toNat = c := ofNat_nat c (by omega)
    refine esc (UInt8.ofNat c) (by rw [hb]; omega) ?_ (by rw [hb]; exact n_esc hq c hc3 _ _ _)
    unfold chW
    rw [if_neg h1, if_neg h2, if_neg h3, if_pos h0, enc_ascii c (by omega)]
    rfl
  by_cases hc : c < 32 ∨ c = 127
  · have hS : chW q c = [92, 117, 123] ++ hexL c ++ [125] := by unfold chW; rw [if_neg h1, if_neg h2, if_neg h3, if_neg h0, if_pos hc]
    have hch : isChB c = true := by unfold isChB; rw [decide_eq_true_eq]; omega
    rw [hS] at h ⊢
    obtain ⟨e1, k1⟩ := rd_byte (q := q) (x := ⟨1, te, co, ct⟩) (u := 92) (by decide) h
    obtain ⟨e2, k2⟩ := rd_byte (q := q) (x := ⟨2, te, co, ct⟩) (u := 117) (by decide) k1
    obtain ⟨e3, k3⟩ := rd_byte (q := q) (x := ⟨3, te, co, ct⟩) (u := 123) (by decide) k2
    rw [e1, show (92 : UInt8).toNat = 92 from rfl, n_back hq, rdN_on (by simp), e2, show (117 : UInt8).toNat = 117 from rfl, n_117 hq, rdN_on (by simp), e3, show (123 : UInt8).toNat = 123 from rfl, n_123 hq, rdN_on (by simp)]
    unfold hexL at k3 ⊢
    by_cases h16 : c < 16
    · rw [if_pos h16] at k3 ⊢
      obtain ⟨e4, k4⟩ := rd_byte (q := q) (x := ⟨4, te, 0, 0⟩) (u := hx1 c) (hx1_bd c h16) k3
      obtain ⟨e5, k5⟩ := rd_byte (q := q) (x := ⟨4, te, 0 * 16 + c, 0 + 1⟩) (u := 125) (by decide) k4
      refine ⟨0 * 16 + c, 0 + 1, ?_⟩
      rw [e4, n_dig hq c h16 te 0 0 (by decide), rdN_on (show (4 : Nat) ≠ 6 by decide), e5, show (125 : UInt8).toNat = 125 from rfl, n_125 hq te (0 * 16 + c) (0 + 1) (by decide) (by rw [Nat.zero_mul, Nat.zero_add]; exact hch), rdN_on afterQ_6]
      rw [Nat.zero_mul, Nat.zero_add]
      rfl
    · rw [if_neg h16] at k3 ⊢
      obtain ⟨e4, k4⟩ := rd_byte (q := q) (x := ⟨4, te, 0, 0⟩) (u := hx1 (c / 16)) (hx1_bd _ (by omega)) k3
      obtain ⟨e5, k5⟩ := rd_byte (q := q) (x := ⟨4, te, 0 * 16 + c / 16, 0 + 1⟩) (u := hx1 (c % 16)) (hx1_bd _ (by omega)) k4
      obtain ⟨e6, k6⟩ := rd_byte (q := q) (x := ⟨4, te, (0 * 16 + c / 16) * 16 + c % 16, 0 + 1 + 1⟩) (u := 125) (by decide) k5
      have ec : (0 * 16 + c / 16) * 16 + c % 16 = c := by omega
      refine ⟨c, 0 + 1 + 1, ?_⟩
      rw [e4, n_dig hq (c / 16) (by omega) te 0 0 (by decide), rdN_on (show (4 : Nat) ≠ 6 by decide), e5, n_dig hq (c % 16) (by omega) te _ _ (by decide), rdN_on (show (4 : Nat) ≠ 6 by decide), e6, show (125 : UInt8).toNat = 125 from rfl, ec, n_125 hq te c (0 + 1 + 1) (by decide) hch, rdN_on afterQ_6]
      rfl
  · have hS : chW q c = Lib.encodeRune (c : Int) := by unfold chW; rw [if_neg h1, if_neg h2, if_neg h3, if_neg h0, if_neg hc]
    rw [hS] at h ⊢
    refine ⟨co, ct, ?_⟩
    rw [rd_step hv h, n_own hq c (by omega) (by omega) (by omega), rdN_on afterQ_6]

/-- Rune of what ShowRune wrote. -/
theorem show_back {c : Nat} (hv : c < 55296 ∨ (57343 < c ∧ c ≤ 1114111)) (s : ByteArray) (t : List UInt8) (h : s.data.toList = [39] ++ chW 39 c ++ [39] ++ t) :
    readS 39 s = .ok (Lib.encodeRune (c : Int)) (chW 39 c).length.succ.succ := by
  have h0 : s.data.toList.drop 0 = 39 :: (chW 39 c ++ ([39] ++ t)) := by rw [List.drop_zero, h]; simp
  obtain ⟨e1, k1⟩ := rd_byte (q := 39) (x := ⟨0, [], 0, 0⟩) (u := 39) (by decide) h0
  obtain ⟨co, ct, e2⟩ := short_read (.inr rfl) hv k1 [] 0 0
  have k2 := drop_more k1
  obtain ⟨e3, k3⟩ := rd_byte (q := 39) (x := ⟨afterQ 39, [] ++ Lib.encodeRune (c : Int), co, ct⟩) (u := 39) (by decide) k2
  have e0 : readS 39 s = rd 39 s 0 ⟨0, [], 0, 0⟩ := rfl
  rw [e0, e1, show (39 : UInt8).toNat = 39 from rfl, n_open (.inr rfl), rdN_on (by simp), e2, e3, show (39 : UInt8).toNat = 39 from rfl]
  have : nextS 39 39 true ⟨afterQ 39, [] ++ Lib.encodeRune (c : Int), co, ct⟩ = .st ⟨6, [] ++ Lib.encodeRune (c : Int), co, ct⟩ := rfl
  rw [this, rdN, if_pos rfl, List.nil_append]
  congr 1
  omega
/-- The characters of a text in their short forms are read. -/
theorem shorts_read : ∀ (l : List Nat) {s : ByteArray} {i : Nat} {r : List UInt8} (te : List UInt8) (co ct : Nat), (∀ c ∈ l, c < 55296 ∨ (57343 < c ∧ c ≤ 1114111)) → s.data.toList.drop i = l.flatMap (chW 34) ++ r →
    ∃ co' ct', rd 34 s i ⟨1, te, co, ct⟩ = rd 34 s (i + (l.flatMap (chW 34)).length) ⟨1, te ++ l.flatMap (fun (c : Nat) => Lib.encodeRune (c : Int)), co', ct'⟩
  | [], s, i, r, te, co, ct, hv, h => ⟨co, ct, by simp⟩
  | c :: l, s, i, r, te, co, ct, hv, h => by
    rw [List.flatMap_cons, List.append_assoc] at h
    obtain ⟨co1, ct1, e1⟩ := short_read (.inl rfl) (hv c (by simp)) h te co ct
    obtain ⟨co2, ct2, e2⟩ := shorts_read l (te ++ Lib.encodeRune (c : Int)) co1 ct1 (fun x hx => hv x (List.mem_cons_of_mem _ hx)) (drop_more h)
    refine ⟨co2, ct2, ?_⟩
    have ea : afterQ 34 = 1 := rfl
    rw [e1, ea, e2, List.flatMap_cons, List.flatMap_cons, List.append_assoc, List.length_append, Nat.add_assoc]
theorem quo_enc : ∀ (l : List Nat) {s : ByteArray} {f i : Nat}, (∀ c ∈ l, c < 55296 ∨ (57343 < c ∧ c ≤ 1114111)) → s.size ≤ i + f → s.data.toList.drop i = l.flatMap (fun (c : Nat) => Lib.encodeRune (c : Int)) → quoGo 34 s f i = l.flatMap (chW 34)
  | [], s, f, i, hv, hf, h => by
    refine quoGo_end ?_
    have := congrArg List.length h
    rw [List.length_drop, ← Lib.size_eq] at this
    simp at this
    omega
  | c :: l, s, f, i, hv, hf, h => by
    rw [List.flatMap_cons] at h
    have hp := (enc_len c).1
    have hi : i < s.size := by
      have h2 := congrArg List.length h
      rw [List.length_drop, ← Lib.size_eq, List.length_append] at h2
      omega
    obtain ⟨f', rfl⟩ : ∃ f', f = f' + 1 := ⟨f - 1, by omega⟩
    have hd : Utf8.decode s i = (c, (Lib.encodeRune (c : Int)).length) := by
      rw [← Lib.decodeL_drop, h]; exact decL_enc c (hv c (by simp)) _
    rw [quoGo, if_pos hi, hd, List.flatMap_cons]
    simp only
    rw [quo_enc l (fun x hx => hv x (List.mem_cons_of_mem _ hx)) (by omega) (drop_more h)]
/-- Unquote of what Quote wrote. -/
theorem quote_back (l : List Nat) (hv : ∀ c ∈ l, c < 55296 ∨ (57343 < c ∧ c ≤ 1114111)) (S s : ByteArray) (t : List UInt8) (hS : S.data.toList = l.flatMap (fun (c : Nat) => Lib.encodeRune (c : Int))) (h : s.data.toList = quoteS S ++ t) :
    readS 34 s = .ok S.data.toList (quoteS S).length := by
  have hq : quoteS S = [34] ++ l.flatMap (chW 34) ++ [34] := by
    unfold quoteS
    rw [quo_enc l hv (by omega) (by rw [List.drop_zero]; exact hS)]
  rw [hq] at h ⊢
  have h0 : s.data.toList.drop 0 = 34 :: (l.flatMap (chW 34) ++ ([34] ++ t)) := by rw [List.drop_zero, h]; simp
  obtain ⟨e1, k1⟩ := rd_byte (q := 34) (x := ⟨0, [], 0, 0⟩) (u := 34) (by decide) h0
  obtain ⟨co, ct, e2⟩ := shorts_read l [] 0 0 hv k1
  have k2 := drop_more k1
  obtain ⟨e3, k3⟩ := rd_byte (q := 34) (x := ⟨1, [] ++ l.flatMap (fun (c : Nat) => Lib.encodeRune (c : Int)), co, ct⟩) (u := 34) (by decide) k2
  have e0 : readS 34 s = rd 34 s 0 ⟨0, [], 0, 0⟩ := rfl
  rw [e0, e1, show (34 : UInt8).toNat = 34 from rfl, n_open (.inl rfl), rdN_on (by simp), e2, e3, show (34 : UInt8).toNat = 34 from rfl, n_end34, rdN, if_pos rfl, List.nil_append, hS]
  congr 1
  simp only [List.length_append, List.length_cons, List.length_nil]
  try omega
end Go.Proofs.Ytmnomkcgkjccgaa.Lit
