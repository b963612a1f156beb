/-
  Layer 9: the program's Unquote, Rune and ShowRune.
-/
import Derived.Test.YtmnomkcgkjccgaaLitP8
import Derived.Laws.Cover4
namespace Go.Proofs.Ytmnomkcgkjccgaa.Lit
open Go.RowKit
set_option linter.unusedVariables false
set_option linter.unusedSimpArgs false

def rnF (s : ByteArray) : Nat → Nat → List Int
  | 0, _ => []
  | b + 1, i => if i < s.size then ((Utf8.decode s i).1 : Int) :: rnF s b (i + (Utf8.decode s i).2) else []
/-- The code points of s. -/
def rn (s : ByteArray) : List Int := rnF s s.size 0
theorem rnF_eq (s : ByteArray) : ∀ (b i : Nat) (acc : Array Value), Conv.runesFrom s b i acc = acc ++ ((rnF s b i).map (Value.int .i32)).toArray
  | 0, _, acc => by simp [Conv.runesFrom, rnF]
  | b + 1, i, acc => by
    unfold Conv.runesFrom rnF
    split
    · show Conv.runesFrom s b (i + (Utf8.decode s i).2) (acc.push (.int .i32 (Int.ofNat (Utf8.decode s i).1))) = _
      rw [rnF_eq s b]; simp
    · simp
theorem rn_eq (s : ByteArray) : Conv.runesFrom s s.size 0 #[] = ((rn s).map (Value.int .i32)).toArray := by rw [rnF_eq, rn]; simp
theorem decode_bd (s : ByteArray) (i : Nat) : (Utf8.decode s i).1 < 2097152 := by
  have h : ∀ k, (s.get! k).toNat < 256 := fun k => (s.get! k).toNat_lt
  have h0 := h (i + 0)
  have h1 := h (i + 1)
  have h2 := h (i + 2)
  have h3 := h (i + 3)
  unfold Utf8.decode Utf8.runeError
  simp only
  repeat' split
  all_goals simp only
  all_goals omega
theorem rnF_bd (s : ByteArray) : ∀ (b i : Nat), ∀ x ∈ rnF s b i, 0 ≤ x ∧ x < 2097152
  | 0, _, x, hx => by simp [rnF] at hx
  | b + 1, i, x, hx => by
    unfold rnF at hx
    split at hx
    · rcases List.mem_cons.1 hx with e | e
      · have := decode_bd s i
        rw [e]; omega
      · exact rnF_bd s b _ x e
    · simp at hx
theorem rn_bd {s : ByteArray} : ∀ x ∈ rn s, 0 ≤ x ∧ x < 2097152 := rnF_bd s _ _
theorem rnF_len (s : ByteArray) : ∀ (b i : Nat), (rnF s b i).length ≤ b
  | 0, _ => by simp [rnF]
  | b + 1, i => by
    unfold rnF
    split
    · have := rnF_len s b (i + (Utf8.decode s i).2)
      simp only [List.length_cons]; omega
    · simp
theorem rn_len (s : ByteArray) : (rn s).length ≤ s.size := rnF_len s _ _
/-- What the conversions of Text do. -/
theorem to_runes (s : ByteArray) (hs : s.size ≤ 1000000) (W : World) : ∃ cap W2, (convert 9 31 (.string s)).run Try.prog W = .ok (.slice (some ⟨W.heap.size, 0, none⟩) (rn s).length cap) W2 ∧
    Below W.heap.size W W2 ∧ W2.heap.size = W.heap.size + 1 ∧ ∀ j (h : j < (rn s).length), W2.cell? ⟨W.heap.size, j, none⟩ = some (.int .i32 (rn s)[j]) := by
  have hl := rn_len s
  have e := run_runes_of_string W 9 31 21 s Try.underlying9 Try.underlying31 Try.underlying21 (by rw [rn_eq]; simp; omega)
  rw [rn_eq] at e
  simp only [List.size_toArray, List.length_map] at e
  refine ⟨_, _, e, (Below.refl _ _).drew.alloc (Nat.le_refl _) _, by simp, fun j hj => ?_⟩
  rw [show W.heap.size = W.drew.heap.size from rfl, World.cell?_alloc_new]
  rw [Array.getElem?_append_left (by simp only [List.size_toArray, List.length_map]; exact hj), List.getElem?_toArray, List.getElem?_map, List.getElem?_eq_getElem hj]
  rfl
/-- The code points of one encoded character. -/
theorem rn_enc (c : Nat) (h : c < 55296 ∨ (57343 < c ∧ c ≤ 1114111)) : rn (tx (Lib.encodeRune (c : Int))) = [(c : Int)] := by
  have hp := (enc_len c).1
  have hd : Utf8.decode (tx (Lib.encodeRune (c : Int))) 0 = (c, (Lib.encodeRune (c : Int)).length) := by
    have e := decL_enc c h []
    rw [List.append_nil] at e
    rw [← Lib.decodeL_drop, List.drop_zero, tx_list, e]
  obtain ⟨f, hf⟩ : ∃ f, (Lib.encodeRune (c : Int)).length = f + 1 := ⟨(Lib.encodeRune (c : Int)).length - 1, by omega⟩
  have hz : (tx (Lib.encodeRune (c : Int))).size = f + 1 := by rw [tx_size, hf]
  rw [rn, hz, rnF, if_pos (by rw [hz]; omega), hd]
  simp only
  have : rnF (tx (Lib.encodeRune (c : Int))) f (0 + (Lib.encodeRune (c : Int)).length) = [] := by
    cases f with
    | zero => rfl
    | succ f => rw [rnF, if_neg (by rw [hz]; omega)]
  rw [this]

/-! ### What a character literal holds: one character -/
def One (q : Nat) (x : St) : Prop := (x.pl ≤ 4 → x.te = []) ∧ (5 ≤ x.pl → ∃ c : Nat, (c < 55296 ∨ (57343 < c ∧ c ≤ 1114111)) ∧ x.te = Lib.encodeRune (c : Int))
theorem add_one {c : Nat} {x y : St} (h : (Ot.st (x.add 39 c)) = .st y) (hx : x.te = []) (hc : c < 55296 ∨ (57343 < c ∧ c ≤ 1114111)) : One 39 y := by
  injection h with h
  subst h
  refine ⟨fun e => ?_, fun _ => ⟨c, hc, ?_⟩⟩
  · have : (x.add 39 c).pl = 5 := rfl
    omega
  · show x.te ++ _ = _
    rw [hx, List.nil_append]
theorem next_one {c : Nat} {en : Bool} {x y : St} (h : nextS 39 c en x = .st y) (hx : One 39 x) (hc : c < 55296 ∨ (57343 < c ∧ c ≤ 1114111)) : One 39 y := by
  unfold nextS at h
  split at h
  · cases h
  split at h
  · cases h
  split at h
  · rename_i h0
    injection h with h; subst h
    exact ⟨fun _ => hx.1 (by omega), fun e => absurd (show 5 ≤ 1 from e) (by decide)⟩
  split at h
  · rename_i h0
    unfold inS at h
    split at h
    · injection h with h; subst h
      exact ⟨fun _ => hx.1 (by omega), fun e => absurd (show 5 ≤ 2 from e) (by decide)⟩
    split at h
    · exact add_one h (hx.1 (by omega)) hc
    split at h
    · rename_i h2
      exact absurd h2 (by decide)
    · cases h
  split at h
  · rename_i h0
    unfold escS at h
    split at h
    · exact add_one h (hx.1 (by omega)) (by omega)
    split at h
    · exact add_one h (hx.1 (by omega)) (by omega)
    split at h
    · exact add_one h (hx.1 (by omega)) (by omega)
    split at h
    · exact add_one h (hx.1 (by omega)) hc
    split at h
    · injection h with h; subst h
      exact ⟨fun _ => hx.1 (by omega), fun e => absurd (show 5 ≤ 3 from e) (by decide)⟩
    · cases h
  split at h
  · rename_i h0
    unfold braS at h
    split at h
    · cases h
    · injection h with h; subst h
      exact ⟨fun _ => hx.1 (by omega), fun e => absurd (show 5 ≤ 4 from e) (by decide)⟩
  split at h
  · rename_i h0
    unfold digS at h
    cases hv : hexV c with
    | some v =>
      rw [hv] at h
      simp only at h
      split at h
      · injection h with h; subst h
        exact ⟨fun _ => hx.1 (by omega), fun e => absurd (show 5 ≤ x.pl from e) (by omega)⟩
      · cases h
    | none =>
      rw [hv] at h
      simp only at h
      split at h
      · rename_i h3
        have h4 := h3.2.2
        simp only [isChB, decide_eq_true_eq] at h4
        exact add_one h (hx.1 (by omega)) (by omega)
      · cases h
  split at h
  · rename_i h0
    injection h with h; subst h
    exact ⟨fun e => absurd (show 6 ≤ 4 from e) (by decide), fun _ => hx.2 (by omega)⟩
  · injection h with h; subst h; exact hx
theorem read_one {s : ByteArray} : ∀ (f i : Nat) (x : St) {t : List UInt8} {n : Nat}, One 39 x → readGo 39 s f i x = .ok t n → ∃ c : Nat, (c < 55296 ∨ (57343 < c ∧ c ≤ 1114111)) ∧ t = Lib.encodeRune (c : Int)
  | 0, i, x, t, n, hx, h => by rw [readGo] at h; cases h
  | f + 1, i, x, t, n, hx, h => by
    rw [readGo] at h
    split at h
    · rename_i hi
      obtain ⟨d0, d1, d2, d3⟩ := dec_pos s i hi
      cases hn : nextS 39 (Utf8.decode s i).1 (begB (s.data.toList.drop i) (Utf8.decode s i).1) x with
      | bad e => rw [hn] at h; cases h
      | st y =>
        have hy := next_one hn hx (by omega)
        rw [hn] at h
        simp only at h
        split at h
        · rename_i h6
          injection h with h1 h2
          subst h1
          exact hy.2 (by omega)
        · exact read_one f _ y hy h
    · cases h
theorem one39 {s : ByteArray} {t : List UInt8} {n : Nat} (h : readS 39 s = .ok t n) : ∃ c : Nat, (c < 55296 ∨ (57343 < c ∧ c ≤ 1114111)) ∧ t = Lib.encodeRune (c : Int) :=
  read_one _ _ _ ⟨fun _ => rfl, fun e => absurd e (by decide)⟩ h
theorem readGo_le {q : Nat} {s : ByteArray} : ∀ (f i : Nat) (x : St) {t : List UInt8} {n : Nat}, readGo q s f i x = .ok t n → n ≤ s.size
  | 0, i, x, t, n, h => by rw [readGo] at h; cases h
  | f + 1, i, x, t, n, h => by
    rw [readGo] at h
    split at h
    · cases hn : nextS q (Utf8.decode s i).1 (begB (s.data.toList.drop i) (Utf8.decode s i).1) x with
      | bad e => rw [hn] at h; cases h
      | st y =>
        rw [hn] at h
        simp only at h
        split at h
        · injection h with h1 h2
          omega
        · exact readGo_le f _ y h
    · cases h
theorem readGo_err {q : Nat} {s : ByteArray} : ∀ (f i : Nat) (x : St) {e : Int}, readGo q s f i x = .bad e → e = 3 ∨ e = 5
  | 0, i, x, e, h => by rw [readGo] at h; injection h with h; omega
  | f + 1, i, x, e, h => by
    rw [readGo] at h
    split at h
    · cases hn : nextS q (Utf8.decode s i).1 (begB (s.data.toList.drop i) (Utf8.decode s i).1) x with
      | bad e' => rw [hn] at h; injection h with h; subst h; exact nextS_bad hn
      | st y =>
        rw [hn] at h
        simp only at h
        split at h
        · cases h
        · exact readGo_err f _ y h
    · injection h with h; omega

set_option maxRecDepth 100000 in
set_option maxHeartbeats 4000000 in
theorem unquoteQ (s : ByteArray) (hs : s.size ≤ 200000) (w : World) :
    Calls Try.prog 14 #[.string s] w fun e w' => e = .returned (readS 34 s).val ∧ Below w.heap.size w w' := by
  have cR := readQ 34 (.inl rfl) s hs
  cases hr : readS 34 s with
  | bad e =>
    rw [hr] at cR
    simp only [Rd.val] at cR
    go_enter Try.func14, Try.ntmps14
    go_wp2_with (go_at_call 19; refine (cR _).mono ?_; rintro e1 w1 ⟨rfl, b1⟩)
    go_returns
    exact ⟨rfl, b1⟩
  | ok t n =>
    rw [hr] at cR
    simp only [Rd.val] at cR
    go_enter Try.func14, Try.ntmps14
    go_wp2_with (go_at_call 19; refine (cR _).mono ?_; rintro e1 w1 ⟨rfl, b1⟩)
    go_returns
    exact ⟨rfl, b1⟩
/-- What Rune returns. -/
def runeV (c : Nat) (n : Nat) : Value := .tuple #[.int .i32 (c : Int), .int .i64 (n : Int), .int .i64 0]
set_option maxRecDepth 100000 in
set_option maxHeartbeats 4000000 in
theorem runeB' (s : ByteArray) (hs : s.size ≤ 200000) (e : Int) (hr : readS 39 s = .bad e) (w : World) :
    Calls Try.prog 12 #[.string s] w fun e' w' => e' = .returned (.tuple #[.int .i32 0, .int .i64 0, .int .i64 e]) ∧ Below w.heap.size w w' := by
  have cR := readQ 39 (.inr rfl) s hs
  rw [hr] at cR
  simp only [Rd.val] at cR
  have he : (e == 0) = false := by
    have := readGo_err _ _ _ hr
    simp; omega
  go_enter Try.func12, Try.ntmps12
  go_wp2_with (go_at_call 19; refine (cR _).mono ?_; rintro e1 w1 ⟨rfl, b1⟩)
  go_returns
  exact ⟨rfl, b1⟩
set_option maxRecDepth 100000 in
set_option maxHeartbeats 4000000 in
theorem runeO (s : ByteArray) (hs : s.size ≤ 200000) (c n : Nat) (hc : c < 55296 ∨ (57343 < c ∧ c ≤ 1114111)) (hr : readS 39 s = .ok (Lib.encodeRune (c : Int)) n) (w : World) :
    Calls Try.prog 12 #[.string s] w fun e' w' => e' = .returned (runeV c n) ∧ Below w.heap.size w w' := by
  have cR := readQ 39 (.inr rfl) s hs
  rw [hr] at cR
  simp only [Rd.val] at cR
  have hz : (tx (Lib.encodeRune (c : Int))).size ≤ 1000000 := by rw [tx_size]; have := (enc_len c).2; omega
  have cv := to_runes (tx (Lib.encodeRune (c : Int))) hz
  rw [rn_enc c hc] at cv
  simp only [List.length_cons, List.length_nil] at cv
  have cv2 : ∀ W : World, ∃ cap W2, (convert 9 31 (.string ⟨(Lib.encodeRune (c : Int)).toArray⟩)).run Try.prog W = .ok (.slice (some ⟨W.heap.size, 0, none⟩) 1 cap) W2 ∧ Below W.heap.size W W2 ∧ W2.cell? ⟨W.heap.size, 0, none⟩ = some (.int .i32 (c : Int)) := fun W => by
    obtain ⟨cap, W2, k1, k2, k3, k4⟩ := cv W
    exact ⟨cap, W2, k1, k2, k4 0 (by simp)⟩
  clear cv hz
  go_enter Try.func12, Try.ntmps12
  go_wp2_with (go_at_call 19; refine (cR _).mono ?_; rintro e1 w1 ⟨rfl, b1⟩; obtain ⟨cap, W2, k1, k2, k3⟩ := cv2 w1)
  go_returns
  exact ⟨rfl, Below.then b1 k2⟩
def showRuneS (r : Int) : List UInt8 := if isChZ r then [39] ++ chW 39 r.toNat ++ [39] else []
set_option maxRecDepth 100000 in
set_option maxHeartbeats 4000000 in
theorem showRuneQ (r : Int) (w : World) :
    Calls Try.prog 9 #[.int .i32 r] w fun e' w' => e' = .returned (.string ⟨(showRuneS r).toArray⟩) ∧ Below w.heap.size w w' := by
  have cI := isCharQ r
  unfold showRuneS
  cases hi : isChZ r with
  | false =>
    rw [hi] at cI
    rw [if_neg (by decide)]
    go_enter Try.func9, Try.ntmps9
    go_wp2_with (go_at_call 18; refine (cI _).mono ?_; rintro e1 w1 ⟨rfl, rfl⟩)
    go_ret
    exact ⟨rfl, Below.refl _ _⟩
  | true =>
    rw [hi] at cI
    rw [if_pos rfl]
    obtain ⟨c, rfl⟩ : ∃ c : Nat, r = c := ⟨r.toNat, by simp only [isChZ, decide_eq_true_eq] at hi; omega⟩
    have cS := shortQ 39 c
    have hl := chW_len 39 c
    have a1 := fun w => run_string_add_sum (P := Try.prog) w ⟨#[39]⟩ ⟨(chW 39 c).toArray⟩ (by rw [fb1, tx_size]; omega)
    have a2 := fun w => run_string_add_sum (P := Try.prog) w (⟨#[39]⟩ ++ ⟨(chW 39 c).toArray⟩) ⟨#[39]⟩ (by rw [ByteArray.size_append, fb1, tx_size]; omega)
    have e : (⟨#[39]⟩ : ByteArray) ++ ⟨(chW 39 c).toArray⟩ ++ ⟨#[39]⟩ = ⟨([39] ++ chW 39 c ++ [39]).toArray⟩ := by
      have e1 := tx_app [39] (chW 39 c)
      have e2 := tx_app ([39] ++ chW 39 c) [39]
      rw [← e1] at e2
      exact e2
    rw [Int.toNat_natCast, ← e]
    clear e
    go_enter Try.func9, Try.ntmps9
    go_wp2_with (first
      | (go_at_call 18; refine (cI _).mono ?_; rintro e1 w1 ⟨rfl, rfl⟩)
      | (go_at_call 15; refine (cS _).mono ?_; rintro e2 w2 ⟨rfl, b2⟩))
    go_ret
    exact ⟨rfl, b2⟩
end Go.Proofs.Ytmnomkcgkjccgaa.Lit
