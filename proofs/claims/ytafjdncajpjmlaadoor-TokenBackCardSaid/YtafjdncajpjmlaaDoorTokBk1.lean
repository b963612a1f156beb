/-
  Layer 8: a token as it is written is read back.
-/
import Derived.Test.YtafjdncajpjmlaaDoorTokBk0
namespace Go.Proofs.YtafjdncajpjmlaaDoor.Tok
open Go.RowKit
set_option linter.unusedVariables false

/-- Nothing, or a blank. -/
def Gap (R : List UInt8) : Prop := R = [] ∨ ∃ r, R = 32 :: r
theorem Gap.no {R : List UInt8} (h : Gap R) {lo hi : Int} (hn : ¬ (lo ≤ 32 ∧ 32 ≤ hi)) : hdIn R lo hi = false := by
  rcases h with rfl | ⟨r, rfl⟩
  · rfl
  · exact decide_eq_false hn
theorem Gap.dig {R : List UInt8} (h : Gap R) : hdDig R = false := h.no (by decide)
theorem Gap.lett {R : List UInt8} (h : Gap R) : hdLet R = false := by unfold hdLet; rw [h.no (by decide), h.no (by decide)]; rfl
theorem Gap.LD {R : List UInt8} (h : Gap R) : hdLD R = false := by unfold hdLD; rw [h.lett, h.dig]; rfl
theorem arr_of (L : List UInt8) : (⟨L.toArray⟩ : ByteArray).data.toList = L := by simp
theorem toList_of (L : List UInt8) : (⟨L.toArray⟩ : ByteArray).toList = L := by rw [ByteArray.toList_eq]
theorem fls {b : Bool} (h : b = false) : ¬ b = true := by rw [h]; decide
theorem tokenS_sfx {s : ByteArray} {i : Nat} {L : List UInt8} (h : Sfx s i L) : tokenS s i = if hdIn L 95 95 = true then numS s i (i + 1) else if hdDig L = true then numS s i (i + 1) else if hdLet L = true then wordS s i (i + 1)
    else if hdIn L 39 39 = true then clitS s i (i + 1) else if hdIn L 34 34 = true then strS s i (i + 1) else if (hdIn L 10 10 || hdIn L 59 59) = true then .tok 6 0 ⟨#[]⟩ (i + 1) else symS s i := by
  unfold tokenS
  rw [h.inB, h.isDig, h.isLet, h.inB, h.inB, h.inB, h.inB]

/-! ### Numbers -/
theorem dg_dig (m : Nat) : ∀ c ∈ Num.dg m, 48 ≤ c.toNat ∧ c.toNat ≤ 57 := by
  induction m using Nat.strongRecOn with
  | ind m ih =>
    by_cases h : m < 10
    · rw [Num.dg_last h]
      intro c hc
      rw [List.mem_singleton] at hc
      subst hc
      rw [Num.dig_nat]; omega
    · rw [Num.dg_more h]
      intro c hc
      rcases List.mem_append.1 hc with q | q
      · exact ih (m / 10) (by omega) c q
      · rw [List.mem_singleton] at q
        subst q
        rw [Num.dig_nat]; omega
theorem numS_run {s : ByteArray} {i : Nat} {x : UInt8} {D R : List UInt8} {n : Int} (h : Sfx s i (x :: D ++ R)) (hD : ∀ c ∈ D, 48 ≤ c.toNat ∧ c.toNat ≤ 57) (hr : Num.rdS (x :: D) = (n, 0)) (hR : Gap R) : numS s i (i + 1) = .tok 1 n ⟨#[]⟩ (i + (x :: D).length) := by
  have h1 : Sfx s (i + 1) (D ++ R) := Sfx.next h
  have hm : manyTo (one (isDig s)) (s.size - (i + 1)) (i + 1) = i + 1 + D.length := many_sfx (fun i L => Sfx.isDig) D (i + 1) _ h1 (fun c hc L => by have := hD c hc; simp only [hdDig, hdIn, decide_eq_true_eq]; omega) hR.dig (by have := h1.len; rw [List.length_append] at this; omega)
  have e : i + 1 + D.length = i + (x :: D).length := by rw [List.length_cons]; omega
  have ha := Sfx.app (A := x :: D) h
  unfold numS
  rw [hm, e]
  unfold numAt
  rw [Sfx.cut (A := x :: D) h, arr_of, hr, if_neg]
  rw [ha.isLet, ha.inB, hR.lett, hR.no (by decide)]
  simp
theorem num_back {s : ByteArray} {i : Nat} {n : Int} {R : List UInt8} (hf : Num.fitsB n = true) (h : Sfx s i (Num.shL n ++ R)) (hR : Gap R) : tokenS s i = .tok 1 n ⟨#[]⟩ (i + (Num.shL n).length) := by
  have hr := Num.rdS_shL n
  rw [if_pos hf] at hr
  rw [tokenS_sfx h]
  by_cases hn : n < 0
  · rw [Num.shL_neg hn] at h hr ⊢
    rw [if_pos (by rfl)]
    exact numS_run h (dg_dig _) hr hR
  · rw [Num.shL_pos hn] at h hr ⊢
    have hd := dg_dig n.natAbs
    obtain ⟨c, r, e, hc⟩ := Num.dg_head n.natAbs
    rw [e] at h hr hd ⊢
    have h1 := hd c (by simp)
    rw [if_neg (by simp only [List.cons_append, hdIn, decide_eq_true_eq]; omega), if_pos (by simp only [List.cons_append, hdDig, hdIn, decide_eq_true_eq]; omega)]
    exact numS_run h (fun c hc => hd c (List.mem_cons_of_mem _ hc)) hr hR

/-! ### Words and symbols -/
theorem wordS_run {s : ByteArray} {i : Nat} {x : UInt8} {D R : List UInt8} (h : Sfx s i (x :: D ++ R)) (hD : ∀ c ∈ D, hdLD [c] = true) (hR : Gap R) : wordS s i (i + 1) = wordAt ⟨(x :: D).toArray⟩ i (i + (x :: D).length) := by
  have h1 : Sfx s (i + 1) (D ++ R) := Sfx.next h
  have hm : manyTo (one (isLD s)) (s.size - (i + 1)) (i + 1) = i + 1 + D.length := many_sfx (fun i L => Sfx.isLD) D (i + 1) _ h1 (fun c hc L => hD c hc) hR.LD (by have := h1.len; rw [List.length_append] at this; omega)
  have e : i + 1 + D.length = i + (x :: D).length := by rw [List.length_cons]; omega
  unfold wordS
  rw [hm, e, Sfx.cut (A := x :: D) h]
theorem Named.mem {t : ByteArray} (h : Named t) : ∀ c ∈ t.data.toList, lowC c ∨ digC c := by
  intro c hc
  obtain ⟨i, hi, rfl⟩ := List.getElem_of_mem hc
  exact h.all i (by rw [Lib.size_eq]; exact hi)
theorem name_back {s : ByteArray} {i : Nat} {t : ByteArray} {R : List UInt8} (hN : Named t) (h : Sfx s i (t.data.toList ++ R)) (hR : Gap R) : tokenS s i = .tok 4 0 t (i + t.data.toList.length) := by
  have hm := hN.mem
  have hp := hN.pos
  have hf : ∀ x D, t.data.toList = x :: D → lowC x := fun x D e => by
    have q := hN.first hp
    have e2 : t[0] = t.data.toList[0]'(by rw [← Lib.size_eq]; exact hp) := rfl
    rw [e2] at q
    simp only [e, List.getElem_cons_zero] at q
    exact q
  have hz := hN.small
  have hres := hN.free
  have hb := arr_list t
  rw [Lib.size_eq] at hp
  have hz2 := hz
  rw [ByteArray.toList_eq] at hres
  cases hl : t.data.toList with
  | nil => rw [hl] at hp; simp at hp
  | cons x D =>
    rw [hl] at h hm hb hres
    have hx := hf x D hl
    unfold lowC at hx
    rw [tokenS_sfx h, if_neg (by simp only [List.cons_append, hdIn, decide_eq_true_eq]; omega), if_neg (by simp only [List.cons_append, hdDig, hdIn, decide_eq_true_eq]; omega),
      if_pos (by simp only [List.cons_append, hdLet, hdIn, Bool.or_eq_true, decide_eq_true_eq]; omega)]
    rw [wordS_run h (fun c hc => by
      have := hm c (List.mem_cons_of_mem _ hc)
      unfold lowC digC at this
      simp only [hdLD, hdLet, hdDig, hdIn, Bool.or_eq_true, decide_eq_true_eq]
      omega) hR, hb]
    unfold wordAt
    have hu : ¬ upB t.toList = true := by
      rw [ByteArray.toList_eq, hl]
      intro q
      obtain ⟨c, c1, c2⟩ := List.any_eq_true.1 q
      have := hm c c1
      unfold lowC digC at this
      rw [decide_eq_true_eq] at c2
      omega
    rw [if_neg (by rw [ByteArray.toList_eq, hl, hres]; decide), if_neg hu, if_neg (by omega)]
def okSym (l : List UInt8) : Bool := match l with
  | [] => false
  | c :: r => if hdLet l then resB l && r.all (fun x => hdLD [x]) else
     !(hdIn l 95 95) && !(hdDig l) && !(hdIn l 39 39) && !(hdIn l 34 34) && !(hdIn l 10 10 || hdIn l 59 59) && (decide (r.length = 1) || (decide (r = []) && !(signB [c, 32] || resB [c, 32]))) && !(c == 32 || c == 9 || c == 13 || c == 35)
theorem okSym_all : (signWords ++ resWords).all okSym = true := by decide +kernel
theorem okSym_of {l : List UInt8} (h : (signB l || resB l) = true) : okSym l = true := by
  refine List.all_eq_true.1 okSym_all l ?_
  rw [Bool.or_eq_true] at h
  rw [List.mem_append]
  rcases h with h | h
  · obtain ⟨c, h1, h2⟩ := List.any_eq_true.1 h
    rw [eq_of_beq h2]; exact Or.inl h1
  · obtain ⟨c, h1, h2⟩ := List.any_eq_true.1 h
    rw [eq_of_beq h2]; exact Or.inr h1
theorem sym_back {s : ByteArray} {i : Nat} {t R : List UInt8} (hS : (signB t || resB t) = true) (h : Sfx s i (t ++ R)) (hR : Gap R) : tokenS s i = .tok 5 0 ⟨t.toArray⟩ (i + t.length) := by
  have hk := okSym_of hS
  cases t with
  | nil => cases hk
  | cons c r =>
    have hh : ∀ lo hi, hdIn (c :: r ++ R) lo hi = hdIn (c :: r) lo hi := fun _ _ => rfl
    rw [tokenS_sfx h, hh, hh, hh, hh, hh, show hdDig (c :: r ++ R) = hdDig (c :: r) from rfl, show hdLet (c :: r ++ R) = hdLet (c :: r) from rfl]
    simp only [okSym] at hk
    by_cases hl : hdLet (c :: r) = true
    · rw [if_pos hl, Bool.and_eq_true] at hk
      have hl2 := hl
      simp only [hdLet, hdIn, Bool.or_eq_true, decide_eq_true_eq] at hl2
      rw [if_neg (by simp only [hdIn, decide_eq_true_eq]; omega), if_neg (by simp only [hdDig, hdIn, decide_eq_true_eq]; omega), if_pos hl, wordS_run h (fun x hx => List.all_eq_true.1 hk.2 x hx) hR]
      unfold wordAt
      rw [toList_of, if_pos hk.1]
    · rw [if_neg hl] at hk
      simp only [Bool.and_eq_true, Bool.not_eq_true', Bool.or_eq_true, decide_eq_true_eq] at hk
      obtain ⟨⟨⟨⟨⟨⟨k1, k2⟩, k3⟩, k4⟩, k5⟩, k6⟩, k7⟩ := hk
      rw [if_neg (by rw [k1]; decide), if_neg (by rw [k2]; decide), if_neg hl, if_neg (by rw [k3]; decide), if_neg (by rw [k4]; decide), if_neg (by rw [k5]; decide)]
      unfold symS
      rcases k6 with k6 | ⟨k6, k8⟩
      · obtain ⟨d, rfl⟩ : ∃ d, r = [d] := by
          cases r with
          | nil => cases k6
          | cons d r' => cases r' with
            | nil => exact ⟨d, rfl⟩
            | cons _ _ => simp at k6
        have hc := Sfx.cut (A := [c, d]) h
        have hz := h.len
        simp only [List.length_append, List.length_cons, List.length_nil] at hc hz
        rw [hc, toList_of, if_pos ⟨by omega, hS⟩]
        rfl
      · subst k6
        have hc1 := Sfx.cut (A := [c]) h
        simp only [List.length_cons, List.length_nil] at hc1
        rw [if_neg, hc1, toList_of, if_pos hS]
        · rfl
        · rintro ⟨q1, q2⟩
          rcases hR with rfl | ⟨r, rfl⟩
          · have hz := h.len
            simp only [List.length_append, List.length_cons, List.length_nil] at hz
            omega
          · have hc := Sfx.cut (A := [c, 32]) (L := r) h
            simp only [List.length_cons, List.length_nil] at hc
            rw [hc, toList_of, k8] at q2
            cases q2

/-! ### Literals -/
theorem litGo_one {q c : Nat} (hc : okC c) : litW q (Utf8.encode (c : Int)) = Lib.encodeRune (q : Int) ++ chW q c ++ Lib.encodeRune (q : Int) := by
  have hd := bk_dec c hc []
  have he := bk_enc c hc
  rw [List.append_nil] at hd
  obtain ⟨b, r, hb, -⟩ := bk_head c hc
  have hz : (Utf8.encode (c : Int)).size = (Lib.encodeRune (c : Int)).length := by rw [he, Lib.size_eq, arr_of]
  have hpos : 0 < (Lib.encodeRune (c : Int)).length := by rw [hb]; simp
  have hdd : Utf8.decode (Utf8.encode (c : Int)) 0 = (c, (Utf8.encode (c : Int)).size) := by
    rw [hz, ← hd, he]; rfl
  rw [← hz] at hpos
  generalize Utf8.encode (c : Int) = s at hdd hpos ⊢
  have key : litGo q s (s.size + 1) 0 = chW q c := by
    obtain ⟨f, hf⟩ : ∃ f, s.size = f + 1 := ⟨s.size - 1, by omega⟩
    rw [litGo, if_pos hpos, hdd, hf]
    simp only
    rw [litGo, if_neg (by omega), List.append_nil]
  rw [litW, key]
theorem bk_rune (s : ByteArray) (i : Nat) : okC (Utf8.decode s i).1 := by
  have h : ∀ k, (s.get! k).toNat < 256 := fun k => (s.get! k).toNat_lt
  have h0 := h (i + 0)
  have h1 := h (i + 1)
  have h2 := h (i + 2)
  have h3 := h (i + 3)
  unfold okC
  unfold Utf8.decode Utf8.runeError Utf8.valid
  simp only
  repeat' split
  all_goals simp only [Bool.and_eq_true, Bool.or_eq_true, decide_eq_true_eq, ge_iff_le] at *
  all_goals omega
theorem char_back {s : ByteArray} {i c : Nat} {R : List UInt8} (hc : okC c) (h : Sfx s i (39 :: (chW 39 c ++ 39 :: R))) : tokenS s i = .tok 2 (c : Int) ⟨#[]⟩ (i + (39 :: (chW 39 c ++ [39])).length) := by
  obtain ⟨b, r, e, hb⟩ := chW_head 39 c (Or.inl rfl) hc
  have h1 := h.next
  have hx := charS_chW i (Or.inl rfl) hc h1
  have h2 := h1.app
  rw [tokenS_sfx h, if_neg (by exact fls rfl), if_neg (by exact fls rfl), if_neg (by exact fls rfl), if_pos (by rfl)]
  unfold clitS
  rw [if_neg (by rw [h1.inB, e]; simp only [List.cons_append, hdIn, decide_eq_true_eq]; omega), hx]
  rw [clitEnd, if_pos (by rw [h2.inB]; rfl)]
  congr 1
  simp only [List.length_cons, List.length_append, List.length_nil]
  omega
theorem strGo_run {s : ByteArray} {st : Nat} : ∀ (cs : List Nat) (i f : Nat) (acc : List UInt8) {R : List UInt8}, (∀ c ∈ cs, okC c) → Sfx s i (cs.flatMap (chW 34) ++ 34 :: R) → cs.length < f →
    strGo s st f i acc = .tok 3 0 ⟨(acc ++ cs.flatMap (fun c : Nat => Lib.encodeRune (c : Int))).toArray⟩ (i + (cs.flatMap (chW 34)).length + 1)
  | [], i, f, acc, R, hc, h, hf => by
    obtain ⟨g, rfl⟩ : ∃ g, f = g + 1 := ⟨f - 1, by simp at hf; omega⟩
    have h' : Sfx s i (34 :: R) := h
    rw [strGo, if_pos (by rw [h'.inB]; rfl)]
    simp
  | c :: cs, i, f, acc, R, hc, h, hf => by
    rw [List.length_cons] at hf
    obtain ⟨g, rfl⟩ : ∃ g, f = g + 1 := ⟨f - 1, by omega⟩
    have h' : Sfx s i (chW 34 c ++ (cs.flatMap (chW 34) ++ 34 :: R)) := by rw [List.flatMap_cons, List.append_assoc] at h; exact h
    obtain ⟨b, r, e, hb⟩ := chW_head 34 c (Or.inr rfl) (hc c (by simp))
    rw [strGo, if_neg (by rw [h'.inB, e]; simp only [List.cons_append, hdIn, decide_eq_true_eq]; omega), charS_chW st (Or.inr rfl) (hc c (by simp)) h']
    simp only
    rw [strGo_run cs _ g _ (fun x hx => hc x (List.mem_cons_of_mem _ hx)) h'.app (by omega)]
    rw [List.flatMap_cons, List.flatMap_cons, List.append_assoc, List.length_append, Nat.add_assoc i]
theorem str_back {s : ByteArray} {i : Nat} {cs : List Nat} {R : List UInt8} (hc : ∀ c ∈ cs, okC c) (hl : cs.length ≤ (cs.flatMap (chW 34)).length) (h : Sfx s i (34 :: (cs.flatMap (chW 34) ++ 34 :: R))) :
    tokenS s i = .tok 3 0 ⟨(cs.flatMap (fun c : Nat => Lib.encodeRune (c : Int))).toArray⟩ (i + (34 :: (cs.flatMap (chW 34) ++ [34])).length) := by
  have h1 := h.next
  have hz := h1.len
  rw [List.length_append, List.length_cons] at hz
  rw [tokenS_sfx h, if_neg (by exact fls rfl), if_neg (by exact fls rfl), if_neg (by exact fls rfl), if_neg (by exact fls rfl), if_pos (by rfl)]
  unfold strS
  rw [strGo_run cs (i + 1) _ [] hc h1 (by omega)]
  congr 1
  simp only [List.length_cons, List.length_append, List.length_nil]
  omega
theorem chW_pos {q : Nat} (hq : q = 39 ∨ q = 34) : ∀ {cs : List Nat}, (∀ c ∈ cs, okC c) → cs.length ≤ (cs.flatMap (chW q)).length
  | [], _ => Nat.zero_le _
  | c :: cs, h => by
    have := chW_pos hq (cs := cs) (fun x hx => h x (List.mem_cons_of_mem _ hx))
    obtain ⟨b, r, e, -⟩ := chW_head q c hq (h c (by simp))
    rw [List.flatMap_cons, List.length_append, e, List.length_cons, List.length_cons]
    omega
end Go.Proofs.YtafjdncajpjmlaaDoor.Tok
