/-
  Layer 8: a character as it stands in a literal. (Written by wip/gen/token-lit.py.)
-/
import Derived.Test.YtljgehammocpkaaGreatDoorTokSlit0
import Derived.Test.YtljgehammocpkaaGreatDoorTokFmt
namespace Go.Proofs.YtljgehammocpkaaGreatDoor.Tok
open Go.RowKit
set_option linter.unusedVariables false
set_option linter.unusedSimpArgs false

theorem wrR (w : World) (X c : Nat) (l : List UInt8) (hc : c ≤ 1114111) (hl : l.length ≤ 1000000) (h : Bld w X l) :
    Calls Tryz.prog 117 #[.pointer (some ⟨X, 0, none⟩), .int .i32 (c : Int)] w fun e w' => (∃ n, e = .returned (.tuple #[.int .i64 n, .nilIface])) ∧ Bld w' X (l ++ Lib.encodeRune (c : Int)) ∧ Below X w w' ∧ Lib.OthersKept 5 (some X) w w' := by
  refine (Tryz.Builder_WriteRune_k X X (Lib.byteCells l) (c : Int) (by omega) (by omega) w h (by rw [Lib.byteCells_length]; omega) (Nat.le_of_lt h.lt)).mono ?_
  rintro e w' ⟨rfl, h1, h2, h3⟩
  refine ⟨⟨_, rfl⟩, ?_, h2, h3⟩
  rw [Bld, Lib.byteCells_append, Lib.byteCells_encodeRune]
  exact .inr h1
theorem wrS (w : World) (X : Nat) (l : List UInt8) (s : ByteArray) (hs : s.size ≤ 1000000) (hl : l.length ≤ 1000000) (h : Bld w X l) :
    Calls Tryz.prog 98 #[.pointer (some ⟨X, 0, none⟩), .string s] w fun e w' => (∃ n, e = .returned (.tuple #[.int .i64 n, .nilIface])) ∧ Bld w' X (l ++ s.data.toList) ∧ Below X w w' ∧ Lib.OthersKept 5 (some X) w w' := by
  refine (Tryz.Builder_WriteString_k X X (Lib.byteCells l) s w h (by rw [Lib.byteCells_length]; omega) (Nat.le_of_lt h.lt)).mono ?_
  rintro e w' ⟨rfl, h1, h2, h3⟩
  refine ⟨⟨_, rfl⟩, ?_, h2, h3⟩
  rw [Bld, Lib.byteCells_append, ← Lib.strCells_eq]
  exact .inr h1
theorem wrB (w : World) (X : Nat) (l : List UInt8) (c : UInt8) (hl : l.length ≤ 1000000) (h : Bld w X l) :
    Calls Tryz.prog 152 #[.pointer (some ⟨X, 0, none⟩), .int .u8 (c.toNat : Int)] w fun e w' => e = .returned .nilIface ∧ Bld w' X (l ++ [c]) ∧ Below X w w' ∧ Lib.OthersKept 5 (some X) w w' := by
  refine (Tryz.Builder_WriteByte_k X X (Lib.byteCells l) (c.toNat : Int) w h (by rw [Lib.byteCells_length]; omega) (Nat.le_of_lt h.lt)).mono ?_
  rintro e w' ⟨rfl, h1, h2, h3⟩
  refine ⟨rfl, ?_, h2, h3⟩
  rw [Bld, Lib.byteCells_append]
  exact .inr h1
theorem wr92 (w : World) (X : Nat) (l : List UInt8) (hl : l.length ≤ 1000000) (h : Bld w X l) :
    Calls Tryz.prog 152 #[.pointer (some ⟨X, 0, none⟩), .int .u8 92] w fun e w' => e = .returned .nilIface ∧ Bld w' X (l ++ [92]) ∧ Below X w w' ∧ Lib.OthersKept 5 (some X) w w' := wrB w X l 92 hl h
theorem okBelow {e : TypeId} {bo : Option Nat} {a w w' : World} (h : Lib.OthersKept e bo a w) (hb : Below w.heap.size w w') : Lib.OthersKept e bo a w' := fun k o hk hn hc => by
  have := h k o hk hn hc
  exact (hb.block k (Array.getElem?_eq_some_iff.1 this).1).trans this
def chW (q c : Nat) : List UInt8 :=
  if c = 10 then [92, 110] else if c = 9 then [92, 116] else if c = 13 then [92, 114] else if c < 32 ∨ c = 127 then [92, 117, 123] ++ hexL c ++ [125]
  else if c = q ∨ c = 92 then [92] ++ Lib.encodeRune (c : Int) else Lib.encodeRune (c : Int)
theorem hexL_len (c : Nat) : (hexL c).length ≤ 2 := by unfold hexL; split <;> simp
theorem Bld.below {w w' : World} {X : Nat} {l : List UInt8} (h : Bld w X l) (hb : Below w.heap.size w w') : Bld w' X l := by
  have go : ∀ p, Lib.BuilderAtF 116 5 X X p (Lib.byteCells l) w → Lib.BuilderAtF 116 5 X X p (Lib.byteCells l) w' := fun p h => by
    have hlt := h.lt
    obtain ⟨hB, v, hv, hown, hne⟩ := h
    exact ⟨hB, v, (hb.block X hlt).trans hv, hown.kept (row := none) ⟨hb.os, hb.tape, hb.output, hb.size, fun k hk _ => hb.block k hk⟩ (Classical.em _), hne⟩
  exact h.elim (fun x => .inl (go _ x)) (fun x => .inr (go _ x))
/-- What writing leaves: the builder, all older blocks, and every iterator. -/
@[reducible] def Wrote (w : World) (X : Nat) (l : List UInt8) (e : Ending) (w' : World) : Prop := e = .returned (.tuple #[]) ∧ Bld w' X l ∧ Below X w w' ∧ Lib.OthersKept 5 (some X) w w'
set_option maxRecDepth 100000 in
set_option maxHeartbeats 4000000 in
theorem wc_10 (q : Int) (w : World) (X : Nat) (l : List UInt8) (hl : l.length ≤ 900000) (hT : TZ w) (h : Bld w X l) :
    Calls Tryz.prog 150 #[.pointer (some ⟨X, 0, none⟩), .int .i32 q, .int .i32 10] w (Wrote w X (l ++ [92, 110])) := by
  go_enter Tryz.func150, Tryz.ntmps150
  go_wp2_with (first | (go_at_call 98; with_reducible refine (wrS _ X l ⟨#[92, 110]⟩ (by decide) (by omega) h).mono ?_; rintro e1 w1 ⟨⟨n1, rfl⟩, h1, b1, k1⟩))
  refine bodyPost_ret (results_none rfl _ _ _) rfl ?_
  exact ⟨rfl, h1, b1, k1⟩
set_option maxRecDepth 100000 in
set_option maxHeartbeats 4000000 in
theorem wc_9 (q : Int) (w : World) (X : Nat) (l : List UInt8) (hl : l.length ≤ 900000) (hT : TZ w) (h : Bld w X l) :
    Calls Tryz.prog 150 #[.pointer (some ⟨X, 0, none⟩), .int .i32 q, .int .i32 9] w (Wrote w X (l ++ [92, 116])) := by
  go_enter Tryz.func150, Tryz.ntmps150
  go_wp2_with (first | (go_at_call 98; with_reducible refine (wrS _ X l ⟨#[92, 116]⟩ (by decide) (by omega) h).mono ?_; rintro e1 w1 ⟨⟨n1, rfl⟩, h1, b1, k1⟩))
  refine bodyPost_ret (results_none rfl _ _ _) rfl ?_
  exact ⟨rfl, h1, b1, k1⟩
set_option maxRecDepth 100000 in
set_option maxHeartbeats 4000000 in
theorem wc_13 (q : Int) (w : World) (X : Nat) (l : List UInt8) (hl : l.length ≤ 900000) (hT : TZ w) (h : Bld w X l) :
    Calls Tryz.prog 150 #[.pointer (some ⟨X, 0, none⟩), .int .i32 q, .int .i32 13] w (Wrote w X (l ++ [92, 114])) := by
  go_enter Tryz.func150, Tryz.ntmps150
  go_wp2_with (first | (go_at_call 98; with_reducible refine (wrS _ X l ⟨#[92, 114]⟩ (by decide) (by omega) h).mono ?_; rintro e1 w1 ⟨⟨n1, rfl⟩, h1, b1, k1⟩))
  refine bodyPost_ret (results_none rfl _ _ _) rfl ?_
  exact ⟨rfl, h1, b1, k1⟩
set_option maxRecDepth 100000 in
set_option maxHeartbeats 4000000 in
theorem wc_ctl (q : Int) (c : Nat) (hc : (c < 32 ∧ c ≠ 9 ∧ c ≠ 10 ∧ c ≠ 13) ∨ c = 127) (h32 : c < 32) (w : World) (X : Nat) (l : List UInt8) (hl : l.length ≤ 900000) (hT : TZ w) (h : Bld w X l) :
    Calls Tryz.prog 150 #[.pointer (some ⟨X, 0, none⟩), .int .i32 q, .int .i32 (c : Int)] w (Wrote w X (l ++ ([92, 117, 123] ++ hexL c ++ [125]))) := by
  have hx := hexL_len c
  have hxs : (⟨(hexL c).toArray⟩ : ByteArray).size = (hexL c).length := rfl
  have hs3 : (⟨#[92, 117, 123]⟩ : ByteArray).size = 3 := rfl
  have hs1 : (⟨#[125]⟩ : ByteArray).size = 1 := rfl
  have hsz : ((⟨#[92, 117, 123]⟩ : ByteArray) ++ ⟨(hexL c).toArray⟩ ++ ⟨#[125]⟩).size ≤ 1000000 := by rw [ByteArray.size_append, ByteArray.size_append, hxs, hs3, hs1]; omega
  have hout : ((⟨#[92, 117, 123]⟩ : ByteArray) ++ ⟨(hexL c).toArray⟩ ++ ⟨#[125]⟩).data.toList = [92, 117, 123] ++ hexL c ++ [125] := by simp [ByteArray.data_append]
  have a1 := fun w => run_string_add_sum (P := Tryz.prog) w ⟨#[92, 117, 123]⟩ ⟨(hexL c).toArray⟩ (by rw [hxs, hs3]; omega)
  have a2 := fun w => run_string_add_sum (P := Tryz.prog) w (⟨#[92, 117, 123]⟩ ++ ⟨(hexL c).toArray⟩) ⟨#[125]⟩ (by rw [ByteArray.size_append, hxs, hs3, hs1]; omega)
  clear hxs hs3 hs1 hx
  have f1 : ((c : Int) == 10) = false := by simp; omega
  have f2 : ((c : Int) == 9) = false := by simp; omega
  have f3 : ((c : Int) == 13) = false := by simp; omega
  have f4 : (c : Int) < 32 := by omega
  go_enter Tryz.func150, Tryz.ntmps150
  go_wp2_with (first | (go_at_call 171; with_reducible refine (formatIntQ c hc _ hT).mono ?_; rintro e1 w1 ⟨rfl, b1⟩) | (go_at_call 98; with_reducible refine (wrS _ X l (⟨#[92, 117, 123]⟩ ++ ⟨(hexL c).toArray⟩ ++ ⟨#[125]⟩) hsz (by omega) (Bld.below h b1)).mono ?_; rintro e2 w2 ⟨⟨n2, rfl⟩, h2, b2, k2⟩))
  refine bodyPost_ret (results_none rfl _ _ _) rfl ?_
  exact ⟨rfl, by rw [hout] at h2; exact h2, (b1.mono (Nat.le_of_lt h.lt)).trans b2, (okBelow (Lib.OthersKept.refl 5 (some X) w) b1).trans k2⟩
set_option maxRecDepth 100000 in
set_option maxHeartbeats 4000000 in
theorem wc_127 (q : Int) (c : Nat) (hc : (c < 32 ∧ c ≠ 9 ∧ c ≠ 10 ∧ c ≠ 13) ∨ c = 127) (h127 : c = 127) (w : World) (X : Nat) (l : List UInt8) (hl : l.length ≤ 900000) (hT : TZ w) (h : Bld w X l) :
    Calls Tryz.prog 150 #[.pointer (some ⟨X, 0, none⟩), .int .i32 q, .int .i32 (c : Int)] w (Wrote w X (l ++ ([92, 117, 123] ++ hexL c ++ [125]))) := by
  have hx := hexL_len c
  have hxs : (⟨(hexL c).toArray⟩ : ByteArray).size = (hexL c).length := rfl
  have hs3 : (⟨#[92, 117, 123]⟩ : ByteArray).size = 3 := rfl
  have hs1 : (⟨#[125]⟩ : ByteArray).size = 1 := rfl
  have hsz : ((⟨#[92, 117, 123]⟩ : ByteArray) ++ ⟨(hexL c).toArray⟩ ++ ⟨#[125]⟩).size ≤ 1000000 := by rw [ByteArray.size_append, ByteArray.size_append, hxs, hs3, hs1]; omega
  have hout : ((⟨#[92, 117, 123]⟩ : ByteArray) ++ ⟨(hexL c).toArray⟩ ++ ⟨#[125]⟩).data.toList = [92, 117, 123] ++ hexL c ++ [125] := by simp [ByteArray.data_append]
  have a1 := fun w => run_string_add_sum (P := Tryz.prog) w ⟨#[92, 117, 123]⟩ ⟨(hexL c).toArray⟩ (by rw [hxs, hs3]; omega)
  have a2 := fun w => run_string_add_sum (P := Tryz.prog) w (⟨#[92, 117, 123]⟩ ++ ⟨(hexL c).toArray⟩) ⟨#[125]⟩ (by rw [ByteArray.size_append, hxs, hs3, hs1]; omega)
  clear hxs hs3 hs1 hx
  have f1 : ((c : Int) == 10) = false := by simp; omega
  have f2 : ((c : Int) == 9) = false := by simp; omega
  have f3 : ((c : Int) == 13) = false := by simp; omega
  have f4 : ¬ (c : Int) < 32 := by omega
  have f5 : ((c : Int) == 127) = true := by simp; omega
  clear h127
  go_enter Tryz.func150, Tryz.ntmps150
  go_wp2_with (first | (go_at_call 171; with_reducible refine (formatIntQ c hc _ hT).mono ?_; rintro e1 w1 ⟨rfl, b1⟩) | (go_at_call 98; with_reducible refine (wrS _ X l (⟨#[92, 117, 123]⟩ ++ ⟨(hexL c).toArray⟩ ++ ⟨#[125]⟩) hsz (by omega) (Bld.below h b1)).mono ?_; rintro e2 w2 ⟨⟨n2, rfl⟩, h2, b2, k2⟩))
  refine bodyPost_ret (results_none rfl _ _ _) rfl ?_
  exact ⟨rfl, by rw [hout] at h2; exact h2, (b1.mono (Nat.le_of_lt h.lt)).trans b2, (okBelow (Lib.OthersKept.refl 5 (some X) w) b1).trans k2⟩
set_option maxRecDepth 100000 in
set_option maxHeartbeats 4000000 in
theorem wc_esc (q : Nat) (c : Nat) (hc : c ≤ 1114111) (h32 : 32 ≤ c) (h127 : c ≠ 127) (hq : c = q) (w : World) (X : Nat) (l : List UInt8) (hl : l.length ≤ 900000) (hT : TZ w) (h : Bld w X l) :
    Calls Tryz.prog 150 #[.pointer (some ⟨X, 0, none⟩), .int .i32 (q : Int), .int .i32 (c : Int)] w (Wrote w X (l ++ ([92] ++ Lib.encodeRune (c : Int)))) := by
  have f1 : ((c : Int) == 10) = false := by simp; omega
  have f2 : ((c : Int) == 9) = false := by simp; omega
  have f3 : ((c : Int) == 13) = false := by simp; omega
  have f4 : ¬ (c : Int) < 32 := by omega
  have f5 : ((c : Int) == 127) = false := by simp; omega
  have f6 : ((c : Int) == (q : Int)) = true := by simp; omega
  clear hq
  go_enter Tryz.func150, Tryz.ntmps150
  go_wp2_with (first | (go_at_call 152; with_reducible refine (wr92 _ X l (by omega) h).mono ?_; rintro e1 w1 ⟨rfl, h1, b1, k1⟩) | (go_at_call 117; with_reducible refine (wrR _ X c (l ++ [92]) (by omega) (by rw [List.length_append]; simp; omega) h1).mono ?_; rintro e2 w2 ⟨⟨n2, rfl⟩, h2, b2, k2⟩))
  refine bodyPost_ret (results_none rfl _ _ _) rfl ?_
  exact ⟨rfl, by rw [List.append_assoc] at h2; exact h2, b1.trans b2, k1.trans k2⟩
set_option maxRecDepth 100000 in
set_option maxHeartbeats 4000000 in
theorem wc_bs (q : Nat) (c : Nat) (hc : c ≤ 1114111) (h32 : 32 ≤ c) (h127 : c ≠ 127) (hq : c ≠ q) (h92 : c = 92) (w : World) (X : Nat) (l : List UInt8) (hl : l.length ≤ 900000) (hT : TZ w) (h : Bld w X l) :
    Calls Tryz.prog 150 #[.pointer (some ⟨X, 0, none⟩), .int .i32 (q : Int), .int .i32 (c : Int)] w (Wrote w X (l ++ ([92] ++ Lib.encodeRune (c : Int)))) := by
  have f1 : ((c : Int) == 10) = false := by simp; omega
  have f2 : ((c : Int) == 9) = false := by simp; omega
  have f3 : ((c : Int) == 13) = false := by simp; omega
  have f4 : ¬ (c : Int) < 32 := by omega
  have f5 : ((c : Int) == 127) = false := by simp; omega
  have f6 : ((c : Int) == (q : Int)) = false := by simp; omega
  have f7 : ((c : Int) == 92) = true := by simp; omega
  clear h92
  go_enter Tryz.func150, Tryz.ntmps150
  go_wp2_with (first | (go_at_call 152; with_reducible refine (wr92 _ X l (by omega) h).mono ?_; rintro e1 w1 ⟨rfl, h1, b1, k1⟩) | (go_at_call 117; with_reducible refine (wrR _ X c (l ++ [92]) (by omega) (by rw [List.length_append]; simp; omega) h1).mono ?_; rintro e2 w2 ⟨⟨n2, rfl⟩, h2, b2, k2⟩))
  refine bodyPost_ret (results_none rfl _ _ _) rfl ?_
  exact ⟨rfl, by rw [List.append_assoc] at h2; exact h2, b1.trans b2, k1.trans k2⟩
set_option maxRecDepth 100000 in
set_option maxHeartbeats 4000000 in
theorem wc_plain (q : Nat) (c : Nat) (hc : c ≤ 1114111) (h32 : 32 ≤ c) (h127 : c ≠ 127) (hq : c ≠ q) (h92 : c ≠ 92) (w : World) (X : Nat) (l : List UInt8) (hl : l.length ≤ 900000) (hT : TZ w) (h : Bld w X l) :
    Calls Tryz.prog 150 #[.pointer (some ⟨X, 0, none⟩), .int .i32 (q : Int), .int .i32 (c : Int)] w (Wrote w X (l ++ (Lib.encodeRune (c : Int)))) := by
  have f1 : ((c : Int) == 10) = false := by simp; omega
  have f2 : ((c : Int) == 9) = false := by simp; omega
  have f3 : ((c : Int) == 13) = false := by simp; omega
  have f4 : ¬ (c : Int) < 32 := by omega
  have f5 : ((c : Int) == 127) = false := by simp; omega
  have f6 : ((c : Int) == (q : Int)) = false := by simp; omega
  have f7 : ((c : Int) == 92) = false := by simp; omega
  go_enter Tryz.func150, Tryz.ntmps150
  go_wp2_with (first | (go_at_call 117; with_reducible refine (wrR _ X c l hc (by omega) h).mono ?_; rintro e1 w1 ⟨⟨n1, rfl⟩, h1, b1, k1⟩))
  refine bodyPost_ret (results_none rfl _ _ _) rfl ?_
  exact ⟨rfl, h1, b1, k1⟩
theorem writeCharacterQ (q c : Nat) (hc : c ≤ 1114111) (w : World) (X : Nat) (l : List UInt8) (hl : l.length ≤ 900000) (hT : TZ w) (h : Bld w X l) :
    Calls Tryz.prog 150 #[.pointer (some ⟨X, 0, none⟩), .int .i32 (q : Int), .int .i32 (c : Int)] w (Wrote w X (l ++ chW q c)) := by
  by_cases h10 : c = 10
  · subst h10; exact wc_10 q w X l hl hT h
  by_cases h9 : c = 9
  · subst h9; exact wc_9 q w X l hl hT h
  by_cases h13 : c = 13
  · subst h13; exact wc_13 q w X l hl hT h
  by_cases h32 : c < 32
  · rw [chW, if_neg h10, if_neg h9, if_neg h13, if_pos (Or.inl h32)]
    exact wc_ctl q c (by omega) h32 w X l hl hT h
  by_cases h127 : c = 127
  · rw [chW, if_neg h10, if_neg h9, if_neg h13, if_pos (Or.inr h127)]
    exact wc_127 q c (by omega) h127 w X l hl hT h
  by_cases hq : c = q
  · rw [chW, if_neg h10, if_neg h9, if_neg h13, if_neg (by omega), if_pos (Or.inl hq)]
    exact wc_esc q c hc (by omega) h127 hq w X l hl hT h
  by_cases h92 : c = 92
  · rw [chW, if_neg h10, if_neg h9, if_neg h13, if_neg (by omega), if_pos (Or.inr h92)]
    exact wc_bs q c hc (by omega) h127 hq h92 w X l hl hT h
  · rw [chW, if_neg h10, if_neg h9, if_neg h13, if_neg (by omega), if_neg (by omega)]
    exact wc_plain q c hc (by omega) h127 hq h92 w X l hl hT h
end Go.Proofs.YtljgehammocpkaaGreatDoor.Tok
