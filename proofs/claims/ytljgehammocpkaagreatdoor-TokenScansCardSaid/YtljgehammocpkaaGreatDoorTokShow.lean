/-
  Layer 8: the text of a token. (Written by wip/gen/token-show.py.)
-/
import Derived.Test.YtljgehammocpkaaGreatDoorTokLit
import Derived.Test.YtljgehammocpkaaGreatDoorNumLeaf
import Derived.Test.YtljgehammocpkaaGreatDoorNumShowP
import Derived.Laws.Cover4
namespace Go.Proofs.YtljgehammocpkaaGreatDoor.Tok
open Go.RowKit
set_option linter.unusedVariables false
set_option linter.unusedSimpArgs false

def isChar (n : Int) : Bool := decide (0 ≤ n ∧ n ≤ 1114111) && Lib.validRune n
def oneW (k n : Int) (t : ByteArray) : List UInt8 :=
  if k = 1 then (if Num.fitsB n then (Num.shS n).data.toList else [])
  else if k = 2 then (if isChar n then litW 39 (Utf8.encode n) else [])
  else if k = 3 then (if Lib.validD t.data.toList then litW 34 t else [])
  else if k = 4 ∨ k = 5 then t.data.toList else if k = 6 then [59] else []
theorem arr_list (t : ByteArray) : (⟨t.data.toList.toArray⟩ : ByteArray) = t := by cases t; simp
theorem enc_size (n : Int) : (Utf8.encode n).size ≤ 4 := encode_size_le n
theorem literal39 (s : ByteArray) (hs : s.size ≤ 100000) (w : World) (hT : TZ w) :
    Calls Tryz.prog 108 #[.string s, .int .i32 39] w fun e w' => e = .returned (.string ⟨(litW 39 s).toArray⟩) ∧ Below w.heap.size w w' := literalQ s hs 39 (by decide) w hT
theorem literal34 (s : ByteArray) (hs : s.size ≤ 100000) (w : World) (hT : TZ w) :
    Calls Tryz.prog 108 #[.string s, .int .i32 34] w fun e w' => e = .returned (.string ⟨(litW 34 s).toArray⟩) ∧ Below w.heap.size w w' := literalQ s hs 34 (by decide) w hT
theorem validStrQ (s : ByteArray) (w : World) (hs : s.size ≤ 1000000) (hT : Tabs w) :
    Calls Tryz.prog 109 #[.string s] w fun e w' => e = .returned (.bool (Lib.validD s.data.toList)) ∧ Below w.heap.size w w' :=
  Any.utf8_ValidString Tryz.laysValid s w (by omega) hT.1
set_option maxRecDepth 100000 in
set_option maxHeartbeats 4000000 in
theorem isCharacterQ (n : Int) (w : World) : Calls Tryz.prog 107 #[.int .i64 n] w fun e w' => e = .returned (.bool (isChar n)) ∧ w = w' := by
  have cV := fun r w => Tryz.utf8_ValidRune r w
  by_cases h0 : 0 ≤ n
  · by_cases h1 : n ≤ 1114111
    · have e : isChar n = Lib.validRune n := by simp [isChar, h0, h1]
      rw [e]
      have h2 : -2147483648 ≤ n ∧ n ≤ 2147483647 := by omega
      go_enter Tryz.func107, Tryz.ntmps107
      go_wp2_with (go_at_call 149; with_reducible refine (cV n _).mono ?_; rintro e1 w1 ⟨rfl, rfl⟩)
      go_ret
      exact ⟨rfl, rfl⟩
    · have e : isChar n = false := by simp [isChar, h1]
      rw [e]
      go_enter Tryz.func107, Tryz.ntmps107
      go_wp2
      go_ret
      exact ⟨rfl, rfl⟩
  · have e : isChar n = false := by simp [isChar, h0]
    rw [e]
    go_enter Tryz.func107, Tryz.ntmps107
    go_wp2
    go_ret
    exact ⟨rfl, rfl⟩
set_option maxRecDepth 100000 in
set_option maxHeartbeats 4000000 in
theorem sh_1a (p z n : Int) (t : ByteArray) (hn0 : -9223372036854775808 ≤ n) (hn1 : n ≤ 9223372036854775807) (ht : t.size ≤ 100000) (w : World) (hT : Tabs w) (hZ : TZ w) (hf : Num.fitsB n = true) :
    Calls Tryz.prog 60 #[.agg #[.int .i64 1, .int .i64 p, .int .i64 z, .int .i64 n, .string t]] w fun e w' => e = .returned (.string ⟨((Num.shS n).data.toList).toArray⟩) ∧ Below w.heap.size w w' := by
  have cF := fun w => Num.fitsP n w
  rw [hf] at cF
  go_enter Tryz.func60, Tryz.ntmps60
  go_wp2_with (first | (go_at_call 105; with_reducible refine (cF _).mono ?_; rintro e1 w1 ⟨rfl, rfl⟩) | (go_at_call 106; with_reducible refine (Num.showP n _ hn0 hn1).mono ?_; rintro e2 w2 ⟨rfl, b2⟩))
  go_ret
  exact ⟨by rw [arr_list]; rfl, Below.then (below_new w _) b2⟩
set_option maxRecDepth 100000 in
set_option maxHeartbeats 4000000 in
theorem sh_1b  (p z n : Int) (t : ByteArray) (hn0 : -9223372036854775808 ≤ n) (hn1 : n ≤ 9223372036854775807) (ht : t.size ≤ 100000) (w : World) (hT : Tabs w) (hZ : TZ w) (hf : Num.fitsB n = false) :
    Calls Tryz.prog 60 #[.agg #[.int .i64 1, .int .i64 p, .int .i64 z, .int .i64 n, .string t]] w fun e w' => e = .returned (.string ⟨([]).toArray⟩) ∧ Below w.heap.size w w' := by
  have cF := fun w => Num.fitsP n w
  rw [hf] at cF
  go_enter Tryz.func60, Tryz.ntmps60
  go_wp2_with (first | (go_at_call 105; with_reducible refine (cF _).mono ?_; rintro e1 w1 ⟨rfl, rfl⟩))
  go_ret
  exact ⟨rfl, below_new w _⟩
set_option maxRecDepth 100000 in
set_option maxHeartbeats 4000000 in
theorem sh_2a  (p z n : Int) (t : ByteArray) (hn0 : -9223372036854775808 ≤ n) (hn1 : n ≤ 9223372036854775807) (ht : t.size ≤ 100000) (w : World) (hT : Tabs w) (hZ : TZ w) (hf : isChar n = true) :
    Calls Tryz.prog 60 #[.agg #[.int .i64 2, .int .i64 p, .int .i64 z, .int .i64 n, .string t]] w fun e w' => e = .returned (.string ⟨(litW 39 (Utf8.encode n)).toArray⟩) ∧ Below w.heap.size w w' := by
  have cC := fun w => isCharacterQ n w
  rw [hf] at cC
  have hf2 : 0 ≤ n ∧ n ≤ 1114111 := by
    simp only [isChar, Bool.and_eq_true, decide_eq_true_eq] at hf
    exact hf.1
  obtain ⟨g0, g1⟩ := hf2
  have hZ2 := fun o => hZ.below (below_new w o)
  have cL := fun w hT => literal39 (Utf8.encode n) (by have := enc_size n; omega) w hT
  go_enter Tryz.func60, Tryz.ntmps60
  go_wp2_with (first | (go_at_call 107; with_reducible refine (cC _).mono ?_; rintro e1 w1 ⟨rfl, rfl⟩) | (go_at_call 108; with_reducible refine (cL _ (hZ2 _)).mono ?_; rintro e2 w2 ⟨rfl, b2⟩))
  go_ret
  exact ⟨rfl, Below.then (below_new w _) b2⟩
set_option maxRecDepth 100000 in
set_option maxHeartbeats 4000000 in
theorem sh_2b  (p z n : Int) (t : ByteArray) (hn0 : -9223372036854775808 ≤ n) (hn1 : n ≤ 9223372036854775807) (ht : t.size ≤ 100000) (w : World) (hT : Tabs w) (hZ : TZ w) (hf : isChar n = false) :
    Calls Tryz.prog 60 #[.agg #[.int .i64 2, .int .i64 p, .int .i64 z, .int .i64 n, .string t]] w fun e w' => e = .returned (.string ⟨([]).toArray⟩) ∧ Below w.heap.size w w' := by
  have cC := fun w => isCharacterQ n w
  rw [hf] at cC
  go_enter Tryz.func60, Tryz.ntmps60
  go_wp2_with (first | (go_at_call 107; with_reducible refine (cC _).mono ?_; rintro e1 w1 ⟨rfl, rfl⟩))
  go_ret
  exact ⟨rfl, below_new w _⟩
set_option maxRecDepth 100000 in
set_option maxHeartbeats 4000000 in
theorem sh_3a  (p z n : Int) (t : ByteArray) (hn0 : -9223372036854775808 ≤ n) (hn1 : n ≤ 9223372036854775807) (ht : t.size ≤ 100000) (w : World) (hT : Tabs w) (hZ : TZ w) (hf : Lib.validD t.data.toList = true) :
    Calls Tryz.prog 60 #[.agg #[.int .i64 3, .int .i64 p, .int .i64 z, .int .i64 n, .string t]] w fun e w' => e = .returned (.string ⟨(litW 34 t).toArray⟩) ∧ Below w.heap.size w w' := by
  have cV := fun w hT => validStrQ t w (by omega) hT
  rw [hf] at cV
  have hT2 := fun o => hT.below (below_new w o)
  have hB : ∀ a b c d e, (w.alloc (.cells #[a, b, c, d, e] 62)).cell? ⟨w.heap.size, 4, none⟩ = some e := fun a b c d e => by rw [World.cell?_alloc_new]; rfl
  have hZ2 := fun o => hZ.below (below_new w o)
  have cL := fun w hT => literal34 t ht w hT
  go_enter Tryz.func60, Tryz.ntmps60
  go_wp2_with (first | (go_at_call 109; with_reducible refine (cV _ (hT2 _)).mono ?_; rintro e1 w1 ⟨rfl, b1⟩; have c4 := cell_below (hB _ _ _ _ _) b1; have hZ3 := (hZ2 _).below b1) | (go_at_call 108; with_reducible refine (cL _ hZ3).mono ?_; rintro e2 w2 ⟨rfl, b2⟩))
  go_ret
  exact ⟨rfl, Below.then (Below.then (below_new w _) b1) b2⟩
set_option maxRecDepth 100000 in
set_option maxHeartbeats 4000000 in
theorem sh_3b  (p z n : Int) (t : ByteArray) (hn0 : -9223372036854775808 ≤ n) (hn1 : n ≤ 9223372036854775807) (ht : t.size ≤ 100000) (w : World) (hT : Tabs w) (hZ : TZ w) (hf : Lib.validD t.data.toList = false) :
    Calls Tryz.prog 60 #[.agg #[.int .i64 3, .int .i64 p, .int .i64 z, .int .i64 n, .string t]] w fun e w' => e = .returned (.string ⟨([]).toArray⟩) ∧ Below w.heap.size w w' := by
  have cV := fun w hT => validStrQ t w (by omega) hT
  rw [hf] at cV
  have hT2 := fun o => hT.below (below_new w o)
  have hB : ∀ a b c d e, (w.alloc (.cells #[a, b, c, d, e] 62)).cell? ⟨w.heap.size, 4, none⟩ = some e := fun a b c d e => by rw [World.cell?_alloc_new]; rfl
  go_enter Tryz.func60, Tryz.ntmps60
  go_wp2_with (first | (go_at_call 109; with_reducible refine (cV _ (hT2 _)).mono ?_; rintro e1 w1 ⟨rfl, b1⟩; have c4 := cell_below (hB _ _ _ _ _) b1))
  go_ret
  exact ⟨rfl, Below.then (below_new w _) b1⟩
set_option maxRecDepth 100000 in
set_option maxHeartbeats 4000000 in
theorem sh_4  (p z n : Int) (t : ByteArray) (hn0 : -9223372036854775808 ≤ n) (hn1 : n ≤ 9223372036854775807) (ht : t.size ≤ 100000) (w : World) (hT : Tabs w) (hZ : TZ w) :
    Calls Tryz.prog 60 #[.agg #[.int .i64 4, .int .i64 p, .int .i64 z, .int .i64 n, .string t]] w fun e w' => e = .returned (.string ⟨(t.data.toList).toArray⟩) ∧ Below w.heap.size w w' := by
  go_enter Tryz.func60, Tryz.ntmps60
  go_wp2
  go_ret
  exact ⟨by rw [arr_list]; rfl, below_new w _⟩
set_option maxRecDepth 100000 in
set_option maxHeartbeats 4000000 in
theorem sh_5  (p z n : Int) (t : ByteArray) (hn0 : -9223372036854775808 ≤ n) (hn1 : n ≤ 9223372036854775807) (ht : t.size ≤ 100000) (w : World) (hT : Tabs w) (hZ : TZ w) :
    Calls Tryz.prog 60 #[.agg #[.int .i64 5, .int .i64 p, .int .i64 z, .int .i64 n, .string t]] w fun e w' => e = .returned (.string ⟨(t.data.toList).toArray⟩) ∧ Below w.heap.size w w' := by
  go_enter Tryz.func60, Tryz.ntmps60
  go_wp2
  go_ret
  exact ⟨by rw [arr_list]; rfl, below_new w _⟩
set_option maxRecDepth 100000 in
set_option maxHeartbeats 4000000 in
theorem sh_6  (p z n : Int) (t : ByteArray) (hn0 : -9223372036854775808 ≤ n) (hn1 : n ≤ 9223372036854775807) (ht : t.size ≤ 100000) (w : World) (hT : Tabs w) (hZ : TZ w) :
    Calls Tryz.prog 60 #[.agg #[.int .i64 6, .int .i64 p, .int .i64 z, .int .i64 n, .string t]] w fun e w' => e = .returned (.string ⟨([59]).toArray⟩) ∧ Below w.heap.size w w' := by
  go_enter Tryz.func60, Tryz.ntmps60
  go_wp2
  go_ret
  exact ⟨rfl, below_new w _⟩
set_option maxRecDepth 100000 in
set_option maxHeartbeats 4000000 in
theorem sh_7 (k : Int) (q1 : (k == 1) = false) (q2 : (k == 2) = false) (q3 : (k == 3) = false) (q4 : (k == 4) = false) (q5 : (k == 5) = false) (q6 : (k == 6) = false) (p z n : Int) (t : ByteArray) (hn0 : -9223372036854775808 ≤ n) (hn1 : n ≤ 9223372036854775807) (ht : t.size ≤ 100000) (w : World) (hT : Tabs w) (hZ : TZ w) :
    Calls Tryz.prog 60 #[.agg #[.int .i64 k, .int .i64 p, .int .i64 z, .int .i64 n, .string t]] w fun e w' => e = .returned (.string ⟨([]).toArray⟩) ∧ Below w.heap.size w w' := by
  go_enter Tryz.func60, Tryz.ntmps60
  go_wp2
  go_ret
  exact ⟨rfl, below_new w _⟩
theorem showQ (k p z n : Int) (t : ByteArray) (hn0 : -9223372036854775808 ≤ n) (hn1 : n ≤ 9223372036854775807) (ht : t.size ≤ 100000) (w : World) (hT : Tabs w) (hZ : TZ w) :
    Calls Tryz.prog 60 #[.agg #[.int .i64 k, .int .i64 p, .int .i64 z, .int .i64 n, .string t]] w fun e w' => e = .returned (.string ⟨(oneW k n t).toArray⟩) ∧ Below w.heap.size w w' := by
  by_cases h1 : k = 1
  · subst h1
    cases hf : Num.fitsB n
    · have e : oneW 1 n t = [] := by simp [oneW, hf]
      rw [e]; exact sh_1b p z n t hn0 hn1 ht w hT hZ hf
    · have e : oneW 1 n t = (Num.shS n).data.toList := by simp [oneW, hf]
      rw [e]; exact sh_1a p z n t hn0 hn1 ht w hT hZ hf
  by_cases h2 : k = 2
  · subst h2
    cases hf : isChar n
    · have e : oneW 2 n t = [] := by simp [oneW, hf]
      rw [e]; exact sh_2b p z n t hn0 hn1 ht w hT hZ hf
    · have e : oneW 2 n t = litW 39 (Utf8.encode n) := by simp [oneW, hf]
      rw [e]; exact sh_2a p z n t hn0 hn1 ht w hT hZ hf
  by_cases h3 : k = 3
  · subst h3
    cases hf : Lib.validD t.data.toList
    · have e : oneW 3 n t = [] := by simp [oneW, hf]
      rw [e]; exact sh_3b p z n t hn0 hn1 ht w hT hZ hf
    · have e : oneW 3 n t = litW 34 t := by simp [oneW, hf]
      rw [e]; exact sh_3a p z n t hn0 hn1 ht w hT hZ hf
  by_cases h4 : k = 4
  · subst h4
    exact sh_4 p z n t hn0 hn1 ht w hT hZ
  by_cases h5 : k = 5
  · subst h5
    exact sh_5 p z n t hn0 hn1 ht w hT hZ
  by_cases h6 : k = 6
  · subst h6
    exact sh_6 p z n t hn0 hn1 ht w hT hZ
  · have e : oneW k n t = [] := by rw [oneW, if_neg h1, if_neg h2, if_neg h3, if_neg (by omega), if_neg h6]
    rw [e]
    exact sh_7 k (by simp [h1]) (by simp [h2]) (by simp [h3]) (by simp [h4]) (by simp [h5]) (by simp [h6]) p z n t hn0 hn1 ht w hT hZ
end Go.Proofs.YtljgehammocpkaaGreatDoor.Tok
