/-
  Layer 10: the texts that the reference's show writes, out of the words that Show writes.
  Layer 10: the reference's among, PrimName, OpName, word. (Written by wip/gen/syn-t1.py.)
  Layer 10: the reference's paren and list.
  Layer 10: the reference's Body. (Written by wip/gen/syn-t3.py.)
  Layer 10: the reference's show. (Written by wip/gen/syn-t4.py.)
  Layer 10: the reference's Show; the program's Show at a node that is not valid. (Written by wip/gen/syn-t5.py.)
-/
import Derived.Test.YtghmbmjikkdbnaaGreatDoorDd25
import Derived.Test.YtghmbmjikkdbnaaGreatDoorDd7
import Derived.BigQuiet
import Derived.Test.YtghmbmjikkdbnaaGreatDoorDd15
import Derived.Test.YtghmbmjikkdbnaaGreatDoorDd11
import Derived.Test.YtghmbmjikkdbnaaGreatDoorDd18
import Derived.Test.YtghmbmjikkdbnaaGreatDoorDd21
namespace Go.Proofs.YtghmbmjikkdbnaaGreatDoor.Syn
open Go.RowKit Go.Shelf Go.Maps Go.Proofs.YtghmbmjikkdbnaaGreatDoor.Shape
set_option linter.unusedVariables false
set_option linter.unusedSimpArgs false
set_option maxRecDepth 100000
theorem ba_ext {a b : ByteArray} (h : a.data.toList = b.data.toList) : a = b := by
  obtain ⟨⟨x⟩⟩ := a
  obtain ⟨⟨y⟩⟩ := b
  simp at h
  rw [h]
theorem ba_app (a b : ByteArray) : (a ++ b).data.toList = a.data.toList ++ b.data.toList := by simp [ByteArray.data_append]
theorem joinTail_app (sep : List UInt8) (a b : List (List UInt8)) : Lib.joinTail sep (a ++ b) = Lib.joinTail sep a ++ Lib.joinTail sep b := by simp [Lib.joinTail]
theorem join_app {a b : List (List UInt8)} (sep : List UInt8) (ha : a ≠ []) (hb : b ≠ []) : Lib.join (a ++ b) sep = Lib.join a sep ++ sep ++ Lib.join b sep := by
  cases a with
  | nil => exact absurd rfl ha
  | cons x r =>
    cases b with
    | nil => exact absurd rfl hb
    | cons y q =>
      rw [List.cons_append, Lib.join_cons, Lib.join_cons, Lib.join_cons, joinTail_app]
      simp [Lib.joinTail, List.append_assoc]
def blk : ByteArray := ⟨#[32]⟩
theorem joinW_app {a b : List ByteArray} (ha : a ≠ []) (hb : b ≠ []) : joinW (a ++ b) = joinW a ++ blk ++ joinW b := by
  refine ba_ext ?_
  rw [ba_app, ba_app]
  unfold joinW
  rw [List.map_append, join_app _ (by simpa using ha) (by simpa using hb)]
  rfl
theorem joinW_one (s : ByteArray) : joinW [s] = s := by
  refine ba_ext ?_
  unfold joinW
  rw [List.map_cons, List.map_nil, Lib.join_one]
def T (lt : Arr → ByteArray) (N : Nd) : ByteArray := joinW (shN lt N)
def opnP : ByteArray := ⟨#[40, 32]⟩
def clP : ByteArray := ⟨#[32, 41]⟩
def PT (lt : Arr → ByteArray) (b : Bool) (N : Nd) : ByteArray := if b = true then opnP ++ T lt N ++ clP else T lt N
theorem par_ne {enc : List Int} {x : Int × List ByteArray} (h : x.2 ≠ []) : par enc x ≠ [] := by
  unfold par; split
  · simp
  · exact h
theorem joinW_par (lt : Arr → ByteArray) (enc : List Int) (N : Nd) (h : shN lt N ≠ []) : joinW (par enc (N.k, shN lt N)) = PT lt (hasB enc N.k) N := by
  unfold par PT
  split
  · rw [show (⟨#[40]⟩ : ByteArray) :: (shN lt N ++ [⟨#[41]⟩]) = [⟨#[40]⟩] ++ (shN lt N ++ [⟨#[41]⟩]) by rfl, joinW_app (by simp) (by simp), joinW_app h (by simp), joinW_one, joinW_one]
    refine ba_ext ?_
    simp only [ba_app, T, opnP, clP, blk]
    simp
  · rfl
theorem ok_k3 {N : Nd} (h : okN N = true) (hk : N.k = 3) : 2 ≤ N.ks.length := by
  rw [okN_eqP, if_neg (by omega)] at h
  simp only [Bool.and_eq_true, Bool.or_eq_true] at h
  rcases h.2 with g | g
  · unfold leafB at g
    rw [if_neg (by omega), if_neg (by omega), if_neg (by omega), if_neg (by omega), if_neg (by omega), if_neg (by omega)] at g
    cases g
  · have g := g.1
    unfold innerB at g
    rw [if_pos hk] at g
    simp only [Bool.and_eq_true, decide_eq_true_eq] at g
    exact g.2.1.2
theorem ok_k16 {N : Nd} (h : okN N = true) (hk : N.k = 16) : 1 ≤ N.ks.length := by
  rw [okN_eqP, if_neg (by omega)] at h
  simp only [Bool.and_eq_true, Bool.or_eq_true] at h
  rcases h.2 with g | g
  · unfold leafB at g
    rw [if_neg (by omega), if_neg (by omega), if_neg (by omega), if_neg (by omega), if_neg (by omega), if_neg (by omega)] at g
    cases g
  · have g := g.1
    unfold innerB at g
    rw [if_neg (by omega), if_neg (by omega), if_neg (by omega), if_neg (by omega), if_neg (by omega), if_pos hk] at g
    simp only [Bool.and_eq_true, Bool.or_eq_true] at g
    rcases g.2.2 with (g | g) | g
    · obtain ⟨A, B, e⟩ := cls2 g; rw [e]; simp
    · obtain ⟨A, B, C, e⟩ := cls3 g; rw [e]; simp
    · obtain ⟨A, B, C, e⟩ := cls3 g; rw [e]; simp
theorem ok_ks0 {N : Nd} (h : okN N = true) {j : Nat} (hj : j < N.ks.length) : okN N.ks[j] = true := okK_allP.1 (ok_kidsAll h) j hj
theorem flat_ne (lt : Arr → ByteArray) (enc : List Int) {l : List Nd} (hl : 1 ≤ l.length) (h : ∀ i (h : i < l.length), shN lt l[i] ≠ []) : (shK lt l).flatMap (par enc) ≠ [] := by
  cases l with
  | nil => simp at hl
  | cons N r =>
    rw [shK, List.flatMap_cons]
    have := par_ne (enc := enc) (x := (N.k, shN lt N)) (h 0 (by simp))
    simp [this]
theorem app_ne {a b : List ByteArray} (h : a ≠ []) : a ++ b ≠ [] := by simp [h]
theorem shN_ne (lt : Arr → ByteArray) : ∀ (r : Nat) (N : Nd), rkN N < r → okN N = true → shN lt N ≠ []
  | 0, _, h, _ => absurd h (Nat.not_lt_zero _)
  | r + 1, N, h, ok => by
    have ihk : ∀ i (h : i < N.ks.length), shN lt N.ks[i] ≠ [] := fun i hi => shN_ne lt r _ (by have := rk_kid N hi; omega) (ok_ks0 ok hi)
    rw [shN_eq]
    split
    · rename_i hk; exact flat_ne lt _ (by have := ok_k3 ok hk; omega) ihk
    split
    · rename_i hk
      obtain ⟨A, B, e⟩ := ok_k4 ok hk
      have h0 := ihk 0 (by rw [e]; simp)
      simp only [e] at h0 ⊢
      exact app_ne (par_ne h0)
    split
    · rename_i hk
      obtain ⟨A, B, C, e⟩ := ok_k5 ok hk
      have h0 := ihk 1 (by rw [e]; simp)
      simp only [e] at h0 ⊢
      exact app_ne (par_ne h0)
    split
    · simp
    split
    · rename_i hk
      obtain ⟨A, B, e⟩ := ok_k14 ok hk
      have h0 := ihk 1 (by rw [e]; simp)
      simp only [e] at h0 ⊢
      exact app_ne (par_ne h0)
    split
    · rename_i hk
      obtain ⟨A, B, C, e⟩ := ok_k15 ok hk
      have h0 := ihk 1 (by rw [e]; simp)
      simp only [e] at h0 ⊢
      exact app_ne (par_ne h0)
    split
    · rename_i hk; exact flat_ne lt _ (ok_k16 ok hk) ihk
    · simp
theorem shN_ne' (lt : Arr → ByteArray) {N : Nd} (ok : okN N = true) : shN lt N ≠ [] := shN_ne lt _ N (Nat.lt_succ_self _) ok
def LT (lt : Arr → ByteArray) (enc : List Int) (l : List Nd) : ByteArray := joinW ((shK lt l).flatMap (par enc))
theorem LT_one (lt : Arr → ByteArray) (enc : List Int) (N : Nd) (h : shN lt N ≠ []) : LT lt enc [N] = PT lt (hasB enc N.k) N := by
  unfold LT
  rw [shK, shK, List.flatMap_cons, List.flatMap_nil, List.append_nil, joinW_par lt enc N h]
theorem LT_snoc (lt : Arr → ByteArray) (enc : List Int) (l : List Nd) (N : Nd) (hl : l ≠ []) (h : ∀ M ∈ l, shN lt M ≠ []) (hN : shN lt N ≠ []) : LT lt enc (l ++ [N]) = LT lt enc l ++ blk ++ PT lt (hasB enc N.k) N := by
  have h2 := LT_one lt enc N hN
  unfold LT at h2 ⊢
  rw [shK_map] at h2 ⊢
  rw [shK_map, List.map_append, List.flatMap_append, joinW_app, h2]
  · have := flat_ne lt enc (l := l) (by cases l with | nil => exact absurd rfl hl | cons => simp) (fun i hi => h _ (List.getElem_mem hi))
    rw [shK_map] at this
    exact this
  · simp [par_ne (x := (N.k, shN lt N)) hN]
theorem LT_step (lt : Arr → ByteArray) (enc : List Int) {l : List Nd} {j : Nat} (hj : j < l.length) (h : ∀ i (h : i < l.length), shN lt l[i] ≠ []) :
    LT lt enc (l.take (j + 1)) = (if 0 < j then LT lt enc (l.take j) ++ blk else LT lt enc (l.take j)) ++ PT lt (hasB enc l[j].k) l[j] := by
  rw [List.take_succ_eq_append_getElem hj]
  by_cases h0 : 0 < j
  · rw [if_pos h0]
    refine LT_snoc lt enc _ _ ?_ ?_ (h j hj)
    · intro e
      have := congrArg List.length e
      rw [List.length_take, List.length_nil] at this
      omega
    · intro M hM
      have := List.mem_of_mem_take hM
      obtain ⟨i, hi, rfl⟩ := List.mem_iff_getElem.1 this
      exact h i hi
  · obtain rfl : j = 0 := by omega
    rw [if_neg h0, List.take_zero, List.nil_append, LT_one lt enc _ (h 0 hj)]
    refine ba_ext ?_
    rw [ba_app]
    rfl
def bra : ByteArray := ⟨#[123, 32]⟩
def ket : ByteArray := ⟨#[32, 125]⟩
def brk : ByteArray := ⟨#[32, 59, 32]⟩
def arw : ByteArray := ⟨#[32, 60, 45, 32]⟩
def col : ByteArray := ⟨#[32, 58, 32]⟩
def BT (lt : Arr → ByteArray) (l : List St) : ByteArray := joinW (shB lt l)
def HT (lt : Arr → ByteArray) (S : St) (s : ByteArray) : ByteArray := if S.k = 2 then s ++ (S.n ++ arw) else if S.k = 3 then s ++ (T lt S.te ++ col) else s
theorem shS_ne (lt : Arr → ByteArray) {S : St} (h : okS S = true) : shS lt S ≠ [] := by
  rw [shS_eq]
  have := shN_ne' lt (okS_nd h).1
  simp [this]
theorem joinW_shS (lt : Arr → ByteArray) {S : St} (h : okS S = true) (s : ByteArray) : s ++ joinW (shS lt S) = HT lt S s ++ T lt S.nd := by
  have h1 := shN_ne' lt (okS_nd h).1
  rw [shS_eq]
  unfold HT
  by_cases h2 : S.k = 2
  · rw [if_pos h2, if_pos h2, joinW_app (by simp) h1, show ([S.n, ⟨#[60, 45]⟩] : List ByteArray) = [S.n] ++ [⟨#[60, 45]⟩] by rfl, joinW_app (by simp) (by simp), joinW_one, joinW_one]
    refine ba_ext ?_
    simp only [ba_app, T, blk, arw]
    simp
  · by_cases h3 : S.k = 3
    · have h4 := shN_ne' lt ((okS_nd h).2.1 h3)
      rw [if_neg h2, if_pos h3, if_neg h2, if_pos h3, joinW_app (by simp) h1, joinW_app h4 (by simp), joinW_one]
      refine ba_ext ?_
      simp only [ba_app, T, blk, col]
      simp
    · rw [if_neg h2, if_neg h3, if_neg h2, if_neg h3, List.nil_append]
      rfl
theorem shB_snoc (lt : Arr → ByteArray) (l : List St) (S : St) (hl : l ≠ []) : shB lt (l ++ [S]) = shB lt l ++ ([⟨#[59]⟩] ++ shS lt S) := by
  cases l with
  | nil => exact absurd rfl hl
  | cons X r => rw [List.cons_append, shB, shB, shC_app, show shC lt [S] = ⟨#[59]⟩ :: (shS lt S ++ []) by simp [shC]]; simp
theorem shB_ne (lt : Arr → ByteArray) {l : List St} (hl : l ≠ []) (h : ∀ S ∈ l, okS S = true) : shB lt l ≠ [] := by
  cases l with
  | nil => exact absurd rfl hl
  | cons X r => rw [shB]; exact app_ne (shS_ne lt (h X (by simp)))
theorem BT_step (lt : Arr → ByteArray) {l : List St} {j : Nat} (hj : j < l.length) (h : ∀ S ∈ l, okS S = true) :
    BT lt (l.take (j + 1)) = HT lt l[j] (if 0 < j then BT lt (l.take j) ++ brk else BT lt (l.take j)) ++ T lt l[j].nd := by
  have oj := h _ (List.getElem_mem hj)
  rw [← joinW_shS lt oj, List.take_succ_eq_append_getElem hj]
  by_cases h0 : 0 < j
  · have hne : l.take j ≠ [] := by
      intro e
      have := congrArg List.length e
      rw [List.length_take, List.length_nil] at this
      omega
    rw [if_pos h0]
    unfold BT
    rw [shB_snoc lt _ _ hne, joinW_app (shB_ne lt hne fun S hS => h S (List.mem_of_mem_take hS)) (by simp), joinW_app (by simp) (shS_ne lt oj), joinW_one]
    refine ba_ext ?_
    simp only [ba_app, blk, brk]
    simp
  · obtain rfl : j = 0 := by omega
    rw [if_neg h0, List.take_zero, List.nil_append]
    refine ba_ext ?_
    unfold BT
    have e : shB lt [l[0]] = shS lt l[0] := by simp [shB, shC]
    rw [e, ba_app]
    rfl
theorem T_lam (lt : Arr → ByteArray) {N : Nd} (hk : N.k = 10) (hb : N.bd ≠ []) (h : ∀ S ∈ N.bd, okS S = true) : T lt N = bra ++ BT lt N.bd ++ ket := by
  unfold T
  rw [shN_eq, if_neg (by omega), if_neg (by omega), if_neg (by omega), if_pos hk, show (⟨#[123]⟩ : ByteArray) :: (shB lt N.bd ++ [⟨#[125]⟩]) = [⟨#[123]⟩] ++ (shB lt N.bd ++ [⟨#[125]⟩]) by rfl, joinW_app (by simp) (by simp), joinW_app (shB_ne lt hb h) (by simp), joinW_one, joinW_one]
  refine ba_ext ?_
  simp only [ba_app, BT, blk, bra, ket]
  simp
theorem PT_nil (lt : Arr → ByteArray) (N : Nd) : PT lt (hasB [] N.k) N = T lt N := rfl
theorem T_4 (lt : Arr → ByteArray) {N A B : Nd} (hk : N.k = 4) (e : N.ks = [A, B]) (hA : shN lt A ≠ []) (hB : shN lt B ≠ []) : T lt N = PT lt (hasB [16] A.k) A ++ blk ++ T lt B := by
  unfold T
  rw [shN_eq, if_neg (by omega), if_pos hk, e, shK, shK, shK]
  show joinW (par [16] (A.k, shN lt A) ++ par [] (B.k, shN lt B)) = _
  rw [joinW_app (par_ne hA) (par_ne hB), joinW_par lt _ A hA, joinW_par lt _ B hB, PT_nil]
  rfl
theorem T_5 (lt : Arr → ByteArray) {N A B C : Nd} (hk : N.k = 5) (e : N.ks = [A, B, C]) (hA : shN lt A ≠ []) (hB : shN lt B ≠ []) (hC : shN lt C ≠ []) : T lt N = PT lt (hasB [4, 5] B.k) B ++ blk ++ PT lt (hasB [16] A.k) A ++ blk ++ T lt C := by
  unfold T
  rw [shN_eq, if_neg (by omega), if_neg (by omega), if_pos hk, e, shK, shK, shK, shK]
  show joinW (par [4, 5] (B.k, shN lt B) ++ (par [16] (A.k, shN lt A) ++ par [] (C.k, shN lt C))) = _
  rw [joinW_app (par_ne hB) (app_ne (par_ne hA)), joinW_app (par_ne hA) (par_ne hC), joinW_par lt _ A hA, joinW_par lt _ B hB, joinW_par lt _ C hC, PT_nil]
  refine ba_ext ?_
  simp only [ba_app, T]
  simp
theorem T_14 (lt : Arr → ByteArray) {N A B : Nd} (hk : N.k = 14) (e : N.ks = [A, B]) (hA : shN lt A ≠ []) (hB : shN lt B ≠ []) : T lt N = PT lt (hasB [16] B.k) B ++ blk ++ T lt A := by
  unfold T
  rw [shN_eq, if_neg (by omega), if_neg (by omega), if_neg (by omega), if_neg (by omega), if_pos hk, e, shK, shK, shK]
  show joinW (par [16] (B.k, shN lt B) ++ par [] (A.k, shN lt A)) = _
  rw [joinW_app (par_ne hB) (par_ne hA), joinW_par lt _ A hA, joinW_par lt _ B hB, PT_nil]
  rfl
theorem T_15 (lt : Arr → ByteArray) {N A B C : Nd} (hk : N.k = 15) (e : N.ks = [A, B, C]) (hA : shN lt A ≠ []) (hB : shN lt B ≠ []) (hC : shN lt C ≠ []) : T lt N = PT lt (hasB [16] B.k) B ++ blk ++ T lt A ++ blk ++ PT lt (hasB [16, 14, 15, 3, 4, 5] C.k) C := by
  have hp : hasB [3, 4, 5, 16, 14, 15] C.k = hasB [16, 14, 15, 3, 4, 5] C.k := by
    simp only [hasB, List.any_cons, List.any_nil]
    cases (3 == C.k) <;> cases (4 == C.k) <;> cases (5 == C.k) <;> cases (16 == C.k) <;> cases (14 == C.k) <;> cases (15 == C.k) <;> rfl
  rw [← hp]
  unfold T
  rw [shN_eq, if_neg (by omega), if_neg (by omega), if_neg (by omega), if_neg (by omega), if_neg (by omega), if_pos hk, e, shK, shK, shK, shK]
  show joinW (par [16] (B.k, shN lt B) ++ (par [] (A.k, shN lt A) ++ par [3, 4, 5, 16, 14, 15] (C.k, shN lt C))) = _
  rw [joinW_app (par_ne hB) (app_ne (par_ne hA)), joinW_app (par_ne hA) (par_ne hC), joinW_par lt _ A hA, joinW_par lt _ B hB, joinW_par lt _ C hC, PT_nil]
  refine ba_ext ?_
  simp only [ba_app, T]
  simp
theorem T_3 (lt : Arr → ByteArray) {N : Nd} (hk : N.k = 3) : T lt N = LT lt [3, 4, 5] N.ks := by
  unfold T LT
  rw [shN_eq, if_pos hk]
theorem T_16 (lt : Arr → ByteArray) {N : Nd} (hk : N.k = 16) : T lt N = LT lt [16, 4, 5] N.ks := by
  have hp : par [4, 5, 16] = par [16, 4, 5] := by
    funext x
    have : hasB [4, 5, 16] x.1 = hasB [16, 4, 5] x.1 := by
      simp only [hasB, List.any_cons, List.any_nil]
      cases (4 == x.1) <;> cases (5 == x.1) <;> cases (16 == x.1) <;> rfl
    unfold par
    rw [this]
  unfold T LT
  rw [shN_eq, if_neg (by omega), if_neg (by omega), if_neg (by omega), if_neg (by omega), if_neg (by omega), if_neg (by omega), if_pos hk, hp]
theorem T_word (lt : Arr → ByteArray) {N : Nd} (hk : ¬ N.k = 3 ∧ ¬ N.k = 4 ∧ ¬ N.k = 5 ∧ ¬ N.k = 10 ∧ ¬ N.k = 14 ∧ ¬ N.k = 15 ∧ ¬ N.k = 16) : T lt N = wdB lt N := by
  unfold T
  rw [shN_eq, if_neg hk.1, if_neg hk.2.1, if_neg hk.2.2.1, if_neg hk.2.2.2.1, if_neg hk.2.2.2.2.1, if_neg hk.2.2.2.2.2.1, if_neg hk.2.2.2.2.2.2, joinW_one]
theorem joinW_size (l : List ByteArray) (h : ∀ s ∈ l, s.size ≤ 1000000) : (joinW l).size ≤ l.length * 1000001 := by
  have := join_len [32] 1000000 (l.map (·.data.toList)) (by
    intro x hx
    obtain ⟨s, hs, rfl⟩ := List.mem_map.1 hx
    have := h s hs
    have e : s.size = s.data.toList.length := by simp
    omega)
  have e : (joinW l).size = (Lib.join (l.map (·.data.toList)) [32]).length := by
    unfold joinW
    show (List.toArray _).size = _
    simp
  rw [e]
  simpa using this
end Go.Proofs.YtghmbmjikkdbnaaGreatDoor.Syn

namespace Go.Proofs.YtghmbmjikkdbnaaGreatDoor.Syn
open Go.RowKit Go.Proofs.YtghmbmjikkdbnaaGreatDoor.Shape
set_option linter.unusedVariables false
set_option linter.unusedSimpArgs false
set_option maxRecDepth 100000
set_option maxHeartbeats 4000000 in
theorem amongR (cs : List Value) (N : Nd) (a : Option Addr) (cap : Nat) (l : List Int) (w : World) (h : NdV w cs N) (hl : IntsAt w a cap l) :
    Calls Tryz.prog 72 #[.agg cs.toArray, .slice a l.length cap] w fun e w' => e = .returned (.bool (hasB l N.k)) ∧ Below w.heap.size w w' := by
  obtain ⟨v0, v1, v2, v3, ka, kc, ba, bc, kb, ko, bb, bo, O⟩ := h.open
  have he := O.eq
  subst he
  have hP := NPar.new w [.int .i64 N.k, .int .i64 N.a, .int .i64 N.c, .string N.t, .int .i64 N.p, .int .i64 N.o, v0, v1, v2, v3, .slice ka N.ks.length kc, .slice ba N.bd.length bc, .int .i64 N.d, .int .i64 N.s, .int .i64 N.z] 34
  have BN := below_new w (.cells [.int .i64 N.k, .int .i64 N.a, .int .i64 N.c, .string N.t, .int .i64 N.p, .int .i64 N.o, v0, v1, v2, v3, .slice ka N.ks.length kc, .slice ba N.bd.length bc, .int .i64 N.d, .int .i64 N.s, .int .i64 N.z].toArray 34)
  obtain ⟨p0, -⟩ := hP.fip
  have hk2 := hl.len
  have hl1 := IntsAt.below hl BN
  clear hP
  go_enter Tryz.func72, Tryz.ntmps72
  go_wp2
  go_loopw [5] (fun i wr => ∃ j : Nat, j ≤ l.length ∧ i = .int .i64 j ∧ wr.cell? ⟨w.heap.size, 0, none⟩ = some (.int .i64 N.k) ∧ Below w.heap.size w wr ∧ ∀ i (h : i < l.length), i < j → (l[i] == N.k) = false) (fun i _ => l.length - (intOf i).toNat)
  case atStart => exact ⟨0, Nat.zero_le _, rfl, p0, BN, fun i _ hi => absurd hi (Nat.not_lt_zero _)⟩
  case round =>
    clear p0
    obtain ⟨j, hj, rfl, p0, hb, he⟩ := hrel
    have HE : Hid (∀ i (h : i < l.length), i < j → (l[i] == N.k) = false) := he
    clear he
    by_cases hlt : j < l.length
    · obtain ⟨b2, off2, hi2, hc2⟩ := kinds_at (h := hl) hlt
      have hc3 := (hb.cell (cell_lt hc2)).trans hc2
      cases q : (l[j] == N.k) with
      | true =>
        have q' : (N.k == l[j]) = true := beq_iff_eq.2 (beq_iff_eq.1 q).symm
        have HG : Hid (hasB l N.k = true) := by unfold Hid hasB; rw [List.any_eq_true]; exact ⟨l[j], List.getElem_mem hlt, q⟩
        clear q hc2
        go_wp2_with fail
        go_quiet (fail)
        go_wp2_with fail
        go_ret
        exact ⟨ret_bool HG.out.symm, Below.then hb (Shape.below_drewN _)⟩
      | false =>
        have q' : (N.k == l[j]) = false := beq_eq_false_iff_ne.2 (fun e => (beq_eq_false_iff_ne.1 q) e.symm)
        have HC : Hid ((l[j] == N.k) = false) := q
        clear q hc2
        go_wp2_with fail
        go_quiet (fail)
        go_wp2_with fail
        go_roundw
        case rel => exact ⟨j + 1, by omega, by go_num, p0, Below.then hb (Shape.below_drewN _), fun i h1 h2 => by
          by_cases e : i = j
          · subst e; exact HC.out
          · exact HE.out i h1 (by omega)⟩
        case measure => simp [intOf]; omega
    · have HG : Hid (hasB l N.k = false) := by
        unfold Hid hasB; rw [List.any_eq_false]
        intro y hy
        obtain ⟨i, hi, rfl⟩ := List.getElem_of_mem hy
        rw [HE.out i hi (by omega)]; exact Bool.false_ne_true
      go_wp2_with fail
      go_ret
      exact ⟨ret_bool HG.out.symm, hb⟩
theorem elemStr2 : Tryz.prog.underlying 70 = some (.slice (Tryz.prog.elem 70)) := by kernel_rfl
theorem sizeStr2 (w : World) : (sizeOf (Tryz.prog.elem 70)).run Tryz.prog w = .ok 1 w := by kernel_rfl
theorem primNameR_row (w : World) (k : Nat) (hk : k < 55) : (w.alloc (.cells #[.string ⟨#[43]⟩, .string ⟨#[45]⟩, .string ⟨#[42]⟩, .string ⟨#[37]⟩, .string ⟨#[124]⟩, .string ⟨#[94]⟩, .string ⟨#[109, 105, 110]⟩, .string ⟨#[109, 97, 120]⟩, .string ⟨#[60]⟩, .string ⟨#[60, 61]⟩, .string ⟨#[61]⟩, .string ⟨#[126, 61]⟩, .string ⟨#[62, 61]⟩, .string ⟨#[62]⟩, .string ⟨#[97, 110, 100]⟩, .string ⟨#[111, 114]⟩, .string ⟨#[110, 111, 116]⟩, .string ⟨#[115, 104, 97, 112, 101]⟩, .string ⟨#[114, 101, 115, 104, 97, 112, 101]⟩, .string ⟨#[116, 97, 108, 108, 121]⟩, .string ⟨#[100, 101, 112, 116, 104]⟩, .string ⟨#[44]⟩, .string ⟨#[115, 116, 97, 99, 107]⟩, .string ⟨#[105, 111, 116, 97]⟩, .string ⟨#[116, 97, 107, 101]⟩, .string ⟨#[100, 114, 111, 112]⟩, .string ⟨#[102, 105, 114, 115, 116]⟩, .string ⟨#[114, 101, 118, 101, 114, 115, 101]⟩, .string ⟨#[114, 111, 116, 97, 116, 101]⟩, .string ⟨#[116, 114, 97, 110, 115, 112, 111, 115, 101]⟩, .string ⟨#[102, 114, 111, 109]⟩, .string ⟨#[112, 105, 99, 107]⟩, .string ⟨#[115, 101, 108, 101, 99, 116]⟩, .string ⟨#[97, 109, 101, 110, 100]⟩, .string ⟨#[117, 112]⟩, .string ⟨#[100, 111, 119, 110]⟩, .string ⟨#[115, 111, 114, 116]⟩, .string ⟨#[102, 105, 110, 100]⟩, .string ⟨#[105, 110]⟩, .string ⟨#[117, 110, 105, 113, 117, 101]⟩, .string ⟨#[119, 104, 101, 114, 101]⟩, .string ⟨#[99, 111, 112, 121]⟩, .string ⟨#[101, 120, 112, 97, 110, 100]⟩, .string ⟨#[99, 117, 116]⟩, .string ⟨#[101, 110, 99, 111, 100, 101]⟩, .string ⟨#[100, 101, 99, 111, 100, 101]⟩, .string ⟨#[98, 111, 120]⟩, .string ⟨#[111, 112, 101, 110]⟩, .string ⟨#[115, 97, 109, 101]⟩, .string ⟨#[107, 105, 110, 100]⟩, .string ⟨#[111, 114, 100]⟩, .string ⟨#[99, 104, 114]⟩, .string ⟨#[102, 111, 114, 109, 97, 116]⟩, .string ⟨#[108, 101, 102, 116]⟩, .string ⟨#[114, 105, 103, 104, 116]⟩] 9)).cell? ⟨w.heap.size, k, none⟩ = some (.string (primT.getD (k + 1) ⟨#[]⟩)) := by
  have e : (#[.string ⟨#[43]⟩, .string ⟨#[45]⟩, .string ⟨#[42]⟩, .string ⟨#[37]⟩, .string ⟨#[124]⟩, .string ⟨#[94]⟩, .string ⟨#[109, 105, 110]⟩, .string ⟨#[109, 97, 120]⟩, .string ⟨#[60]⟩, .string ⟨#[60, 61]⟩, .string ⟨#[61]⟩, .string ⟨#[126, 61]⟩, .string ⟨#[62, 61]⟩, .string ⟨#[62]⟩, .string ⟨#[97, 110, 100]⟩, .string ⟨#[111, 114]⟩, .string ⟨#[110, 111, 116]⟩, .string ⟨#[115, 104, 97, 112, 101]⟩, .string ⟨#[114, 101, 115, 104, 97, 112, 101]⟩, .string ⟨#[116, 97, 108, 108, 121]⟩, .string ⟨#[100, 101, 112, 116, 104]⟩, .string ⟨#[44]⟩, .string ⟨#[115, 116, 97, 99, 107]⟩, .string ⟨#[105, 111, 116, 97]⟩, .string ⟨#[116, 97, 107, 101]⟩, .string ⟨#[100, 114, 111, 112]⟩, .string ⟨#[102, 105, 114, 115, 116]⟩, .string ⟨#[114, 101, 118, 101, 114, 115, 101]⟩, .string ⟨#[114, 111, 116, 97, 116, 101]⟩, .string ⟨#[116, 114, 97, 110, 115, 112, 111, 115, 101]⟩, .string ⟨#[102, 114, 111, 109]⟩, .string ⟨#[112, 105, 99, 107]⟩, .string ⟨#[115, 101, 108, 101, 99, 116]⟩, .string ⟨#[97, 109, 101, 110, 100]⟩, .string ⟨#[117, 112]⟩, .string ⟨#[100, 111, 119, 110]⟩, .string ⟨#[115, 111, 114, 116]⟩, .string ⟨#[102, 105, 110, 100]⟩, .string ⟨#[105, 110]⟩, .string ⟨#[117, 110, 105, 113, 117, 101]⟩, .string ⟨#[119, 104, 101, 114, 101]⟩, .string ⟨#[99, 111, 112, 121]⟩, .string ⟨#[101, 120, 112, 97, 110, 100]⟩, .string ⟨#[99, 117, 116]⟩, .string ⟨#[101, 110, 99, 111, 100, 101]⟩, .string ⟨#[100, 101, 99, 111, 100, 101]⟩, .string ⟨#[98, 111, 120]⟩, .string ⟨#[111, 112, 101, 110]⟩, .string ⟨#[115, 97, 109, 101]⟩, .string ⟨#[107, 105, 110, 100]⟩, .string ⟨#[111, 114, 100]⟩, .string ⟨#[99, 104, 114]⟩, .string ⟨#[102, 111, 114, 109, 97, 116]⟩, .string ⟨#[108, 101, 102, 116]⟩, .string ⟨#[114, 105, 103, 104, 116]⟩] : Array Value) = ((primT.drop 1).map Value.string).toArray := rfl
  have := (cells_new w ((primT.drop 1).map Value.string) 9) k (by simpa [primT] using hk)
  rw [Nat.zero_add] at this
  rw [e, this]
  simp only [List.getElem_map, List.getElem_drop]
  rw [List.getD_eq_getElem?_getD, List.getElem?_eq_getElem (by show k + 1 < 56; omega)]
  simp only [Option.getD_some, Nat.add_comm 1 k]
set_option maxHeartbeats 4000000 in
theorem primNameR (p : Int) (hp : 1 ≤ p ∧ p ≤ 55) (w : World) : Calls Tryz.prog 99 #[.int .i64 p] w fun e w' => e = .returned (.string (primT.getD p.toNat ⟨#[]⟩)) ∧ Below w.heap.size w w' := by
  obtain ⟨k, hk⟩ : ∃ k : Nat, p = (k : Int) + 1 := ⟨(p - 1).toNat, by omega⟩
  subst hk
  rw [show ((k : Int) + 1).toNat = k + 1 by omega]
  have hc := primNameR_row w k (by omega)
  have bw := below_new w (.cells #[.string ⟨#[43]⟩, .string ⟨#[45]⟩, .string ⟨#[42]⟩, .string ⟨#[37]⟩, .string ⟨#[124]⟩, .string ⟨#[94]⟩, .string ⟨#[109, 105, 110]⟩, .string ⟨#[109, 97, 120]⟩, .string ⟨#[60]⟩, .string ⟨#[60, 61]⟩, .string ⟨#[61]⟩, .string ⟨#[126, 61]⟩, .string ⟨#[62, 61]⟩, .string ⟨#[62]⟩, .string ⟨#[97, 110, 100]⟩, .string ⟨#[111, 114]⟩, .string ⟨#[110, 111, 116]⟩, .string ⟨#[115, 104, 97, 112, 101]⟩, .string ⟨#[114, 101, 115, 104, 97, 112, 101]⟩, .string ⟨#[116, 97, 108, 108, 121]⟩, .string ⟨#[100, 101, 112, 116, 104]⟩, .string ⟨#[44]⟩, .string ⟨#[115, 116, 97, 99, 107]⟩, .string ⟨#[105, 111, 116, 97]⟩, .string ⟨#[116, 97, 107, 101]⟩, .string ⟨#[100, 114, 111, 112]⟩, .string ⟨#[102, 105, 114, 115, 116]⟩, .string ⟨#[114, 101, 118, 101, 114, 115, 101]⟩, .string ⟨#[114, 111, 116, 97, 116, 101]⟩, .string ⟨#[116, 114, 97, 110, 115, 112, 111, 115, 101]⟩, .string ⟨#[102, 114, 111, 109]⟩, .string ⟨#[112, 105, 99, 107]⟩, .string ⟨#[115, 101, 108, 101, 99, 116]⟩, .string ⟨#[97, 109, 101, 110, 100]⟩, .string ⟨#[117, 112]⟩, .string ⟨#[100, 111, 119, 110]⟩, .string ⟨#[115, 111, 114, 116]⟩, .string ⟨#[102, 105, 110, 100]⟩, .string ⟨#[105, 110]⟩, .string ⟨#[117, 110, 105, 113, 117, 101]⟩, .string ⟨#[119, 104, 101, 114, 101]⟩, .string ⟨#[99, 111, 112, 121]⟩, .string ⟨#[101, 120, 112, 97, 110, 100]⟩, .string ⟨#[99, 117, 116]⟩, .string ⟨#[101, 110, 99, 111, 100, 101]⟩, .string ⟨#[100, 101, 99, 111, 100, 101]⟩, .string ⟨#[98, 111, 120]⟩, .string ⟨#[111, 112, 101, 110]⟩, .string ⟨#[115, 97, 109, 101]⟩, .string ⟨#[107, 105, 110, 100]⟩, .string ⟨#[111, 114, 100]⟩, .string ⟨#[99, 104, 114]⟩, .string ⟨#[102, 111, 114, 109, 97, 116]⟩, .string ⟨#[108, 101, 102, 116]⟩, .string ⟨#[114, 105, 103, 104, 116]⟩] 9)
  obtain ⟨s, hs⟩ : ∃ s, primT.getD (k + 1) ⟨#[]⟩ = s := ⟨_, rfl⟩
  rw [hs] at hc ⊢
  have hi : ∀ w' : World, (Instr.indexAt 70 (.slice (some ⟨w.heap.size, 0, none⟩) 55 55) (.int .i64 (k : Int))).run Tryz.prog w' = .ok (.pointer (some ⟨w.heap.size, k, none⟩)) w' := fun w' => by
    rw [run_indexAt_slice w' _ _ _ _ .i64 k elemStr2, if_pos (by omega), sizeStr2]
    show Result.ok _ w' = _
    rw [show ((k : Int).toNat * 1) = k by omega, Shape.add_plain, Nat.zero_add]
  have hsub : (k : Int) + 1 - 1 = (k : Int) := by omega
  clear hs
  go_enter Tryz.func99, Tryz.ntmps99
  go_wp2_with fail
  go_ret
  exact ⟨rfl, bw⟩
theorem opNameR_row (w : World) (k : Nat) (hk : k < 11) : (w.alloc (.cells #[.string ⟨#[47]⟩, .string ⟨#[92]⟩, .string ⟨#[101, 97, 99, 104]⟩, .string ⟨#[115, 119, 97, 112]⟩, .string ⟨#[111, 117, 116, 101, 114]⟩, .string ⟨#[105, 110, 110, 101, 114]⟩, .string ⟨#[114, 97, 110, 107]⟩, .string ⟨#[112, 111, 119, 101, 114]⟩, .string ⟨#[115, 116, 101, 110, 99, 105, 108]⟩, .string ⟨#[97, 116, 111, 112]⟩, .string ⟨#[111, 118, 101, 114]⟩] 9)).cell? ⟨w.heap.size, k, none⟩ = some (.string (opT.getD (k + 1) ⟨#[]⟩)) := by
  have e : (#[.string ⟨#[47]⟩, .string ⟨#[92]⟩, .string ⟨#[101, 97, 99, 104]⟩, .string ⟨#[115, 119, 97, 112]⟩, .string ⟨#[111, 117, 116, 101, 114]⟩, .string ⟨#[105, 110, 110, 101, 114]⟩, .string ⟨#[114, 97, 110, 107]⟩, .string ⟨#[112, 111, 119, 101, 114]⟩, .string ⟨#[115, 116, 101, 110, 99, 105, 108]⟩, .string ⟨#[97, 116, 111, 112]⟩, .string ⟨#[111, 118, 101, 114]⟩] : Array Value) = ((opT.drop 1).map Value.string).toArray := rfl
  have := (cells_new w ((opT.drop 1).map Value.string) 9) k (by simpa [opT] using hk)
  rw [Nat.zero_add] at this
  rw [e, this]
  simp only [List.getElem_map, List.getElem_drop]
  rw [List.getD_eq_getElem?_getD, List.getElem?_eq_getElem (by show k + 1 < 12; omega)]
  simp only [Option.getD_some, Nat.add_comm 1 k]
set_option maxHeartbeats 4000000 in
theorem opNameR (p : Int) (hp : 1 ≤ p ∧ p ≤ 11) (w : World) : Calls Tryz.prog 100 #[.int .i64 p] w fun e w' => e = .returned (.string (opT.getD p.toNat ⟨#[]⟩)) ∧ Below w.heap.size w w' := by
  obtain ⟨k, hk⟩ : ∃ k : Nat, p = (k : Int) + 1 := ⟨(p - 1).toNat, by omega⟩
  subst hk
  rw [show ((k : Int) + 1).toNat = k + 1 by omega]
  have hc := opNameR_row w k (by omega)
  have bw := below_new w (.cells #[.string ⟨#[47]⟩, .string ⟨#[92]⟩, .string ⟨#[101, 97, 99, 104]⟩, .string ⟨#[115, 119, 97, 112]⟩, .string ⟨#[111, 117, 116, 101, 114]⟩, .string ⟨#[105, 110, 110, 101, 114]⟩, .string ⟨#[114, 97, 110, 107]⟩, .string ⟨#[112, 111, 119, 101, 114]⟩, .string ⟨#[115, 116, 101, 110, 99, 105, 108]⟩, .string ⟨#[97, 116, 111, 112]⟩, .string ⟨#[111, 118, 101, 114]⟩] 9)
  obtain ⟨s, hs⟩ : ∃ s, opT.getD (k + 1) ⟨#[]⟩ = s := ⟨_, rfl⟩
  rw [hs] at hc ⊢
  have hi : ∀ w' : World, (Instr.indexAt 70 (.slice (some ⟨w.heap.size, 0, none⟩) 11 11) (.int .i64 (k : Int))).run Tryz.prog w' = .ok (.pointer (some ⟨w.heap.size, k, none⟩)) w' := fun w' => by
    rw [run_indexAt_slice w' _ _ _ _ .i64 k elemStr2, if_pos (by omega), sizeStr2]
    show Result.ok _ w' = _
    rw [show ((k : Int).toNat * 1) = k by omega, Shape.add_plain, Nat.zero_add]
  have hsub : (k : Int) + 1 - 1 = (k : Int) := by omega
  clear hs
  go_enter Tryz.func100, Tryz.ntmps100
  go_wp2_with fail
  go_ret
  exact ⟨rfl, bw⟩
theorem ok_leaf {N : Nd} (h : okN N = true) (hk : ¬ N.k = 3 ∧ ¬ N.k = 4 ∧ ¬ N.k = 5 ∧ ¬ N.k = 10 ∧ ¬ N.k = 14 ∧ ¬ N.k = 15 ∧ ¬ N.k = 16) : N.k = 1 ∨ N.k = 2 ∨ N.k = 6 ∨ N.k = 7 ∨ N.k = 8 ∨ N.k = 9 ∨ N.k = 11 ∨ N.k = 12 ∨ N.k = 13 ∨ N.k = 17 := by
  rw [okN_eqP, if_neg hk.2.2.2.1] at h
  simp only [Bool.and_eq_true, Bool.or_eq_true] at h
  rcases h.2 with g | g
  · unfold leafB at g
    by_cases a1 : N.k = 1
    · omega
    by_cases a2 : N.k = 2
    · omega
    by_cases a3 : N.k = 6 ∨ N.k = 7 ∨ N.k = 8
    · omega
    by_cases a4 : N.k = 9
    · omega
    by_cases a5 : N.k = 11 ∨ N.k = 12 ∨ N.k = 13
    · omega
    by_cases a6 : N.k = 17
    · omega
    rw [if_neg a1, if_neg a2, if_neg a3, if_neg a4, if_neg a5, if_neg a6] at g
    cases g
  · have g := g.1
    unfold innerB at g
    rw [if_neg hk.1, if_neg hk.2.1, if_neg hk.2.2.1, if_neg hk.2.2.2.2.1, if_neg hk.2.2.2.2.2.1, if_neg hk.2.2.2.2.2.2] at g
    simp at g
def LitR (W0 : World) (A : Arr) (s : ByteArray) : Prop := ∀ v w, Below W0.heap.size W0 w → ArrAt w v A → Calls Tryz.prog 98 #[v] w fun e w' => e = .returned (.string s) ∧ Below w.heap.size w w'
set_option maxHeartbeats 8000000 in
theorem wordR (lt : Arr → ByteArray) (cs : List Value) (N : Nd) (W0 w : World) (hb : Below W0.heap.size W0 w) (h : NdV w cs N) (hok : okN N = true) (HL : N.k = 1 → LitR W0 N.v (lt N.v))
    (hk : ¬ N.k = 3 ∧ ¬ N.k = 4 ∧ ¬ N.k = 5 ∧ ¬ N.k = 10 ∧ ¬ N.k = 14 ∧ ¬ N.k = 15 ∧ ¬ N.k = 16) :
    Calls Tryz.prog 74 #[.agg cs.toArray] w fun e w' => e = .returned (.string (wdB lt N)) ∧ Below w.heap.size w w' := by
  obtain ⟨v0, v1, v2, v3, ka, kc, ba, bc, kb, ko, bb, bo, O⟩ := h.open
  have he := O.eq
  subst he
  have hP := NPar.new w [.int .i64 N.k, .int .i64 N.a, .int .i64 N.c, .string N.t, .int .i64 N.p, .int .i64 N.o, v0, v1, v2, v3, .slice ka N.ks.length kc, .slice ba N.bd.length bc, .int .i64 N.d, .int .i64 N.s, .int .i64 N.z] 34
  have BN := below_new w (.cells [.int .i64 N.k, .int .i64 N.a, .int .i64 N.c, .string N.t, .int .i64 N.p, .int .i64 N.o, v0, v1, v2, v3, .slice ka N.ks.length kc, .slice ba N.bd.length bc, .int .i64 N.d, .int .i64 N.s, .int .i64 N.z].toArray 34)
  obtain ⟨g0, -, g2, g3, g4, g5, g6, g7, g8, g9, -⟩ := hP.fip
  obtain ⟨r, hr⟩ : ∃ r, wdB lt N = r := ⟨_, rfl⟩
  rw [hr]
  have HQ : Hid (wdB lt N = r) := hr
  have ar := O.arr
  have hbn := Below.then hb BN
  have O9 := ok_prim hok
  have O17 := ok_op hok
  have OK : N.k = 1 ∨ N.k = 2 ∨ N.k = 6 ∨ N.k = 7 ∨ N.k = 8 ∨ N.k = 9 ∨ N.k = 11 ∨ N.k = 12 ∨ N.k = 13 ∨ N.k = 17 := ok_leaf hok hk
  clear hr O hP hok hk
  unfold wdB at HQ
  rcases OK with k | k | k | k | k | k | k | k | k | k
  · simp only [k] at HQ
    have e1 : (N.k == 1) = true := by rw [k]; rfl
    have e2 : (N.k == 2) = false := by rw [k]; rfl
    have e9 : (N.k == 9) = false := by rw [k]; rfl
    have e17 : (N.k == 17) = false := by rw [k]; rfl
    have e6 : (N.k == 6) = false := by rw [k]; rfl
    have e7 : (N.k == 7) = false := by rw [k]; rfl
    have e8 : (N.k == 8) = false := by rw [k]; rfl
    have e11 : (N.k == 11) = false := by rw [k]; rfl
    have e12 : (N.k == 12) = false := by rw [k]; rfl
    have HG : Hid (lt N.v = r) := HQ
    have K := HL k (.agg #[v0, v1, v2, v3]) _ hbn (ar.below BN)
    clear HQ O9 O17 k
    go_enter Tryz.func74, Tryz.ntmps74
    go_wp2_with (go_at_call 98; ((with_reducible refine K.mono ?_); rintro e w3 ⟨rfl, b3⟩))
    go_ret
    exact ⟨by rw [← HG.out]; rfl, Below.then BN b3⟩
  · simp only [k] at HQ
    have e1 : (N.k == 1) = false := by rw [k]; rfl
    have e2 : (N.k == 2) = true := by rw [k]; rfl
    have e9 : (N.k == 9) = false := by rw [k]; rfl
    have e17 : (N.k == 17) = false := by rw [k]; rfl
    have e6 : (N.k == 6) = false := by rw [k]; rfl
    have e7 : (N.k == 7) = false := by rw [k]; rfl
    have e8 : (N.k == 8) = false := by rw [k]; rfl
    have e11 : (N.k == 11) = false := by rw [k]; rfl
    have e12 : (N.k == 12) = false := by rw [k]; rfl
    have HG : Hid (N.t = r) := HQ
    clear HL
    clear HQ O9 O17 k
    go_enter Tryz.func74, Tryz.ntmps74
    go_wp2_with fail
    go_ret
    exact ⟨by rw [← HG.out]; rfl, BN⟩
  · simp only [k] at HQ
    have e1 : (N.k == 1) = false := by rw [k]; rfl
    have e2 : (N.k == 2) = false := by rw [k]; rfl
    have e9 : (N.k == 9) = false := by rw [k]; rfl
    have e17 : (N.k == 17) = false := by rw [k]; rfl
    have e6 : (N.k == 6) = true := by rw [k]; rfl
    have e7 : (N.k == 7) = false := by rw [k]; rfl
    have e8 : (N.k == 8) = false := by rw [k]; rfl
    have e11 : (N.k == 11) = false := by rw [k]; rfl
    have e12 : (N.k == 12) = false := by rw [k]; rfl
    have HG : Hid (⟨#[88]⟩ = r) := HQ
    clear HL
    clear HQ O9 O17 k
    go_enter Tryz.func74, Tryz.ntmps74
    go_wp2_with fail
    go_ret
    exact ⟨by rw [← HG.out]; rfl, BN⟩
  · simp only [k] at HQ
    have e1 : (N.k == 1) = false := by rw [k]; rfl
    have e2 : (N.k == 2) = false := by rw [k]; rfl
    have e9 : (N.k == 9) = false := by rw [k]; rfl
    have e17 : (N.k == 17) = false := by rw [k]; rfl
    have e6 : (N.k == 6) = false := by rw [k]; rfl
    have e7 : (N.k == 7) = true := by rw [k]; rfl
    have e8 : (N.k == 8) = false := by rw [k]; rfl
    have e11 : (N.k == 11) = false := by rw [k]; rfl
    have e12 : (N.k == 12) = false := by rw [k]; rfl
    have HG : Hid (⟨#[89]⟩ = r) := HQ
    clear HL
    clear HQ O9 O17 k
    go_enter Tryz.func74, Tryz.ntmps74
    go_wp2_with fail
    go_ret
    exact ⟨by rw [← HG.out]; rfl, BN⟩
  · simp only [k] at HQ
    have e1 : (N.k == 1) = false := by rw [k]; rfl
    have e2 : (N.k == 2) = false := by rw [k]; rfl
    have e9 : (N.k == 9) = false := by rw [k]; rfl
    have e17 : (N.k == 17) = false := by rw [k]; rfl
    have e6 : (N.k == 6) = false := by rw [k]; rfl
    have e7 : (N.k == 7) = false := by rw [k]; rfl
    have e8 : (N.k == 8) = true := by rw [k]; rfl
    have e11 : (N.k == 11) = false := by rw [k]; rfl
    have e12 : (N.k == 12) = false := by rw [k]; rfl
    have HG : Hid (⟨#[97, 114, 103]⟩ = r) := HQ
    clear HL
    clear HQ O9 O17 k
    go_enter Tryz.func74, Tryz.ntmps74
    go_wp2_with fail
    go_ret
    exact ⟨by rw [← HG.out]; rfl, BN⟩
  · simp only [k] at HQ
    have e1 : (N.k == 1) = false := by rw [k]; rfl
    have e2 : (N.k == 2) = false := by rw [k]; rfl
    have e9 : (N.k == 9) = true := by rw [k]; rfl
    have e17 : (N.k == 17) = false := by rw [k]; rfl
    have e6 : (N.k == 6) = false := by rw [k]; rfl
    have e7 : (N.k == 7) = false := by rw [k]; rfl
    have e8 : (N.k == 8) = false := by rw [k]; rfl
    have e11 : (N.k == 11) = false := by rw [k]; rfl
    have e12 : (N.k == 12) = false := by rw [k]; rfl
    have HG : Hid (primT.getD N.p.toNat ⟨#[]⟩ = r) := HQ
    have K := fun w => primNameR N.p (O9 k) w
    clear HL
    clear HQ O9 O17 k
    go_enter Tryz.func74, Tryz.ntmps74
    go_wp2_with (go_at_call 99; ((with_reducible refine (K _).mono ?_); rintro e w3 ⟨rfl, b3⟩))
    go_ret
    exact ⟨by rw [← HG.out]; rfl, Below.then BN b3⟩
  · simp only [k] at HQ
    have e1 : (N.k == 1) = false := by rw [k]; rfl
    have e2 : (N.k == 2) = false := by rw [k]; rfl
    have e9 : (N.k == 9) = false := by rw [k]; rfl
    have e17 : (N.k == 17) = false := by rw [k]; rfl
    have e6 : (N.k == 6) = false := by rw [k]; rfl
    have e7 : (N.k == 7) = false := by rw [k]; rfl
    have e8 : (N.k == 8) = false := by rw [k]; rfl
    have e11 : (N.k == 11) = true := by rw [k]; rfl
    have e12 : (N.k == 12) = false := by rw [k]; rfl
    have HG : Hid (⟨#[115, 101, 108, 102]⟩ = r) := HQ
    clear HL
    clear HQ O9 O17 k
    go_enter Tryz.func74, Tryz.ntmps74
    go_wp2_with fail
    go_ret
    exact ⟨by rw [← HG.out]; rfl, BN⟩
  · simp only [k] at HQ
    have e1 : (N.k == 1) = false := by rw [k]; rfl
    have e2 : (N.k == 2) = false := by rw [k]; rfl
    have e9 : (N.k == 9) = false := by rw [k]; rfl
    have e17 : (N.k == 17) = false := by rw [k]; rfl
    have e6 : (N.k == 6) = false := by rw [k]; rfl
    have e7 : (N.k == 7) = false := by rw [k]; rfl
    have e8 : (N.k == 8) = false := by rw [k]; rfl
    have e11 : (N.k == 11) = false := by rw [k]; rfl
    have e12 : (N.k == 12) = true := by rw [k]; rfl
    have HG : Hid (⟨#[70]⟩ = r) := HQ
    clear HL
    clear HQ O9 O17 k
    go_enter Tryz.func74, Tryz.ntmps74
    go_wp2_with fail
    go_ret
    exact ⟨by rw [← HG.out]; rfl, BN⟩
  · simp only [k] at HQ
    have e1 : (N.k == 1) = false := by rw [k]; rfl
    have e2 : (N.k == 2) = false := by rw [k]; rfl
    have e9 : (N.k == 9) = false := by rw [k]; rfl
    have e17 : (N.k == 17) = false := by rw [k]; rfl
    have e6 : (N.k == 6) = false := by rw [k]; rfl
    have e7 : (N.k == 7) = false := by rw [k]; rfl
    have e8 : (N.k == 8) = false := by rw [k]; rfl
    have e11 : (N.k == 11) = false := by rw [k]; rfl
    have e12 : (N.k == 12) = false := by rw [k]; rfl
    have HG : Hid (⟨#[71]⟩ = r) := HQ
    clear HL
    clear HQ O9 O17 k
    go_enter Tryz.func74, Tryz.ntmps74
    go_wp2_with fail
    go_ret
    exact ⟨by rw [← HG.out]; rfl, BN⟩
  · simp only [k] at HQ
    have e1 : (N.k == 1) = false := by rw [k]; rfl
    have e2 : (N.k == 2) = false := by rw [k]; rfl
    have e9 : (N.k == 9) = false := by rw [k]; rfl
    have e17 : (N.k == 17) = true := by rw [k]; rfl
    have e6 : (N.k == 6) = false := by rw [k]; rfl
    have e7 : (N.k == 7) = false := by rw [k]; rfl
    have e8 : (N.k == 8) = false := by rw [k]; rfl
    have e11 : (N.k == 11) = false := by rw [k]; rfl
    have e12 : (N.k == 12) = false := by rw [k]; rfl
    have HG : Hid (opT.getD N.o.toNat ⟨#[]⟩ = r) := HQ
    have K := fun w => opNameR N.o (O17 k) w
    clear HL
    clear HQ O9 O17 k
    go_enter Tryz.func74, Tryz.ntmps74
    go_wp2_with (go_at_call 100; ((with_reducible refine (K _).mono ?_); rintro e w3 ⟨rfl, b3⟩))
    go_ret
    exact ⟨by rw [← HG.out]; rfl, Below.then BN b3⟩
end Go.Proofs.YtghmbmjikkdbnaaGreatDoor.Syn

namespace Go.Proofs.YtghmbmjikkdbnaaGreatDoor.Syn
open Go.RowKit Go.Proofs.YtghmbmjikkdbnaaGreatDoor.Shape
set_option linter.unusedVariables false
set_option linter.unusedSimpArgs false
set_option maxRecDepth 100000
structure Fine (lt : Arr → ByteArray) (W0 : World) (N : Nd) : Prop where
  ok : okN N = true
  lq : lqN (fun A => LitR W0 A (lt A) ∧ (lt A).size ≤ 1000000) N
  sz : siz N ≤ 16384
theorem Fine.kid {lt : Arr → ByteArray} {W0 : World} {N : Nd} (h : Fine lt W0 N) {j : Nat} (hj : j < N.ks.length) : Fine lt W0 N.ks[j] := by
  have l := h.lq
  rw [lqN_eq] at l
  exact ⟨ok_ks0 h.ok hj, lqK_at l.2.1 hj, by have := (kid_small N hj).1; have := h.sz; omega⟩
theorem Fine.ne {lt : Arr → ByteArray} {W0 : World} {N : Nd} (h : Fine lt W0 N) : shN lt N ≠ [] := shN_ne' lt h.ok
theorem Fine.small {lt : Arr → ByteArray} {W0 : World} {N : Nd} (h : Fine lt W0 N) : ∀ s ∈ shN lt N, s.size ≤ 1000000 := sh_small lt _ N (Nat.lt_succ_self _) h.ok (lqN_mono (fun A hA => hA.2) _ N (Nat.lt_succ_self _) h.lq)
theorem words_size {l : List ByteArray} {n : Nat} (h : ∀ s ∈ l, s.size ≤ 1000000) (hl : l.length ≤ 8 * n) (hn : n ≤ 16384) : (joinW l).size ≤ 140000000000 := by
  have h1 := joinW_size l h
  have h2 : l.length * 1000001 ≤ 131072 * 1000001 := Nat.mul_le_mul_right _ (by omega)
  omega
theorem Fine.size {lt : Arr → ByteArray} {W0 : World} {N : Nd} (h : Fine lt W0 N) : (T lt N).size ≤ 140000000000 := words_size h.small (by have := shN_len lt _ N (Nat.lt_succ_self _) h.ok; omega) h.sz
theorem Fine.psize {lt : Arr → ByteArray} {W0 : World} {N : Nd} (h : Fine lt W0 N) (b : Bool) : (PT lt b N).size ≤ 140000000004 := by
  have := h.size
  unfold PT
  split
  · rw [ByteArray.size_append, ByteArray.size_append]
    have e1 : opnP.size = 2 := rfl
    have e2 : clP.size = 2 := rfl
    omega
  · omega
theorem LT_size {lt : Arr → ByteArray} {W0 : World} (enc : List Int) {l : List Nd} (h : ∀ i (h : i < l.length), Fine lt W0 l[i]) (hz : sizK l ≤ 16384) (j : Nat) : (LT lt enc (l.take j)).size ≤ 140000000000 := by
  have ht := sizK_take l j
  have hm : ∀ N ∈ l.take j, Fine lt W0 N := fun N hN => by
    obtain ⟨i, hi, rfl⟩ := List.mem_iff_getElem.1 (List.mem_of_mem_take hN)
    exact h i hi
  refine words_size (n := sizK (l.take j)) (flat_small lt enc fun N hN => (hm N hN).small) ?_ (by omega)
  exact flat_len lt enc _ fun i hi => shN_len lt _ _ (Nat.lt_succ_self _) (hm _ (List.getElem_mem hi)).ok
def ShowR (lt : Arr → ByteArray) (W0 : World) (r : Nat) : Prop := ∀ (cs : List Value) (N : Nd) (w : World), rkN N < r → Fine lt W0 N → Below W0.heap.size W0 w → NdV w cs N →
    Calls Tryz.prog 45 #[.agg cs.toArray] w fun e w' => e = .returned (.string (T lt N)) ∧ Below w.heap.size w w'
set_option maxHeartbeats 4000000 in
theorem parenR (lt : Arr → ByteArray) (W0 : World) (r : Nat) (ih : ShowR lt W0 r) (b : Bool) (cs : List Value) (N : Nd) (w : World) (hr : rkN N < r) (F : Fine lt W0 N) (hb : Below W0.heap.size W0 w) (h : NdV w cs N) :
    Calls Tryz.prog 71 #[.agg cs.toArray, .bool b] w fun e w' => e = .returned (.string (PT lt b N)) ∧ Below w.heap.size w w' := by
  have lC := h.len
  have hC0 := cells_new w cs 34
  have BN := below_new w (.cells cs.toArray 34)
  have SR := ih cs N _ hr F (Below.then hb BN) (h.below BN)
  have z := F.size
  have HP : Hid (PT lt b N = if b = true then (⟨#[40, 32]⟩ : ByteArray) ++ T lt N ++ ⟨#[32, 41]⟩ else T lt N) := rfl
  obtain ⟨s, hs⟩ : ∃ s, T lt N = s := ⟨_, rfl⟩
  rw [hs] at SR z HP
  clear hs ih F h hr
  have c1 : (⟨#[40, 32]⟩ : ByteArray).size = 2 := rfl
  have c2 : (⟨#[32, 41]⟩ : ByteArray).size = 2 := rfl
  have a1 := fun w => run_string_add_sum (P := Tryz.prog) w ⟨#[40, 32]⟩ s (by rw [c1]; omega)
  have a2 := fun w => run_string_add_sum (P := Tryz.prog) w (⟨#[40, 32]⟩ ++ s) ⟨#[32, 41]⟩ (by rw [ByteArray.size_append, c1, c2]; omega)
  clear z c1 c2
  cases b with
  | true =>
    have HQ : Hid (PT lt true N = (⟨#[40, 32]⟩ : ByteArray) ++ s ++ ⟨#[32, 41]⟩) := HP
    clear HP
    go_enter Tryz.func71, Tryz.ntmps71
    go_wp2_with (first | ((with_reducible show wpList _ _ _ ({ dst := _, op := Op.load 34 _, type := _, pos := _, after := _, guard := none } :: _) _ _); refine wpList_load_node rfl rfl rfl hC0 lC ?_) | (go_at_call 45; ((with_reducible refine SR.mono ?_); rintro e w3 ⟨rfl, b3⟩)))
    go_ret
    exact ⟨by rw [HQ.out]; rfl, Below.then BN b3⟩
  | false =>
    have HQ : Hid (PT lt false N = s) := HP
    clear HP
    go_enter Tryz.func71, Tryz.ntmps71
    go_wp2_with (first | ((with_reducible show wpList _ _ _ ({ dst := _, op := Op.load 34 _, type := _, pos := _, after := _, guard := none } :: _) _ _); refine wpList_load_node rfl rfl rfl hC0 lC ?_) | (go_at_call 45; ((with_reducible refine SR.mono ?_); rintro e w3 ⟨rfl, b3⟩)))
    go_ret
    exact ⟨by rw [HQ.out]; rfl, Below.then BN b3⟩
set_option maxHeartbeats 8000000 in
theorem listR (lt : Arr → ByteArray) (W0 : World) (r : Nat) (ih : ShowR lt W0 r) (ka : Option Addr) (kc kb ko : Nat) (l : List Nd) (a : Option Addr) (cap : Nat) (enc : List Int) (w : World)
    (hr : ∀ i (h : i < l.length), rkN l[i] < r) (F : ∀ i (h : i < l.length), Fine lt W0 l[i]) (hz : sizK l ≤ 16384) (hl : l.length ≤ 9223372036854775807) (hka : l ≠ [] → ka = some ⟨kb, ko, none⟩) (hat : NdsAt w kb ko l) (hi : IntsAt w a cap enc) (hb : Below W0.heap.size W0 w) :
    Calls Tryz.prog 70 #[.slice ka l.length kc, .slice a enc.length cap] w fun e w' => e = .returned (.string (LT lt enc l)) ∧ Below w.heap.size w w' := by
  have HN : ∀ i (h : i < l.length), shN lt l[i] ≠ [] := fun i h => (F i h).ne
  have HS := fun j (hj : j < l.length) => LT_step lt enc hj HN
  have HZ := LT_size enc F hz
  clear HN hz
  go_enter Tryz.func70, Tryz.ntmps70
  go_wp2_with fail
  go_loopw [5, 6] (fun s i wr => ∃ j : Nat, j ≤ l.length ∧ s = .string (LT lt enc (l.take j)) ∧ i = .int .i64 j ∧ Below w.heap.size w wr) (fun _ i _ => l.length - (intOf i).toNat)
  case atStart => exact ⟨0, Nat.zero_le _, rfl, rfl, Below.refl _ _⟩
  case round =>
    obtain ⟨j, hj, rfl, rfl, hbr⟩ := hrel
    by_cases hlt : j < l.length
    · have hi1 := kids_at (ic := kc) rfl hka hlt
      obtain ⟨cs, hc, hN⟩ := (NdsAt.below hbr hat).at hlt
      have l1 := hN.len
      have zp := (F j hlt).psize (hasB enc l[j].k)
      have z0 := HZ j
      have hst := HS j hlt
      have AM := fun x : Sub wr => amongR cs l[j] a cap enc x.w (hN.below x.below) (IntsAt.below (IntsAt.below hi hbr) x.below)
      have PA := fun x : Sub wr => parenR lt W0 r ih (hasB enc l[j].k) cs l[j] x.w (hr j hlt) (F j hlt) (Below.then (Below.then hb hbr) x.below) (hN.below x.below)
      obtain ⟨B, hB⟩ : ∃ B, hasB enc l[j].k = B := ⟨_, rfl⟩
      simp only [hB] at AM PA zp hst
      obtain ⟨P, hP⟩ : ∃ P, PT lt B l[j] = P := ⟨_, rfl⟩
      simp only [hP] at PA zp hst
      have HT : Hid (LT lt enc (l.take (j + 1)) = (if 0 < j then LT lt enc (l.take j) ++ (⟨#[32]⟩ : ByteArray) else LT lt enc (l.take j)) ++ P) := hst
      obtain ⟨X, hX⟩ : ∃ X, LT lt enc (l.take j) = X := ⟨_, rfl⟩
      rw [hX] at HT z0 ⊢
      have c1 : (⟨#[32]⟩ : ByteArray).size = 1 := rfl
      have a0 := fun w => run_string_add_sum (P := Tryz.prog) w X ⟨#[32]⟩ (by rw [c1]; omega)
      have a1 := fun w => run_string_add_sum (P := Tryz.prog) w X P (by omega)
      have a2 := fun w => run_string_add_sum (P := Tryz.prog) w (X ++ ⟨#[32]⟩) P (by rw [ByteArray.size_append, c1]; omega)
      have hF : Hid (∀ i (h : i < l.length), rkN l[i] < r) := hr
      clear hB hP hX hst z0 zp c1 HS HZ hN F ih hi hat hr hb
      by_cases h0 : 0 < j
      · have HU : Hid (LT lt enc (l.take (j + 1)) = X ++ (⟨#[32]⟩ : ByteArray) ++ P) := by have := HT.out; rw [if_pos h0] at this; exact this
        clear HT
        go_wp2_with fail
        refine wp_region_sub (W := wr) (by kernel_rfl) (by kernel_rfl) (Below.refl _ _) ?_
        repeat (first | (go_big_quiet_want; (refine quiet_load_node hc l1 rfl rfl ?_); simp only [Act.put, List.setIfInBounds_toArray, List.set_cons_succ, List.set_cons_zero]; go_big_quiet_on) | go_big_quiet_step ((first | (go_at_call 72; with_reducible exact sub_call (AM _)) | (go_at_call 71; with_reducible exact sub_call (PA _)))))
        refine wpQuiet_nil ?_
        intro x
        have bx := x.below
        generalize x.w = w2 at *
        clear AM PA
        go_wp2_with fail
        go_roundw
        case rel => exact ⟨j + 1, by omega, by rw [HU.out], by go_num, Below.then hbr bx⟩
        case measure => simp [intOf]; omega
      · have HU : Hid (LT lt enc (l.take (j + 1)) = X ++ P) := by have := HT.out; rw [if_neg h0] at this; exact this
        clear HT
        go_wp2_with fail
        refine wp_region_sub (W := wr) (by kernel_rfl) (by kernel_rfl) (Below.refl _ _) ?_
        repeat (first | (go_big_quiet_want; (refine quiet_load_node hc l1 rfl rfl ?_); simp only [Act.put, List.setIfInBounds_toArray, List.set_cons_succ, List.set_cons_zero]; go_big_quiet_on) | go_big_quiet_step ((first | (go_at_call 72; with_reducible exact sub_call (AM _)) | (go_at_call 71; with_reducible exact sub_call (PA _)))))
        refine wpQuiet_nil ?_
        intro x
        have bx := x.below
        generalize x.w = w2 at *
        clear AM PA
        go_wp2_with fail
        go_roundw
        case rel => exact ⟨j + 1, by omega, by rw [HU.out], by go_num, Below.then hbr bx⟩
        case measure => simp [intOf]; omega
    · obtain rfl : j = l.length := by omega
      have HE : Hid (LT lt enc (l.take l.length) = LT lt enc l) := by unfold Hid; rw [List.take_length]
      go_wp2_with fail
      go_ret
      exact ⟨by rw [← HE.out]; rfl, hbr⟩
end Go.Proofs.YtghmbmjikkdbnaaGreatDoor.Syn

namespace Go.Proofs.YtghmbmjikkdbnaaGreatDoor.Syn
open Go.RowKit Go.Proofs.YtghmbmjikkdbnaaGreatDoor.Shape
set_option linter.unusedVariables false
set_option linter.unusedSimpArgs false
set_option maxRecDepth 100000
theorem okL_in : ∀ {l : List St} (h : okL l = true) {j : Nat} (hj : j < l.length), okS l[j] = true
  | [], _, _, hj => absurd hj (by simp)
  | S :: q, h, 0, _ => by rw [okL, Bool.and_eq_true] at h; exact h.1
  | S :: q, h, j + 1, hj => by
    rw [okL, Bool.and_eq_true] at h
    exact okL_in h.2 (by simpa using hj)
structure FineS (lt : Arr → ByteArray) (W0 : World) (S : St) : Prop where
  ok : okS S = true
  te : S.k = 3 → Fine lt W0 S.te
  nd : Fine lt W0 S.nd
theorem Fine.stmt {lt : Arr → ByteArray} {W0 : World} {N : Nd} (h : Fine lt W0 N) (hk : N.k = 10) {j : Nat} (hj : j < N.bd.length) : FineS lt W0 N.bd[j] := by
  have l := h.lq
  rw [lqN_eq] at l
  have l2 := lqB_at l.2.2 hj
  rw [lqS_eq] at l2
  have ok := okL_in (ok_k10 h.ok hk) hj
  have z := stmt_small hj
  have z0 := siz_eq N
  have z1 := h.sz
  exact ⟨ok, fun k => ⟨(okS_nd ok).2.1 k, l2.1 k, by have := (z.2.2 k).1; omega⟩, ⟨(okS_nd ok).1, l2.2, by omega⟩⟩
theorem name_of {S : St} (h : okS S = true) (k : S.k = 2) : S.n.size ≤ 32 := by
  rw [okS_eqP, if_neg (by omega), if_pos k] at h
  simp only [Bool.and_eq_true] at h
  exact name_small h.2.1.1.1
theorem shS_small {lt : Arr → ByteArray} {W0 : World} {S : St} (F : FineS lt W0 S) : ∀ s ∈ shS lt S, s.size ≤ 1000000 := by
  rw [shS_eq]
  refine app_small ?_ F.nd.small
  split
  · rename_i k
    have := name_of F.ok k
    intro s hs
    simp only [List.mem_cons, List.not_mem_nil, or_false] at hs
    rcases hs with rfl | rfl
    · omega
    · decide
  · split
    · rename_i k
      exact app_small (F.te k).small (one_small (by decide))
    · intro s hs; cases hs
theorem BT_size {lt : Arr → ByteArray} {W0 : World} {l : List St} (h : ∀ i (h : i < l.length), FineS lt W0 l[i]) (hz : sizB l ≤ 16384) (j : Nat) : (BT lt (l.take j)).size ≤ 140000000000 := by
  have ht := sizB_take l j
  have hm : ∀ S ∈ l.take j, FineS lt W0 S := fun S hS => by
    obtain ⟨i, hi, rfl⟩ := List.mem_iff_getElem.1 (List.mem_of_mem_take hS)
    exact h i hi
  refine words_size (n := sizB (l.take j)) (shB_small lt fun S hS => shS_small (hm S hS)) ?_ (by omega)
  exact shB_len lt _ fun i hi => by
    have F := hm _ (List.getElem_mem hi)
    exact stmt_len lt F.ok (shN_len lt _ _ (Nat.lt_succ_self _) F.nd.ok) (fun k => shN_len lt _ _ (Nat.lt_succ_self _) (F.te k).ok)
set_option maxHeartbeats 16000000 in
theorem BodyR (lt : Arr → ByteArray) (W0 : World) (r : Nat) (ih : ShowR lt W0 r) (ba : Option Addr) (bc bb bo : Nat) (l : List St) (w : World)
    (hr : ∀ i (h : i < l.length), rkN l[i].te < r ∧ rkN l[i].nd < r) (F : ∀ i (h : i < l.length), FineS lt W0 l[i]) (hz : sizB l ≤ 16384) (hl : l.length ≤ 9223372036854775807) (ha : l ≠ [] → ba = some ⟨bb, bo, none⟩) (hat : StsAt w bb bo l) (hb : Below W0.heap.size W0 w) :
    Calls Tryz.prog 73 #[.slice ba l.length bc, .string ⟨#[32, 59, 32]⟩] w fun e w' => e = .returned (.string (BT lt l)) ∧ Below w.heap.size w w' := by
  have HN : ∀ S ∈ l, okS S = true := fun S hS => by obtain ⟨i, hi, rfl⟩ := List.mem_iff_getElem.1 hS; exact (F i hi).ok
  have HS := fun j (hj : j < l.length) => BT_step lt hj HN
  have HZ := BT_size F hz
  clear HN hz
  go_enter Tryz.func73, Tryz.ntmps73
  go_wp2_with fail
  go_loopw [5, 6] (fun s i wr => ∃ j : Nat, j ≤ l.length ∧ s = .string (BT lt (l.take j)) ∧ i = .int .i64 j ∧ Below w.heap.size w wr) (fun _ i _ => l.length - (intOf i).toNat)
  case atStart => exact ⟨0, Nat.zero_le _, rfl, rfl, Below.refl _ _⟩
  case round =>
    obtain ⟨j, hj, rfl, rfl, hbr⟩ := hrel
    by_cases hlt : j < l.length
    · have hi1 := stmts_at (ic := bc) rfl ha hlt
      have hS := (StsAt.below hbr hat).at hlt
      obtain ⟨m0, -, m2, -⟩ := hS.head
      obtain ⟨ds, hd, hM⟩ := hS.node
      have l2 := hM.len
      have FS := F j hlt
      have z0 := HZ j
      have hst := HS j hlt
      have hk := okS_k FS.ok
      have zn := FS.nd.size
      have zt := fun k => (FS.te k).size
      have nz := fun k => name_of FS.ok k
      have SN := fun w' (g : Below wr.heap.size wr w') => ih ds l[j].nd w' (hr j hlt).2 FS.nd (Below.then (Below.then hb hbr) g) (hM.below g)
      have STE := fun (k : l[j].k = 3) (es : List Value) (he : NdV wr es l[j].te) => ih es l[j].te wr (hr j hlt).1 (FS.te k) (Below.then hb hbr) he
      unfold HT at hst
      obtain ⟨Q, hQ⟩ : ∃ Q, T lt l[j].nd = Q := ⟨_, rfl⟩
      rw [hQ] at hst zn
      simp only [hQ] at SN
      obtain ⟨X, hX⟩ : ∃ X, BT lt (l.take j) = X := ⟨_, rfl⟩
      rw [hX] at hst z0 ⊢
      have hte := hS.test
      have c1 : (⟨#[32, 59, 32]⟩ : ByteArray).size = 3 := rfl
      have c2 : (⟨#[32, 60, 45, 32]⟩ : ByteArray).size = 4 := rfl
      have c3 : (⟨#[32, 58, 32]⟩ : ByteArray).size = 3 := rfl
      clear hQ hX HS HZ hM FS F ih hat hr hb hS
      obtain ⟨Y, hY⟩ : ∃ Y, (if 0 < j then X ++ (⟨#[32, 59, 32]⟩ : ByteArray) else X) = Y := ⟨_, rfl⟩
      have hst : BT lt (l.take (j + 1)) = (if l[j].k = 2 then Y ++ (l[j].n ++ (⟨#[32, 60, 45, 32]⟩ : ByteArray)) else if l[j].k = 3 then Y ++ (T lt l[j].te ++ (⟨#[32, 58, 32]⟩ : ByteArray)) else Y) ++ Q := by rw [hst, ← hY]; rfl
      have zY : Y.size ≤ 140000000003 := by
        rw [← hY]; split
        · rw [ByteArray.size_append, c1]; omega
        · omega
      have hJ : (0 < j ∧ Hid (Y = X ++ (⟨#[32, 59, 32]⟩ : ByteArray))) ∨ (¬ 0 < j ∧ Hid (Y = X)) := by
        by_cases h0 : 0 < j
        · exact Or.inl ⟨h0, by unfold Hid; rw [← hY, if_pos h0]⟩
        · exact Or.inr ⟨h0, by unfold Hid; rw [← hY, if_neg h0]⟩
      clear hY
      have a0 := fun w => run_string_add_sum (P := Tryz.prog) w X ⟨#[32, 59, 32]⟩ (by rw [c1]; omega)
      rcases hk with k | k | k
      · have e2 : (l[j].k == 2) = false := by rw [k]; rfl
        have e3 : (l[j].k == 3) = false := by rw [k]; rfl
        have HR : Hid (BT lt (l.take (j + 1)) = Y ++ Q) := by unfold Hid; rw [hst, if_neg (by omega), if_neg (by omega)]
        have a1 := fun w => run_string_add_sum (P := Tryz.prog) w Y Q (by omega)
        clear hst zt nz STE hte z0 zn zY k c1 c2 c3
        rcases hJ with ⟨h0, HY⟩ | ⟨h0, HY⟩
        · have HU : Hid (BT lt (l.take (j + 1)) = (X ++ (⟨#[32, 59, 32]⟩ : ByteArray)) ++ Q) := by have h2 := HR.out; have h3 := HY.out; subst h3; exact h2
          have hYX := HY.out
          subst hYX
          clear HR HY
          have hdN := hd
          have BS := Below.refl wr.heap.size wr
          have BB := hbr
          go_wp2_with (first | ((with_reducible show wpList _ _ _ ({ dst := _, op := Op.load 34 _, type := _, pos := _, after := _, guard := none } :: _) _ _); first | refine wpList_load_node rfl rfl rfl hdN l2 ?_ | refine wpList_load_node rfl rfl rfl he l3 ?_) | (go_at_call 45; ((with_reducible refine (SN _ BS).mono ?_); rintro e w4 ⟨rfl, b4⟩)))
          go_roundw
          case rel => exact ⟨j + 1, by omega, by rw [HU.out], by go_num, Below.then BB b4⟩
          case measure => simp [intOf]; omega
        · have HU : Hid (BT lt (l.take (j + 1)) = X ++ Q) := by have h2 := HR.out; have h3 := HY.out; subst h3; exact h2
          have hYX := HY.out
          subst hYX
          clear HR HY
          have hdN := hd
          have BS := Below.refl wr.heap.size wr
          have BB := hbr
          go_wp2_with (first | ((with_reducible show wpList _ _ _ ({ dst := _, op := Op.load 34 _, type := _, pos := _, after := _, guard := none } :: _) _ _); first | refine wpList_load_node rfl rfl rfl hdN l2 ?_ | refine wpList_load_node rfl rfl rfl he l3 ?_) | (go_at_call 45; ((with_reducible refine (SN _ BS).mono ?_); rintro e w4 ⟨rfl, b4⟩)))
          go_roundw
          case rel => exact ⟨j + 1, by omega, by rw [HU.out], by go_num, Below.then BB b4⟩
          case measure => simp [intOf]; omega
      · have e2 : (l[j].k == 2) = true := by rw [k]; rfl
        have e3 : (l[j].k == 3) = false := by rw [k]; rfl
        have HR : Hid (BT lt (l.take (j + 1)) = Y ++ (l[j].n ++ (⟨#[32, 60, 45, 32]⟩ : ByteArray)) ++ Q) := by unfold Hid; rw [hst, if_pos k]
        have nz := nz k
        have a1 := fun w => run_string_add_sum (P := Tryz.prog) w l[j].n ⟨#[32, 60, 45, 32]⟩ (by rw [c2]; omega)
        have a2 := fun w => run_string_add_sum (P := Tryz.prog) w Y (l[j].n ++ ⟨#[32, 60, 45, 32]⟩) (by rw [ByteArray.size_append, c2]; omega)
        have a3 := fun w => run_string_add_sum (P := Tryz.prog) w (Y ++ (l[j].n ++ ⟨#[32, 60, 45, 32]⟩)) Q (by rw [ByteArray.size_append, ByteArray.size_append, c2]; omega)
        clear hst zt nz STE hte z0 zn zY k c1 c2 c3
        rcases hJ with ⟨h0, HY⟩ | ⟨h0, HY⟩
        · have HU : Hid (BT lt (l.take (j + 1)) = ((X ++ (⟨#[32, 59, 32]⟩ : ByteArray)) ++ (l[j].n ++ (⟨#[32, 60, 45, 32]⟩ : ByteArray))) ++ Q) := by have h2 := HR.out; have h3 := HY.out; subst h3; exact h2
          have hYX := HY.out
          subst hYX
          clear HR HY
          have hdN := hd
          have BS := Below.refl wr.heap.size wr
          have BB := hbr
          go_wp2_with (first | ((with_reducible show wpList _ _ _ ({ dst := _, op := Op.load 34 _, type := _, pos := _, after := _, guard := none } :: _) _ _); first | refine wpList_load_node rfl rfl rfl hdN l2 ?_ | refine wpList_load_node rfl rfl rfl he l3 ?_) | (go_at_call 45; ((with_reducible refine (SN _ BS).mono ?_); rintro e w4 ⟨rfl, b4⟩)))
          go_roundw
          case rel => exact ⟨j + 1, by omega, by rw [HU.out], by go_num, Below.then BB b4⟩
          case measure => simp [intOf]; omega
        · have HU : Hid (BT lt (l.take (j + 1)) = (X ++ (l[j].n ++ (⟨#[32, 60, 45, 32]⟩ : ByteArray))) ++ Q) := by have h2 := HR.out; have h3 := HY.out; subst h3; exact h2
          have hYX := HY.out
          subst hYX
          clear HR HY
          have hdN := hd
          have BS := Below.refl wr.heap.size wr
          have BB := hbr
          go_wp2_with (first | ((with_reducible show wpList _ _ _ ({ dst := _, op := Op.load 34 _, type := _, pos := _, after := _, guard := none } :: _) _ _); first | refine wpList_load_node rfl rfl rfl hdN l2 ?_ | refine wpList_load_node rfl rfl rfl he l3 ?_) | (go_at_call 45; ((with_reducible refine (SN _ BS).mono ?_); rintro e w4 ⟨rfl, b4⟩)))
          go_roundw
          case rel => exact ⟨j + 1, by omega, by rw [HU.out], by go_num, Below.then BB b4⟩
          case measure => simp [intOf]; omega
      · have e2 : (l[j].k == 2) = false := by rw [k]; rfl
        have e3 : (l[j].k == 3) = true := by rw [k]; rfl
        obtain ⟨es, he, hN⟩ := hte
        have l3 := hN.len
        have ST := STE k es hN
        have zt := zt k
        obtain ⟨R, hR⟩ : ∃ R, T lt l[j].te = R := ⟨_, rfl⟩
        rw [hR] at ST zt hst
        have HR : Hid (BT lt (l.take (j + 1)) = Y ++ (R ++ (⟨#[32, 58, 32]⟩ : ByteArray)) ++ Q) := by unfold Hid; rw [hst, if_neg (by omega), if_pos k]
        have a1 := fun w => run_string_add_sum (P := Tryz.prog) w R ⟨#[32, 58, 32]⟩ (by rw [c3]; omega)
        have a2 := fun w => run_string_add_sum (P := Tryz.prog) w Y (R ++ ⟨#[32, 58, 32]⟩) (by rw [ByteArray.size_append, c3]; omega)
        have a3 := fun w => run_string_add_sum (P := Tryz.prog) w (Y ++ (R ++ ⟨#[32, 58, 32]⟩)) Q (by rw [ByteArray.size_append, ByteArray.size_append, c3]; omega)
        clear hst zt nz STE z0 zn zY k c1 c2 c3 hR hN
        rcases hJ with ⟨h0, HY⟩ | ⟨h0, HY⟩
        · have HU : Hid (BT lt (l.take (j + 1)) = ((X ++ (⟨#[32, 59, 32]⟩ : ByteArray)) ++ (R ++ (⟨#[32, 58, 32]⟩ : ByteArray))) ++ Q) := by have h2 := HR.out; have h3 := HY.out; subst h3; exact h2
          have hYX := HY.out
          subst hYX
          clear HR HY
          go_wp2_with (first | ((with_reducible show wpList _ _ _ ({ dst := _, op := Op.load 34 _, type := _, pos := _, after := _, guard := none } :: _) _ _); first | refine wpList_load_node rfl rfl rfl hdN l2 ?_ | refine wpList_load_node rfl rfl rfl he l3 ?_) | (go_at_call 45; ((with_reducible refine ST.mono ?_); rintro e w3 ⟨rfl, b3⟩; (have hdN := hd.below b3); (have BS := b3); (have BB := Below.then hbr b3); clear ST)) | (go_at_call 45; ((with_reducible refine (SN _ BS).mono ?_); rintro e w4 ⟨rfl, b4⟩)))
          go_roundw
          case rel => exact ⟨j + 1, by omega, by rw [HU.out], by go_num, Below.then BB b4⟩
          case measure => simp [intOf]; omega
        · have HU : Hid (BT lt (l.take (j + 1)) = (X ++ (R ++ (⟨#[32, 58, 32]⟩ : ByteArray))) ++ Q) := by have h2 := HR.out; have h3 := HY.out; subst h3; exact h2
          have hYX := HY.out
          subst hYX
          clear HR HY
          go_wp2_with (first | ((with_reducible show wpList _ _ _ ({ dst := _, op := Op.load 34 _, type := _, pos := _, after := _, guard := none } :: _) _ _); first | refine wpList_load_node rfl rfl rfl hdN l2 ?_ | refine wpList_load_node rfl rfl rfl he l3 ?_) | (go_at_call 45; ((with_reducible refine ST.mono ?_); rintro e w3 ⟨rfl, b3⟩; (have hdN := hd.below b3); (have BS := b3); (have BB := Below.then hbr b3); clear ST)) | (go_at_call 45; ((with_reducible refine (SN _ BS).mono ?_); rintro e w4 ⟨rfl, b4⟩)))
          go_roundw
          case rel => exact ⟨j + 1, by omega, by rw [HU.out], by go_num, Below.then BB b4⟩
          case measure => simp [intOf]; omega
    · obtain rfl : j = l.length := by omega
      have HE : Hid (BT lt (l.take l.length) = BT lt l) := by unfold Hid; rw [List.take_length]
      go_wp2_with fail
      go_ret
      exact ⟨by rw [← HE.out]; rfl, hbr⟩
end Go.Proofs.YtghmbmjikkdbnaaGreatDoor.Syn

namespace Go.Proofs.YtghmbmjikkdbnaaGreatDoor.Syn
open Go.RowKit Go.Proofs.YtghmbmjikkdbnaaGreatDoor.Shape
set_option linter.unusedVariables false
set_option linter.unusedSimpArgs false
set_option maxRecDepth 100000
theorem kinds_new (W : World) (xs : List Int) (hx : ∀ x ∈ xs, 0 ≤ x ∧ x ≤ 20) (hl : xs.length ≤ 1000) : IntsAt (W.alloc (.cells (xs.map (fun x => Value.int .i64 x)).toArray 22)) (some ⟨W.heap.size, 0, none⟩) xs.length xs :=
  ints_new W xs _ (fun x h => by have := hx x h; omega) hl
theorem sets_at (w : World) (o : Obj) : Below (w.alloc o).heap.size (w.alloc o) ((((w.alloc o).alloc (.cells #[.int .i64 4, .int .i64 5] 22)).alloc (.cells #[.int .i64 3, .int .i64 4, .int .i64 5] 22)).alloc (.cells #[.int .i64 16] 22)) ∧
    IntsAt ((((w.alloc o).alloc (.cells #[.int .i64 4, .int .i64 5] 22)).alloc (.cells #[.int .i64 3, .int .i64 4, .int .i64 5] 22)).alloc (.cells #[.int .i64 16] 22)) (some ⟨w.heap.size + 1, 0, none⟩) 2 [4, 5] ∧
    IntsAt ((((w.alloc o).alloc (.cells #[.int .i64 4, .int .i64 5] 22)).alloc (.cells #[.int .i64 3, .int .i64 4, .int .i64 5] 22)).alloc (.cells #[.int .i64 16] 22)) (some ⟨w.heap.size + 1 + 1, 0, none⟩) 3 [3, 4, 5] ∧
    IntsAt ((((w.alloc o).alloc (.cells #[.int .i64 4, .int .i64 5] 22)).alloc (.cells #[.int .i64 3, .int .i64 4, .int .i64 5] 22)).alloc (.cells #[.int .i64 16] 22)) (some ⟨w.heap.size + 1 + 1 + 1, 0, none⟩) 1 [16] := by
  have h1 := kinds_new (w.alloc o) [4, 5] (by simp) (by simp)
  have h2 := kinds_new ((w.alloc o).alloc (.cells #[.int .i64 4, .int .i64 5] 22)) [3, 4, 5] (by simp) (by simp)
  have h3 := kinds_new (((w.alloc o).alloc (.cells #[.int .i64 4, .int .i64 5] 22)).alloc (.cells #[.int .i64 3, .int .i64 4, .int .i64 5] 22)) [16] (by simp) (by simp)
  rw [show (w.alloc o).heap.size = w.heap.size + 1 by simp] at h1
  rw [show ((w.alloc o).alloc (.cells #[.int .i64 4, .int .i64 5] 22)).heap.size = w.heap.size + 1 + 1 by simp] at h2
  rw [show (((w.alloc o).alloc (.cells #[.int .i64 4, .int .i64 5] 22)).alloc (.cells #[.int .i64 3, .int .i64 4, .int .i64 5] 22)).heap.size = w.heap.size + 1 + 1 + 1 by simp] at h3
  exact ⟨Below.then (Below.then (below_new _ _) (below_new _ _)) (below_new _ _), IntsAt.below (IntsAt.below h1 (below_new _ (.cells #[.int .i64 3, .int .i64 4, .int .i64 5] 22))) (below_new _ (.cells #[.int .i64 16] 22)), IntsAt.below h2 (below_new _ (.cells #[.int .i64 16] 22)), h3⟩
theorem c32 : (⟨#[32]⟩ : ByteArray).size = 1 := rfl
set_option maxHeartbeats 8000000 in
theorem show_k4 (lt : Arr → ByteArray) (W0 : World) (r : Nat) (ih : ShowR lt W0 r) (cs : List Value) (N : Nd) (w : World) (hr : rkN N < r + 1) (F : Fine lt W0 N) (hb : Below W0.heap.size W0 w) (h : NdV w cs N) (hk : N.k = 4) :
    Calls Tryz.prog 45 #[.agg cs.toArray] w fun e w' => e = .returned (.string (T lt N)) ∧ Below w.heap.size w w' := by
  obtain ⟨v0, v1, v2, v3, ka, kc, ba, bc, kb, ko, bb, bo, O⟩ := h.open
  have lC := h.len
  have hk1 : N.ks.length ≤ 9223372036854775807 := by have := O.kl; omega
  have hk2 : N.bd.length ≤ 9223372036854775807 := by have := O.bl; omega
  have BN := below_new w (.cells cs.toArray 34)
  have hP := O.nf (cells_new w cs 34)
  have hc0 := cells_new w cs 34
  obtain ⟨S0, i3, i4, i5⟩ := sets_at w (.cells cs.toArray 34)
  have hP4 := hP.below S0
  have hc4 := hc0.below S0
  have B4 := Below.then BN S0
  obtain ⟨W4, hW4⟩ : ∃ W4, ((((w.alloc (.cells cs.toArray 34)).alloc (.cells #[.int .i64 4, .int .i64 5] 22)).alloc (.cells #[.int .i64 3, .int .i64 4, .int .i64 5] 22)).alloc (.cells #[.int .i64 16] 22)) = W4 := ⟨_, rfl⟩
  rw [hW4] at i3 i4 i5 hP4 hc4 B4
  obtain ⟨p0, -, -, -, -, -, p10, p11, -, -, -⟩ := hP4
  have hb4 := Below.then hb B4
  have h4 := h.below B4
  have e3 : (N.k == 3) = false := by rw [hk]; rfl
  have e4 : (N.k == 4) = true := by rw [hk]; rfl
  have e5 : (N.k == 5) = false := by rw [hk]; rfl
  have e14 : (N.k == 14) = false := by rw [hk]; rfl
  have e15 : (N.k == 15) = false := by rw [hk]; rfl
  have e16 : (N.k == 16) = false := by rw [hk]; rfl
  have e10 : (N.k == 10) = false := by rw [hk]; rfl
  clear S0 hP BN hc0
  obtain ⟨A, B, e⟩ := ok_k4 F.ok hk
  have h0 : 0 < N.ks.length := by rw [e]; simp
  have F0 := F.kid h0
  have r0 := rk_kid N h0
  have ix0 := kids_at (ic := kc) rfl O.ka h0
  rw [show ((0 : Nat) : Int) = 0 from rfl] at ix0
  obtain ⟨c0, hc0, hN0⟩ := (NdsAt.below B4 O.kat).at h0
  have l0 := hN0.len
  have g0 : N.ks[0] = A := by simp [e]
  rw [g0] at F0 r0 hN0
  have h1 : 1 < N.ks.length := by rw [e]; simp
  have F1 := F.kid h1
  have r1 := rk_kid N h1
  have ix1 := kids_at (ic := kc) rfl O.ka h1
  rw [show ((1 : Nat) : Int) = 1 from rfl] at ix1
  obtain ⟨c1, hc1, hN1⟩ := (NdsAt.below B4 O.kat).at h1
  have l1 := hN1.len
  have g1 : N.ks[1] = B := by simp [e]
  rw [g1] at F1 r1 hN1
  have HQ := T_4 lt hk e F0.ne F1.ne
  have AM0 := fun x : Sub W4 => amongR c0 A (some ⟨w.heap.size + 1 + 1 + 1, 0, none⟩) 1 [16] x.w (hN0.below x.below) (IntsAt.below i5 x.below)
  have PA0 := fun x : Sub W4 => parenR lt W0 r ih (hasB [16] A.k) c0 A x.w (by omega) F0 (Below.then hb4 x.below) (hN0.below x.below)
  have z0 := F0.psize (hasB [16] A.k)
  obtain ⟨b0, hb0'⟩ : ∃ b, hasB [16] A.k = b := ⟨_, rfl⟩
  simp only [hb0', List.length_cons, List.length_nil, Nat.reduceAdd] at AM0 PA0 z0
  rw [hb0'] at HQ
  obtain ⟨t0, ht0⟩ : ∃ s, PT lt b0 A = s := ⟨_, rfl⟩
  simp only [ht0] at PA0 z0
  rw [ht0] at HQ
  clear hb0' ht0
  have SH1 := fun x : Sub W4 => ih c1 B x.w (by omega) F1 (Below.then hb4 x.below) (hN1.below x.below)
  have z1 := F1.size
  obtain ⟨t1, ht1⟩ : ∃ s, T lt B = s := ⟨_, rfl⟩
  simp only [ht1] at SH1 z1
  rw [ht1] at HQ
  clear ht1
  have HG : Hid (T lt N = t0 ++ (⟨#[32]⟩ : ByteArray) ++ t1) := HQ
  clear HQ
  have s0 := fun w => run_string_add_sum (P := Tryz.prog) w (t0) ⟨#[32]⟩ (by simp only [ByteArray.size_append, c32]; omega)
  have s1 := fun w => run_string_add_sum (P := Tryz.prog) w (t0 ++ (⟨#[32]⟩ : ByteArray)) t1 (by simp only [ByteArray.size_append, c32]; omega)
  have y10 := fun x : Sub W4 => x.cell p10
  clear e i3 i4 i5 hc4 h4 hb4 hb h F ih hr p11 O lC F0 r0 z0 hN0 g0 F1 r1 z1 hN1 g1
  go_enter Tryz.func45, Tryz.ntmps45
  go_upto_region 4 with fail
  try rw [hW4]
  clear hW4
  go_wp2_with fail
  refine wp_region_sub (W := W4) (by kernel_rfl) (by kernel_rfl) (Below.refl _ _) ?_
  repeat (first | (go_big_quiet_want; (first | refine quiet_load_node hc0 l0 rfl rfl ?_ | refine quiet_load_node hc1 l1 rfl rfl ?_); simp only [Act.put, List.setIfInBounds_toArray, List.set_cons_succ, List.set_cons_zero]; go_big_quiet_on) | go_big_quiet_step ((first | (go_at_call 72; with_reducible exact sub_call (AM0 _)) | (go_at_call 71; with_reducible exact sub_call (PA0 _)) | (go_at_call 45; with_reducible exact sub_call (SH1 _)))))
  refine wpQuiet_nil ?_
  intro x
  have bx := x.below
  generalize x.w = w2 at *
  clear AM0 PA0 SH1
  go_wp2_with fail
  go_ret
  exact ⟨by rw [HG.out]; rfl, Below.then B4 bx⟩
set_option maxHeartbeats 8000000 in
theorem show_k14 (lt : Arr → ByteArray) (W0 : World) (r : Nat) (ih : ShowR lt W0 r) (cs : List Value) (N : Nd) (w : World) (hr : rkN N < r + 1) (F : Fine lt W0 N) (hb : Below W0.heap.size W0 w) (h : NdV w cs N) (hk : N.k = 14) :
    Calls Tryz.prog 45 #[.agg cs.toArray] w fun e w' => e = .returned (.string (T lt N)) ∧ Below w.heap.size w w' := by
  obtain ⟨v0, v1, v2, v3, ka, kc, ba, bc, kb, ko, bb, bo, O⟩ := h.open
  have lC := h.len
  have hk1 : N.ks.length ≤ 9223372036854775807 := by have := O.kl; omega
  have hk2 : N.bd.length ≤ 9223372036854775807 := by have := O.bl; omega
  have BN := below_new w (.cells cs.toArray 34)
  have hP := O.nf (cells_new w cs 34)
  have hc0 := cells_new w cs 34
  obtain ⟨S0, i3, i4, i5⟩ := sets_at w (.cells cs.toArray 34)
  have hP4 := hP.below S0
  have hc4 := hc0.below S0
  have B4 := Below.then BN S0
  obtain ⟨W4, hW4⟩ : ∃ W4, ((((w.alloc (.cells cs.toArray 34)).alloc (.cells #[.int .i64 4, .int .i64 5] 22)).alloc (.cells #[.int .i64 3, .int .i64 4, .int .i64 5] 22)).alloc (.cells #[.int .i64 16] 22)) = W4 := ⟨_, rfl⟩
  rw [hW4] at i3 i4 i5 hP4 hc4 B4
  obtain ⟨p0, -, -, -, -, -, p10, p11, -, -, -⟩ := hP4
  have hb4 := Below.then hb B4
  have h4 := h.below B4
  have e3 : (N.k == 3) = false := by rw [hk]; rfl
  have e4 : (N.k == 4) = false := by rw [hk]; rfl
  have e5 : (N.k == 5) = false := by rw [hk]; rfl
  have e14 : (N.k == 14) = true := by rw [hk]; rfl
  have e15 : (N.k == 15) = false := by rw [hk]; rfl
  have e16 : (N.k == 16) = false := by rw [hk]; rfl
  have e10 : (N.k == 10) = false := by rw [hk]; rfl
  clear S0 hP BN hc0
  obtain ⟨A, B, e⟩ := ok_k14 F.ok hk
  have h0 : 0 < N.ks.length := by rw [e]; simp
  have F0 := F.kid h0
  have r0 := rk_kid N h0
  have ix0 := kids_at (ic := kc) rfl O.ka h0
  rw [show ((0 : Nat) : Int) = 0 from rfl] at ix0
  obtain ⟨c0, hc0, hN0⟩ := (NdsAt.below B4 O.kat).at h0
  have l0 := hN0.len
  have g0 : N.ks[0] = A := by simp [e]
  rw [g0] at F0 r0 hN0
  have h1 : 1 < N.ks.length := by rw [e]; simp
  have F1 := F.kid h1
  have r1 := rk_kid N h1
  have ix1 := kids_at (ic := kc) rfl O.ka h1
  rw [show ((1 : Nat) : Int) = 1 from rfl] at ix1
  obtain ⟨c1, hc1, hN1⟩ := (NdsAt.below B4 O.kat).at h1
  have l1 := hN1.len
  have g1 : N.ks[1] = B := by simp [e]
  rw [g1] at F1 r1 hN1
  have HQ := T_14 lt hk e F0.ne F1.ne
  have AM1 := fun x : Sub W4 => amongR c1 B (some ⟨w.heap.size + 1 + 1 + 1, 0, none⟩) 1 [16] x.w (hN1.below x.below) (IntsAt.below i5 x.below)
  have PA1 := fun x : Sub W4 => parenR lt W0 r ih (hasB [16] B.k) c1 B x.w (by omega) F1 (Below.then hb4 x.below) (hN1.below x.below)
  have z1 := F1.psize (hasB [16] B.k)
  obtain ⟨b1, hb1'⟩ : ∃ b, hasB [16] B.k = b := ⟨_, rfl⟩
  simp only [hb1', List.length_cons, List.length_nil, Nat.reduceAdd] at AM1 PA1 z1
  rw [hb1'] at HQ
  obtain ⟨t1, ht1⟩ : ∃ s, PT lt b1 B = s := ⟨_, rfl⟩
  simp only [ht1] at PA1 z1
  rw [ht1] at HQ
  clear hb1' ht1
  have SH0 := fun x : Sub W4 => ih c0 A x.w (by omega) F0 (Below.then hb4 x.below) (hN0.below x.below)
  have z0 := F0.size
  obtain ⟨t0, ht0⟩ : ∃ s, T lt A = s := ⟨_, rfl⟩
  simp only [ht0] at SH0 z0
  rw [ht0] at HQ
  clear ht0
  have HG : Hid (T lt N = t1 ++ (⟨#[32]⟩ : ByteArray) ++ t0) := HQ
  clear HQ
  have s0 := fun w => run_string_add_sum (P := Tryz.prog) w (t1) ⟨#[32]⟩ (by simp only [ByteArray.size_append, c32]; omega)
  have s1 := fun w => run_string_add_sum (P := Tryz.prog) w (t1 ++ (⟨#[32]⟩ : ByteArray)) t0 (by simp only [ByteArray.size_append, c32]; omega)
  have y10 := fun x : Sub W4 => x.cell p10
  clear e i3 i4 i5 hc4 h4 hb4 hb h F ih hr p11 O lC F0 r0 z0 hN0 g0 F1 r1 z1 hN1 g1
  go_enter Tryz.func45, Tryz.ntmps45
  go_upto_region 4 with fail
  try rw [hW4]
  clear hW4
  go_wp2_with fail
  refine wp_region_sub (W := W4) (by kernel_rfl) (by kernel_rfl) (Below.refl _ _) ?_
  repeat (first | (go_big_quiet_want; (first | refine quiet_load_node hc0 l0 rfl rfl ?_ | refine quiet_load_node hc1 l1 rfl rfl ?_); simp only [Act.put, List.setIfInBounds_toArray, List.set_cons_succ, List.set_cons_zero]; go_big_quiet_on) | go_big_quiet_step ((first | (go_at_call 72; with_reducible exact sub_call (AM1 _)) | (go_at_call 71; with_reducible exact sub_call (PA1 _)) | (go_at_call 45; with_reducible exact sub_call (SH0 _)))))
  refine wpQuiet_nil ?_
  intro x
  have bx := x.below
  generalize x.w = w2 at *
  clear AM1 PA1 SH0
  go_wp2_with fail
  go_ret
  exact ⟨by rw [HG.out]; rfl, Below.then B4 bx⟩
set_option maxHeartbeats 8000000 in
theorem show_k5 (lt : Arr → ByteArray) (W0 : World) (r : Nat) (ih : ShowR lt W0 r) (cs : List Value) (N : Nd) (w : World) (hr : rkN N < r + 1) (F : Fine lt W0 N) (hb : Below W0.heap.size W0 w) (h : NdV w cs N) (hk : N.k = 5) :
    Calls Tryz.prog 45 #[.agg cs.toArray] w fun e w' => e = .returned (.string (T lt N)) ∧ Below w.heap.size w w' := by
  obtain ⟨v0, v1, v2, v3, ka, kc, ba, bc, kb, ko, bb, bo, O⟩ := h.open
  have lC := h.len
  have hk1 : N.ks.length ≤ 9223372036854775807 := by have := O.kl; omega
  have hk2 : N.bd.length ≤ 9223372036854775807 := by have := O.bl; omega
  have BN := below_new w (.cells cs.toArray 34)
  have hP := O.nf (cells_new w cs 34)
  have hc0 := cells_new w cs 34
  obtain ⟨S0, i3, i4, i5⟩ := sets_at w (.cells cs.toArray 34)
  have hP4 := hP.below S0
  have hc4 := hc0.below S0
  have B4 := Below.then BN S0
  obtain ⟨W4, hW4⟩ : ∃ W4, ((((w.alloc (.cells cs.toArray 34)).alloc (.cells #[.int .i64 4, .int .i64 5] 22)).alloc (.cells #[.int .i64 3, .int .i64 4, .int .i64 5] 22)).alloc (.cells #[.int .i64 16] 22)) = W4 := ⟨_, rfl⟩
  rw [hW4] at i3 i4 i5 hP4 hc4 B4
  obtain ⟨p0, -, -, -, -, -, p10, p11, -, -, -⟩ := hP4
  have hb4 := Below.then hb B4
  have h4 := h.below B4
  have e3 : (N.k == 3) = false := by rw [hk]; rfl
  have e4 : (N.k == 4) = false := by rw [hk]; rfl
  have e5 : (N.k == 5) = true := by rw [hk]; rfl
  have e14 : (N.k == 14) = false := by rw [hk]; rfl
  have e15 : (N.k == 15) = false := by rw [hk]; rfl
  have e16 : (N.k == 16) = false := by rw [hk]; rfl
  have e10 : (N.k == 10) = false := by rw [hk]; rfl
  clear S0 hP BN hc0
  obtain ⟨A, B, C, e⟩ := ok_k5 F.ok hk
  have h0 : 0 < N.ks.length := by rw [e]; simp
  have F0 := F.kid h0
  have r0 := rk_kid N h0
  have ix0 := kids_at (ic := kc) rfl O.ka h0
  rw [show ((0 : Nat) : Int) = 0 from rfl] at ix0
  obtain ⟨c0, hc0, hN0⟩ := (NdsAt.below B4 O.kat).at h0
  have l0 := hN0.len
  have g0 : N.ks[0] = A := by simp [e]
  rw [g0] at F0 r0 hN0
  have h1 : 1 < N.ks.length := by rw [e]; simp
  have F1 := F.kid h1
  have r1 := rk_kid N h1
  have ix1 := kids_at (ic := kc) rfl O.ka h1
  rw [show ((1 : Nat) : Int) = 1 from rfl] at ix1
  obtain ⟨c1, hc1, hN1⟩ := (NdsAt.below B4 O.kat).at h1
  have l1 := hN1.len
  have g1 : N.ks[1] = B := by simp [e]
  rw [g1] at F1 r1 hN1
  have h2 : 2 < N.ks.length := by rw [e]; simp
  have F2 := F.kid h2
  have r2 := rk_kid N h2
  have ix2 := kids_at (ic := kc) rfl O.ka h2
  rw [show ((2 : Nat) : Int) = 2 from rfl] at ix2
  obtain ⟨c2, hc2, hN2⟩ := (NdsAt.below B4 O.kat).at h2
  have l2 := hN2.len
  have g2 : N.ks[2] = C := by simp [e]
  rw [g2] at F2 r2 hN2
  have HQ := T_5 lt hk e F0.ne F1.ne F2.ne
  have AM1 := fun x : Sub W4 => amongR c1 B (some ⟨w.heap.size + 1, 0, none⟩) 2 [4, 5] x.w (hN1.below x.below) (IntsAt.below i3 x.below)
  have PA1 := fun x : Sub W4 => parenR lt W0 r ih (hasB [4, 5] B.k) c1 B x.w (by omega) F1 (Below.then hb4 x.below) (hN1.below x.below)
  have z1 := F1.psize (hasB [4, 5] B.k)
  obtain ⟨b1, hb1'⟩ : ∃ b, hasB [4, 5] B.k = b := ⟨_, rfl⟩
  simp only [hb1', List.length_cons, List.length_nil, Nat.reduceAdd] at AM1 PA1 z1
  rw [hb1'] at HQ
  obtain ⟨t1, ht1⟩ : ∃ s, PT lt b1 B = s := ⟨_, rfl⟩
  simp only [ht1] at PA1 z1
  rw [ht1] at HQ
  clear hb1' ht1
  have AM0 := fun x : Sub W4 => amongR c0 A (some ⟨w.heap.size + 1 + 1 + 1, 0, none⟩) 1 [16] x.w (hN0.below x.below) (IntsAt.below i5 x.below)
  have PA0 := fun x : Sub W4 => parenR lt W0 r ih (hasB [16] A.k) c0 A x.w (by omega) F0 (Below.then hb4 x.below) (hN0.below x.below)
  have z0 := F0.psize (hasB [16] A.k)
  obtain ⟨b0, hb0'⟩ : ∃ b, hasB [16] A.k = b := ⟨_, rfl⟩
  simp only [hb0', List.length_cons, List.length_nil, Nat.reduceAdd] at AM0 PA0 z0
  rw [hb0'] at HQ
  obtain ⟨t0, ht0⟩ : ∃ s, PT lt b0 A = s := ⟨_, rfl⟩
  simp only [ht0] at PA0 z0
  rw [ht0] at HQ
  clear hb0' ht0
  have SH2 := fun x : Sub W4 => ih c2 C x.w (by omega) F2 (Below.then hb4 x.below) (hN2.below x.below)
  have z2 := F2.size
  obtain ⟨t2, ht2⟩ : ∃ s, T lt C = s := ⟨_, rfl⟩
  simp only [ht2] at SH2 z2
  rw [ht2] at HQ
  clear ht2
  have HG : Hid (T lt N = t1 ++ (⟨#[32]⟩ : ByteArray) ++ t0 ++ (⟨#[32]⟩ : ByteArray) ++ t2) := HQ
  clear HQ
  have s0 := fun w => run_string_add_sum (P := Tryz.prog) w (t1) ⟨#[32]⟩ (by simp only [ByteArray.size_append, c32]; omega)
  have s1 := fun w => run_string_add_sum (P := Tryz.prog) w (t1 ++ (⟨#[32]⟩ : ByteArray)) t0 (by simp only [ByteArray.size_append, c32]; omega)
  have s2 := fun w => run_string_add_sum (P := Tryz.prog) w (t1 ++ (⟨#[32]⟩ : ByteArray) ++ t0) ⟨#[32]⟩ (by simp only [ByteArray.size_append, c32]; omega)
  have s3 := fun w => run_string_add_sum (P := Tryz.prog) w (t1 ++ (⟨#[32]⟩ : ByteArray) ++ t0 ++ (⟨#[32]⟩ : ByteArray)) t2 (by simp only [ByteArray.size_append, c32]; omega)
  have y10 := fun x : Sub W4 => x.cell p10
  clear e i3 i4 i5 hc4 h4 hb4 hb h F ih hr p11 O lC F0 r0 z0 hN0 g0 F1 r1 z1 hN1 g1 F2 r2 z2 hN2 g2
  go_enter Tryz.func45, Tryz.ntmps45
  go_upto_region 4 with fail
  try rw [hW4]
  clear hW4
  go_wp2_with fail
  refine wp_region_sub (W := W4) (by kernel_rfl) (by kernel_rfl) (Below.refl _ _) ?_
  repeat (first | (go_big_quiet_want; (first | refine quiet_load_node hc0 l0 rfl rfl ?_ | refine quiet_load_node hc1 l1 rfl rfl ?_ | refine quiet_load_node hc2 l2 rfl rfl ?_); simp only [Act.put, List.setIfInBounds_toArray, List.set_cons_succ, List.set_cons_zero]; go_big_quiet_on) | go_big_quiet_step ((first | (go_at_call 72; with_reducible exact sub_call (AM1 _)) | (go_at_call 71; with_reducible exact sub_call (PA1 _)) | (go_at_call 72; with_reducible exact sub_call (AM0 _)) | (go_at_call 71; with_reducible exact sub_call (PA0 _)) | (go_at_call 45; with_reducible exact sub_call (SH2 _)))))
  refine wpQuiet_nil ?_
  intro x
  have bx := x.below
  generalize x.w = w2 at *
  clear AM1 PA1 AM0 PA0 SH2
  go_wp2_with fail
  go_ret
  exact ⟨by rw [HG.out]; rfl, Below.then B4 bx⟩
set_option maxHeartbeats 8000000 in
theorem show_k15 (lt : Arr → ByteArray) (W0 : World) (r : Nat) (ih : ShowR lt W0 r) (cs : List Value) (N : Nd) (w : World) (hr : rkN N < r + 1) (F : Fine lt W0 N) (hb : Below W0.heap.size W0 w) (h : NdV w cs N) (hk : N.k = 15) :
    Calls Tryz.prog 45 #[.agg cs.toArray] w fun e w' => e = .returned (.string (T lt N)) ∧ Below w.heap.size w w' := by
  obtain ⟨v0, v1, v2, v3, ka, kc, ba, bc, kb, ko, bb, bo, O⟩ := h.open
  have lC := h.len
  have hk1 : N.ks.length ≤ 9223372036854775807 := by have := O.kl; omega
  have hk2 : N.bd.length ≤ 9223372036854775807 := by have := O.bl; omega
  have BN := below_new w (.cells cs.toArray 34)
  have hP := O.nf (cells_new w cs 34)
  have hc0 := cells_new w cs 34
  obtain ⟨S0, i3, i4, i5⟩ := sets_at w (.cells cs.toArray 34)
  have hP4 := hP.below S0
  have hc4 := hc0.below S0
  have B4 := Below.then BN S0
  obtain ⟨W4, hW4⟩ : ∃ W4, ((((w.alloc (.cells cs.toArray 34)).alloc (.cells #[.int .i64 4, .int .i64 5] 22)).alloc (.cells #[.int .i64 3, .int .i64 4, .int .i64 5] 22)).alloc (.cells #[.int .i64 16] 22)) = W4 := ⟨_, rfl⟩
  rw [hW4] at i3 i4 i5 hP4 hc4 B4
  obtain ⟨p0, -, -, -, -, -, p10, p11, -, -, -⟩ := hP4
  have hb4 := Below.then hb B4
  have h4 := h.below B4
  have e3 : (N.k == 3) = false := by rw [hk]; rfl
  have e4 : (N.k == 4) = false := by rw [hk]; rfl
  have e5 : (N.k == 5) = false := by rw [hk]; rfl
  have e14 : (N.k == 14) = false := by rw [hk]; rfl
  have e15 : (N.k == 15) = true := by rw [hk]; rfl
  have e16 : (N.k == 16) = false := by rw [hk]; rfl
  have e10 : (N.k == 10) = false := by rw [hk]; rfl
  clear S0 hP BN hc0
  obtain ⟨A, B, C, e⟩ := ok_k15 F.ok hk
  have i6 := kinds_new W4 [16, 14, 15, 3, 4, 5] (by simp) (by simp)
  have S5 := below_new W4 (.cells #[.int .i64 16, .int .i64 14, .int .i64 15, .int .i64 3, .int .i64 4, .int .i64 5] 22)
  have B5 := Below.then B4 S5
  have i5 := IntsAt.below i5 S5
  have q10 := (S5.cell (cell_lt p10)).trans p10
  have hb5 := Below.then hb B5
  have h5 := h.below B5
  have h0 : 0 < N.ks.length := by rw [e]; simp
  have F0 := F.kid h0
  have r0 := rk_kid N h0
  have ix0 := kids_at (ic := kc) rfl O.ka h0
  rw [show ((0 : Nat) : Int) = 0 from rfl] at ix0
  obtain ⟨c0, hc0, hN0⟩ := (NdsAt.below B5 O.kat).at h0
  have l0 := hN0.len
  have g0 : N.ks[0] = A := by simp [e]
  rw [g0] at F0 r0 hN0
  have h1 : 1 < N.ks.length := by rw [e]; simp
  have F1 := F.kid h1
  have r1 := rk_kid N h1
  have ix1 := kids_at (ic := kc) rfl O.ka h1
  rw [show ((1 : Nat) : Int) = 1 from rfl] at ix1
  obtain ⟨c1, hc1, hN1⟩ := (NdsAt.below B5 O.kat).at h1
  have l1 := hN1.len
  have g1 : N.ks[1] = B := by simp [e]
  rw [g1] at F1 r1 hN1
  have h2 : 2 < N.ks.length := by rw [e]; simp
  have F2 := F.kid h2
  have r2 := rk_kid N h2
  have ix2 := kids_at (ic := kc) rfl O.ka h2
  rw [show ((2 : Nat) : Int) = 2 from rfl] at ix2
  obtain ⟨c2, hc2, hN2⟩ := (NdsAt.below B5 O.kat).at h2
  have l2 := hN2.len
  have g2 : N.ks[2] = C := by simp [e]
  rw [g2] at F2 r2 hN2
  have HQ := T_15 lt hk e F0.ne F1.ne F2.ne
  obtain ⟨W5, hW5⟩ : ∃ W5, W4.alloc (.cells #[.int .i64 16, .int .i64 14, .int .i64 15, .int .i64 3, .int .i64 4, .int .i64 5] 22) = W5 := ⟨_, rfl⟩
  replace i6 : IntsAt W5 (some ⟨W4.heap.size, 0, none⟩) 6 [16, 14, 15, 3, 4, 5] := hW5 ▸ i6
  rw [hW5] at i5 q10 hb5 h5 B5 S5 hc0 hN0 hc1 hN1 hc2 hN2
  obtain ⟨a6, ha6⟩ : ∃ a6, W4.heap.size = a6 := ⟨_, rfl⟩
  rw [ha6] at i6
  have AM1 := fun x : Sub W5 => amongR c1 B (some ⟨w.heap.size + 1 + 1 + 1, 0, none⟩) 1 [16] x.w (hN1.below x.below) (IntsAt.below i5 x.below)
  have PA1 := fun x : Sub W5 => parenR lt W0 r ih (hasB [16] B.k) c1 B x.w (by omega) F1 (Below.then hb5 x.below) (hN1.below x.below)
  have z1 := F1.psize (hasB [16] B.k)
  obtain ⟨b1, hb1'⟩ : ∃ b, hasB [16] B.k = b := ⟨_, rfl⟩
  simp only [hb1', List.length_cons, List.length_nil, Nat.reduceAdd] at AM1 PA1 z1
  rw [hb1'] at HQ
  obtain ⟨t1, ht1⟩ : ∃ s, PT lt b1 B = s := ⟨_, rfl⟩
  simp only [ht1] at PA1 z1
  rw [ht1] at HQ
  clear hb1' ht1
  have SH0 := fun x : Sub W5 => ih c0 A x.w (by omega) F0 (Below.then hb5 x.below) (hN0.below x.below)
  have z0 := F0.size
  obtain ⟨t0, ht0⟩ : ∃ s, T lt A = s := ⟨_, rfl⟩
  simp only [ht0] at SH0 z0
  rw [ht0] at HQ
  clear ht0
  have AM2 := fun x : Sub W5 => amongR c2 C (some ⟨a6, 0, none⟩) 6 [16, 14, 15, 3, 4, 5] x.w (hN2.below x.below) (IntsAt.below i6 x.below)
  have PA2 := fun x : Sub W5 => parenR lt W0 r ih (hasB [16, 14, 15, 3, 4, 5] C.k) c2 C x.w (by omega) F2 (Below.then hb5 x.below) (hN2.below x.below)
  have z2 := F2.psize (hasB [16, 14, 15, 3, 4, 5] C.k)
  obtain ⟨b2, hb2'⟩ : ∃ b, hasB [16, 14, 15, 3, 4, 5] C.k = b := ⟨_, rfl⟩
  simp only [hb2', List.length_cons, List.length_nil, Nat.reduceAdd] at AM2 PA2 z2
  rw [hb2'] at HQ
  obtain ⟨t2, ht2⟩ : ∃ s, PT lt b2 C = s := ⟨_, rfl⟩
  simp only [ht2] at PA2 z2
  rw [ht2] at HQ
  clear hb2' ht2
  have HG : Hid (T lt N = t1 ++ (⟨#[32]⟩ : ByteArray) ++ t0 ++ (⟨#[32]⟩ : ByteArray) ++ t2) := HQ
  clear HQ
  have s0 := fun w => run_string_add_sum (P := Tryz.prog) w (t1) ⟨#[32]⟩ (by simp only [ByteArray.size_append, c32]; omega)
  have s1 := fun w => run_string_add_sum (P := Tryz.prog) w (t1 ++ (⟨#[32]⟩ : ByteArray)) t0 (by simp only [ByteArray.size_append, c32]; omega)
  have s2 := fun w => run_string_add_sum (P := Tryz.prog) w (t1 ++ (⟨#[32]⟩ : ByteArray) ++ t0) ⟨#[32]⟩ (by simp only [ByteArray.size_append, c32]; omega)
  have s3 := fun w => run_string_add_sum (P := Tryz.prog) w (t1 ++ (⟨#[32]⟩ : ByteArray) ++ t0 ++ (⟨#[32]⟩ : ByteArray)) t2 (by simp only [ByteArray.size_append, c32]; omega)
  have y10 := fun x : Sub W5 => x.cell q10
  clear e i3 i4 i5 hc4 h4 hb4 hb h F ih hr p11 O lC F0 r0 z0 hN0 g0 F1 r1 z1 hN1 g1 F2 r2 z2 hN2 g2 i6 hb5 h5 q10
  go_enter Tryz.func45, Tryz.ntmps45
  go_upto_region 4 with fail
  try rw [hW4]
  clear hW4
  go_wp2_with fail
  try rw [hW5]
  try rw [ha6]
  clear hW5 ha6
  refine wp_region_sub (W := W5) (by kernel_rfl) (by kernel_rfl) (Below.refl _ _) ?_
  repeat (first | (go_big_quiet_want; (first | refine quiet_load_node hc0 l0 rfl rfl ?_ | refine quiet_load_node hc1 l1 rfl rfl ?_ | refine quiet_load_node hc2 l2 rfl rfl ?_); simp only [Act.put, List.setIfInBounds_toArray, List.set_cons_succ, List.set_cons_zero]; go_big_quiet_on) | go_big_quiet_step ((first | (go_at_call 72; with_reducible exact sub_call (AM1 _)) | (go_at_call 71; with_reducible exact sub_call (PA1 _)) | (go_at_call 45; with_reducible exact sub_call (SH0 _)) | (go_at_call 72; with_reducible exact sub_call (AM2 _)) | (go_at_call 71; with_reducible exact sub_call (PA2 _)))))
  refine wpQuiet_nil ?_
  intro x
  have bx := x.below
  generalize x.w = w2 at *
  clear AM1 PA1 SH0 AM2 PA2
  go_wp2_with fail
  go_ret
  exact ⟨by rw [HG.out]; rfl, Below.then B5 bx⟩
set_option maxHeartbeats 8000000 in
theorem show_k3 (lt : Arr → ByteArray) (W0 : World) (r : Nat) (ih : ShowR lt W0 r) (cs : List Value) (N : Nd) (w : World) (hr : rkN N < r + 1) (F : Fine lt W0 N) (hb : Below W0.heap.size W0 w) (h : NdV w cs N) (hk : N.k = 3) :
    Calls Tryz.prog 45 #[.agg cs.toArray] w fun e w' => e = .returned (.string (T lt N)) ∧ Below w.heap.size w w' := by
  obtain ⟨v0, v1, v2, v3, ka, kc, ba, bc, kb, ko, bb, bo, O⟩ := h.open
  have lC := h.len
  have hk1 : N.ks.length ≤ 9223372036854775807 := by have := O.kl; omega
  have hk2 : N.bd.length ≤ 9223372036854775807 := by have := O.bl; omega
  have BN := below_new w (.cells cs.toArray 34)
  have hP := O.nf (cells_new w cs 34)
  have hc0 := cells_new w cs 34
  obtain ⟨S0, i3, i4, i5⟩ := sets_at w (.cells cs.toArray 34)
  have hP4 := hP.below S0
  have hc4 := hc0.below S0
  have B4 := Below.then BN S0
  obtain ⟨W4, hW4⟩ : ∃ W4, ((((w.alloc (.cells cs.toArray 34)).alloc (.cells #[.int .i64 4, .int .i64 5] 22)).alloc (.cells #[.int .i64 3, .int .i64 4, .int .i64 5] 22)).alloc (.cells #[.int .i64 16] 22)) = W4 := ⟨_, rfl⟩
  rw [hW4] at i3 i4 i5 hP4 hc4 B4
  obtain ⟨p0, -, -, -, -, -, p10, p11, -, -, -⟩ := hP4
  have hb4 := Below.then hb B4
  have h4 := h.below B4
  have e3 : (N.k == 3) = true := by rw [hk]; rfl
  have e4 : (N.k == 4) = false := by rw [hk]; rfl
  have e5 : (N.k == 5) = false := by rw [hk]; rfl
  have e14 : (N.k == 14) = false := by rw [hk]; rfl
  have e15 : (N.k == 15) = false := by rw [hk]; rfl
  have e16 : (N.k == 16) = false := by rw [hk]; rfl
  have e10 : (N.k == 10) = false := by rw [hk]; rfl
  clear S0 hP BN hc0
  have LR := listR lt W0 r ih ka kc kb ko N.ks (some ⟨w.heap.size + 1 + 1, 0, none⟩) 3 [3, 4, 5] W4 (fun i hi => by have := rk_kid N hi; omega) (fun i hi => F.kid hi) (by have := siz_eq N; have := F.sz; omega) hk1 O.ka (NdsAt.below B4 O.kat) i4 hb4
  simp only [List.length_cons, List.length_nil, Nat.reduceAdd] at LR
  have HG : Hid (T lt N = LT lt [3, 4, 5] N.ks) := T_3 lt hk
  clear i3 i4 i5 hc4 h4 hb4 hb h F ih hr p11 O lC
  go_enter Tryz.func45, Tryz.ntmps45
  go_upto_region 4 with fail
  try rw [hW4]
  clear hW4
  go_wp2_with (go_at_call 70; ((with_reducible refine LR.mono ?_); rintro e w3 ⟨rfl, b3⟩))
  go_ret
  exact ⟨by rw [HG.out]; rfl, Below.then B4 b3⟩
set_option maxHeartbeats 8000000 in
theorem show_k16 (lt : Arr → ByteArray) (W0 : World) (r : Nat) (ih : ShowR lt W0 r) (cs : List Value) (N : Nd) (w : World) (hr : rkN N < r + 1) (F : Fine lt W0 N) (hb : Below W0.heap.size W0 w) (h : NdV w cs N) (hk : N.k = 16) :
    Calls Tryz.prog 45 #[.agg cs.toArray] w fun e w' => e = .returned (.string (T lt N)) ∧ Below w.heap.size w w' := by
  obtain ⟨v0, v1, v2, v3, ka, kc, ba, bc, kb, ko, bb, bo, O⟩ := h.open
  have lC := h.len
  have hk1 : N.ks.length ≤ 9223372036854775807 := by have := O.kl; omega
  have hk2 : N.bd.length ≤ 9223372036854775807 := by have := O.bl; omega
  have BN := below_new w (.cells cs.toArray 34)
  have hP := O.nf (cells_new w cs 34)
  have hc0 := cells_new w cs 34
  obtain ⟨S0, i3, i4, i5⟩ := sets_at w (.cells cs.toArray 34)
  have hP4 := hP.below S0
  have hc4 := hc0.below S0
  have B4 := Below.then BN S0
  obtain ⟨W4, hW4⟩ : ∃ W4, ((((w.alloc (.cells cs.toArray 34)).alloc (.cells #[.int .i64 4, .int .i64 5] 22)).alloc (.cells #[.int .i64 3, .int .i64 4, .int .i64 5] 22)).alloc (.cells #[.int .i64 16] 22)) = W4 := ⟨_, rfl⟩
  rw [hW4] at i3 i4 i5 hP4 hc4 B4
  obtain ⟨p0, -, -, -, -, -, p10, p11, -, -, -⟩ := hP4
  have hb4 := Below.then hb B4
  have h4 := h.below B4
  have e3 : (N.k == 3) = false := by rw [hk]; rfl
  have e4 : (N.k == 4) = false := by rw [hk]; rfl
  have e5 : (N.k == 5) = false := by rw [hk]; rfl
  have e14 : (N.k == 14) = false := by rw [hk]; rfl
  have e15 : (N.k == 15) = false := by rw [hk]; rfl
  have e16 : (N.k == 16) = true := by rw [hk]; rfl
  have e10 : (N.k == 10) = false := by rw [hk]; rfl
  clear S0 hP BN hc0
  have i6 := kinds_new W4 [16, 4, 5] (by simp) (by simp)
  have S5 := below_new W4 (.cells #[.int .i64 16, .int .i64 4, .int .i64 5] 22)
  have B5 := Below.then B4 S5
  have LR := listR lt W0 r ih ka kc kb ko N.ks (some ⟨W4.heap.size, 0, none⟩) 3 [16, 4, 5] _ (fun i hi => by have := rk_kid N hi; omega) (fun i hi => F.kid hi) (by have := siz_eq N; have := F.sz; omega) hk1 O.ka (NdsAt.below B5 O.kat) i6 (Below.then hb B5)
  simp only [List.length_cons, List.length_nil, Nat.reduceAdd] at LR
  have HG : Hid (T lt N = LT lt [16, 4, 5] N.ks) := T_16 lt hk
  clear i3 i4 i5 i6 hc4 h4 hb4 hb h F ih hr p11 O lC
  go_enter Tryz.func45, Tryz.ntmps45
  go_upto_region 4 with fail
  try rw [hW4]
  clear hW4
  go_wp2_with (go_at_call 70; ((with_reducible refine LR.mono ?_); rintro e w3 ⟨rfl, b3⟩))
  go_ret
  exact ⟨by rw [HG.out]; rfl, Below.then B5 b3⟩
theorem ok_bd10 {N : Nd} (h : okN N = true) (hk : N.k = 10) : N.bd ≠ [] := by
  rw [okN_eqP, if_pos hk] at h
  simp only [Bool.and_eq_true] at h
  intro e
  have := h.2.1.1.1.2
  rw [e] at this
  simp at this
set_option maxHeartbeats 8000000 in
theorem show_k10 (lt : Arr → ByteArray) (W0 : World) (r : Nat) (ih : ShowR lt W0 r) (cs : List Value) (N : Nd) (w : World) (hr : rkN N < r + 1) (F : Fine lt W0 N) (hb : Below W0.heap.size W0 w) (h : NdV w cs N) (hk : N.k = 10) :
    Calls Tryz.prog 45 #[.agg cs.toArray] w fun e w' => e = .returned (.string (T lt N)) ∧ Below w.heap.size w w' := by
  obtain ⟨v0, v1, v2, v3, ka, kc, ba, bc, kb, ko, bb, bo, O⟩ := h.open
  have lC := h.len
  have hk1 : N.ks.length ≤ 9223372036854775807 := by have := O.kl; omega
  have hk2 : N.bd.length ≤ 9223372036854775807 := by have := O.bl; omega
  have BN := below_new w (.cells cs.toArray 34)
  have hP := O.nf (cells_new w cs 34)
  have hc0 := cells_new w cs 34
  obtain ⟨S0, i3, i4, i5⟩ := sets_at w (.cells cs.toArray 34)
  have hP4 := hP.below S0
  have hc4 := hc0.below S0
  have B4 := Below.then BN S0
  obtain ⟨W4, hW4⟩ : ∃ W4, ((((w.alloc (.cells cs.toArray 34)).alloc (.cells #[.int .i64 4, .int .i64 5] 22)).alloc (.cells #[.int .i64 3, .int .i64 4, .int .i64 5] 22)).alloc (.cells #[.int .i64 16] 22)) = W4 := ⟨_, rfl⟩
  rw [hW4] at i3 i4 i5 hP4 hc4 B4
  obtain ⟨p0, -, -, -, -, -, p10, p11, -, -, -⟩ := hP4
  have hb4 := Below.then hb B4
  have h4 := h.below B4
  have e3 : (N.k == 3) = false := by rw [hk]; rfl
  have e4 : (N.k == 4) = false := by rw [hk]; rfl
  have e5 : (N.k == 5) = false := by rw [hk]; rfl
  have e14 : (N.k == 14) = false := by rw [hk]; rfl
  have e15 : (N.k == 15) = false := by rw [hk]; rfl
  have e16 : (N.k == 16) = false := by rw [hk]; rfl
  have e10 : (N.k == 10) = true := by rw [hk]; rfl
  clear S0 hP BN hc0
  have FS := fun i (hi : i < N.bd.length) => F.stmt hk hi
  have hz : sizB N.bd ≤ 16384 := by have := siz_eq N; have := F.sz; omega
  have BR := BodyR lt W0 r ih ba bc bb bo N.bd W4 (fun i hi => by have := rk_body N hi; omega) FS hz hk2 O.ba (StsAt.below B4 O.bat) hb4
  have hne := ok_bd10 F.ok hk
  have HQ := T_lam lt hk hne (fun S hS => by obtain ⟨i, hi, rfl⟩ := List.mem_iff_getElem.1 hS; exact (FS i hi).ok)
  have z := BT_size FS hz N.bd.length
  rw [List.take_length] at z
  obtain ⟨s, hs⟩ : ∃ s, BT lt N.bd = s := ⟨_, rfl⟩
  rw [hs] at BR HQ z
  have HG : Hid (T lt N = (⟨#[123, 32]⟩ : ByteArray) ++ s ++ ⟨#[32, 125]⟩) := HQ
  have c1 : (⟨#[123, 32]⟩ : ByteArray).size = 2 := rfl
  have c2 : (⟨#[32, 125]⟩ : ByteArray).size = 2 := rfl
  have s1 := fun w => run_string_add_sum (P := Tryz.prog) w ⟨#[123, 32]⟩ s (by rw [c1]; omega)
  have s2 := fun w => run_string_add_sum (P := Tryz.prog) w (⟨#[123, 32]⟩ ++ s) ⟨#[32, 125]⟩ (by rw [ByteArray.size_append, c1, c2]; omega)
  clear i3 i4 i5 hc4 h4 hb4 hb h F ih hr p10 O lC HQ hs z c1 c2 FS hne hz
  go_enter Tryz.func45, Tryz.ntmps45
  go_upto_region 4 with fail
  try rw [hW4]
  clear hW4
  go_wp2_with (go_at_call 73; ((with_reducible refine BR.mono ?_); rintro e w3 ⟨rfl, b3⟩))
  go_ret
  exact ⟨by rw [HG.out]; rfl, Below.then B4 b3⟩
set_option maxHeartbeats 8000000 in
theorem show_leaf (lt : Arr → ByteArray) (W0 : World) (r : Nat) (ih : ShowR lt W0 r) (cs : List Value) (N : Nd) (w : World) (hr : rkN N < r + 1) (F : Fine lt W0 N) (hb : Below W0.heap.size W0 w) (h : NdV w cs N) (hk : ¬ N.k = 3 ∧ ¬ N.k = 4 ∧ ¬ N.k = 5 ∧ ¬ N.k = 10 ∧ ¬ N.k = 14 ∧ ¬ N.k = 15 ∧ ¬ N.k = 16) :
    Calls Tryz.prog 45 #[.agg cs.toArray] w fun e w' => e = .returned (.string (T lt N)) ∧ Below w.heap.size w w' := by
  obtain ⟨v0, v1, v2, v3, ka, kc, ba, bc, kb, ko, bb, bo, O⟩ := h.open
  have lC := h.len
  have hk1 : N.ks.length ≤ 9223372036854775807 := by have := O.kl; omega
  have hk2 : N.bd.length ≤ 9223372036854775807 := by have := O.bl; omega
  have BN := below_new w (.cells cs.toArray 34)
  have hP := O.nf (cells_new w cs 34)
  have hc0 := cells_new w cs 34
  obtain ⟨S0, i3, i4, i5⟩ := sets_at w (.cells cs.toArray 34)
  have hP4 := hP.below S0
  have hc4 := hc0.below S0
  have B4 := Below.then BN S0
  obtain ⟨W4, hW4⟩ : ∃ W4, ((((w.alloc (.cells cs.toArray 34)).alloc (.cells #[.int .i64 4, .int .i64 5] 22)).alloc (.cells #[.int .i64 3, .int .i64 4, .int .i64 5] 22)).alloc (.cells #[.int .i64 16] 22)) = W4 := ⟨_, rfl⟩
  rw [hW4] at i3 i4 i5 hP4 hc4 B4
  obtain ⟨p0, -, -, -, -, -, p10, p11, -, -, -⟩ := hP4
  have hb4 := Below.then hb B4
  have h4 := h.below B4
  have e3 : (N.k == 3) = false := by simp; omega
  have e4 : (N.k == 4) = false := by simp; omega
  have e5 : (N.k == 5) = false := by simp; omega
  have e14 : (N.k == 14) = false := by simp; omega
  have e15 : (N.k == 15) = false := by simp; omega
  have e16 : (N.k == 16) = false := by simp; omega
  have e10 : (N.k == 10) = false := by simp; omega
  clear S0 hP BN hc0
  have lq := F.lq
  rw [lqN_eq] at lq
  have WR := wordR lt cs N W0 W4 hb4 h4 F.ok (fun k => (lq.1 k).1) hk
  have HG : Hid (T lt N = wdB lt N) := T_word lt hk
  clear i3 i4 i5 h4 hb4 hb h F ih hr p10 p11 O lq hk
  go_enter Tryz.func45, Tryz.ntmps45
  go_upto_region 4 with fail
  try rw [hW4]
  clear hW4
  go_wp2_with (first | ((with_reducible show wpList _ _ _ ({ dst := _, op := Op.load 34 _, type := _, pos := _, after := _, guard := none } :: _) _ _); refine wpList_load_node rfl rfl rfl hc4 lC ?_) | (go_at_call 74; ((with_reducible refine WR.mono ?_); rintro e w3 ⟨rfl, b3⟩)))
  go_ret
  exact ⟨by rw [HG.out]; rfl, Below.then B4 b3⟩
theorem show_all (lt : Arr → ByteArray) (W0 : World) : ∀ r, ShowR lt W0 r
  | 0 => fun _ _ _ h => absurd h (Nat.not_lt_zero _)
  | r + 1 => fun cs N w hr F hb h => by
    have ih := show_all lt W0 r
    by_cases k3 : N.k = 3
    · exact show_k3 lt W0 r ih cs N w hr F hb h k3
    by_cases k4 : N.k = 4
    · exact show_k4 lt W0 r ih cs N w hr F hb h k4
    by_cases k5 : N.k = 5
    · exact show_k5 lt W0 r ih cs N w hr F hb h k5
    by_cases k10 : N.k = 10
    · exact show_k10 lt W0 r ih cs N w hr F hb h k10
    by_cases k14 : N.k = 14
    · exact show_k14 lt W0 r ih cs N w hr F hb h k14
    by_cases k15 : N.k = 15
    · exact show_k15 lt W0 r ih cs N w hr F hb h k15
    by_cases k16 : N.k = 16
    · exact show_k16 lt W0 r ih cs N w hr F hb h k16
    exact show_leaf lt W0 r ih cs N w hr F hb h ⟨k3, k4, k5, k10, k14, k15, k16⟩
end Go.Proofs.YtghmbmjikkdbnaaGreatDoor.Syn

namespace Go.Proofs.YtghmbmjikkdbnaaGreatDoor.Syn
open Go.RowKit Go.Shelf Go.Maps Go.Proofs.YtghmbmjikkdbnaaGreatDoor.Shape
set_option linter.unusedVariables false
set_option linter.unusedSimpArgs false
set_option maxRecDepth 100000
set_option maxHeartbeats 8000000 in
theorem refShowR (lt : Arr → ByteArray) (cs : List Value) (N : Nd) (w : World) (h : NdV w cs N) (lq : okN N = true → lqN (fun A => LitR w A (lt A) ∧ (lt A).size ≤ 1000000) N) :
    Calls Tryz.prog 21 #[.agg cs.toArray] w fun e w' => e = .returned (.string (showT lt N)) ∧ Below w.heap.size w w' := by
  have hN := h
  have lC := h.len
  have hC0 := cells_new w cs 34
  have BN := below_new w (.cells cs.toArray 34)
  have DR := depthR cs N 60 _ (by decide) (hN.below BN)
  rw [show ((60 : Nat) : Int) = 60 from rfl] at DR
  have CR := fun w' (g : Below w.heap.size w w') => countR cs N 16384 w' (by decide) (hN.below g)
  simp only [show ((16384 : Nat) : Int) = 16384 from rfl] at CR
  have VR := fun w' (g : Below w.heap.size w w') => validR cs N w' (hN.below g)
  have SH0 := fun (ok : okN N = true) (z : siz N ≤ 16384) w' (g : Below w.heap.size w w') => show_all lt w (rkN N + 1) cs N w' (Nat.lt_succ_self _) ⟨ok, lq ok, z⟩ g (hN.below g)
  obtain ⟨r, hr⟩ : ∃ r, showT lt N = r := ⟨_, rfl⟩
  rw [hr]
  unfold showT at hr
  obtain ⟨V, hV⟩ : ∃ V, okN N = V := ⟨_, rfl⟩
  simp only [hV] at VR SH0 hr
  clear hV h hN lq
  obtain ⟨D, hD⟩ : ∃ D : Nat, depM (dep N) 60 = D := ⟨_, rfl⟩
  obtain ⟨Z, hZ⟩ : ∃ Z : Nat, min (siz N) (16384 + 1) = Z := ⟨_, rfl⟩
  have d1 : 60 < dep N → (60 : Int) < (D : Int) := fun h => hD ▸ dep_gt h
  have d2 : ¬ 60 < dep N → ¬ ((60 : Int) < (D : Int)) := fun h => hD ▸ dep_le h
  have z1 : 16384 < siz N → (16384 : Int) < (Z : Int) := fun h => hZ ▸ siz_gt h
  have z2 : ¬ 16384 < siz N → ¬ ((16384 : Int) < (Z : Int)) := fun h => hZ ▸ siz_le h
  rw [hD] at DR
  simp only [hZ] at CR
  clear hD hZ
  by_cases c1 : 60 < dep N
  · have c1' := decide_eq_true (d1 c1)
    clear d1 d2 z1 z2 SH0
    have HG : Hid (r = ⟨#[]⟩) := by unfold Hid; rw [← hr, if_neg (by omega)]
    clear hr
    go_enter Tryz.func21, Tryz.ntmps21
    go_wp2_with (first | ((with_reducible show wpList _ _ _ ({ dst := _, op := Op.load 34 _, type := _, pos := _, after := _, guard := _ } :: _) _ _); first | refine wpList_load_nodeG rfl rfl rfl hC0 lC ?_) | (go_at_call 27; ((with_reducible refine DR.mono ?_); rintro e w3 ⟨rfl, b3⟩; (have B3 := Below.then BN b3); (have hC3 := hC0.below b3))))
    go_ret
    exact ⟨by rw [HG.out]; rfl, B3⟩
  · have c1' := decide_eq_false (d2 c1)
    by_cases c2 : 16384 < siz N
    · have c2' := decide_eq_true (z1 c2)
      clear d1 d2 z1 z2 SH0
      have HG : Hid (r = ⟨#[]⟩) := by unfold Hid; rw [← hr, if_neg (by omega)]
      clear hr
      go_enter Tryz.func21, Tryz.ntmps21
      go_wp2_with (first | ((with_reducible show wpList _ _ _ ({ dst := _, op := Op.load 34 _, type := _, pos := _, after := _, guard := _ } :: _) _ _); first | refine wpList_load_nodeG rfl rfl rfl hC0 lC ?_ | refine wpList_load_nodeG rfl rfl rfl hC3 lC ?_) | (go_at_call 27; ((with_reducible refine DR.mono ?_); rintro e w3 ⟨rfl, b3⟩; (have B3 := Below.then BN b3); (have hC3 := hC0.below b3))) | (go_at_call 28; ((with_reducible refine (CR _ B3).mono ?_); rintro e w4 ⟨rfl, b4⟩; (have B4 := Below.then B3 b4); (have hC4 := hC3.below b4))))
      go_ret
      exact ⟨by rw [HG.out]; rfl, B4⟩
    · have c2' := decide_eq_false (z2 c2)
      clear d1 d2 z1 z2
      cases V with
      | false =>
        have HG : Hid (r = ⟨#[]⟩) := by unfold Hid; rw [← hr, if_neg (by simp)]
        clear hr SH0
        go_enter Tryz.func21, Tryz.ntmps21
        go_wp2_with (first | ((with_reducible show wpList _ _ _ ({ dst := _, op := Op.load 34 _, type := _, pos := _, after := _, guard := _ } :: _) _ _); first | refine wpList_load_nodeG rfl rfl rfl hC0 lC ?_ | refine wpList_load_nodeG rfl rfl rfl hC3 lC ?_ | refine wpList_load_nodeG rfl rfl rfl hC4 lC ?_) | (go_at_call 27; ((with_reducible refine DR.mono ?_); rintro e w3 ⟨rfl, b3⟩; (have B3 := Below.then BN b3); (have hC3 := hC0.below b3))) | (go_at_call 28; ((with_reducible refine (CR _ B3).mono ?_); rintro e w4 ⟨rfl, b4⟩; (have B4 := Below.then B3 b4); (have hC4 := hC3.below b4))) | (go_at_call 29; ((with_reducible refine (VR _ B4).mono ?_); rintro e w5 ⟨rfl, b5⟩; (have B5 := Below.then B4 b5); (have hC5 := hC4.below b5))))
        go_ret
        exact ⟨by rw [HG.out]; rfl, B5⟩
      | true =>
        have SH := SH0 rfl (by omega)
        have HG : Hid (r = T lt N) := by unfold Hid; rw [← hr, if_pos ⟨by omega, by omega, rfl⟩]; rfl
        clear hr SH0
        obtain ⟨s, hs⟩ : ∃ s, T lt N = s := ⟨_, rfl⟩
        simp only [hs] at SH
        rw [hs] at HG
        clear hs
        go_enter Tryz.func21, Tryz.ntmps21
        go_wp2_with (first | ((with_reducible show wpList _ _ _ ({ dst := _, op := Op.load 34 _, type := _, pos := _, after := _, guard := _ } :: _) _ _); first | refine wpList_load_nodeG rfl rfl rfl hC0 lC ?_ | refine wpList_load_nodeG rfl rfl rfl hC3 lC ?_ | refine wpList_load_nodeG rfl rfl rfl hC4 lC ?_ | refine wpList_load_nodeG rfl rfl rfl hC5 lC ?_) | (go_at_call 27; ((with_reducible refine DR.mono ?_); rintro e w3 ⟨rfl, b3⟩; (have B3 := Below.then BN b3); (have hC3 := hC0.below b3))) | (go_at_call 28; ((with_reducible refine (CR _ B3).mono ?_); rintro e w4 ⟨rfl, b4⟩; (have B4 := Below.then B3 b4); (have hC4 := hC3.below b4))) | (go_at_call 29; ((with_reducible refine (VR _ B4).mono ?_); rintro e w5 ⟨rfl, b5⟩; (have B5 := Below.then B4 b5); (have hC5 := hC4.below b5))) | (go_at_call 45; ((with_reducible refine (SH _ B5).mono ?_); rintro e w6 ⟨rfl, b6⟩)))
        go_ret
        exact ⟨by rw [HG.out]; rfl, Below.then B5 b6⟩
set_option maxHeartbeats 4000000 in
theorem showP0 (lt : Arr → ByteArray) (cs : List Value) (N : Nd) (w : World) (h : NdV w cs N) (hT : Tab w) (hs : siz N ≤ 2000000) (V : okN N = false) :
    Calls Tryz.prog 20 #[.agg cs.toArray] w fun e w' => e = .returned (.string (showT lt N)) ∧ Below w.heap.size w w' := by
  have lC := h.len
  have hC0 := cells_new w cs 34
  have B1 := below_new w (.cells cs.toArray 34)
  have T := top_at (h.below B1) 34 34
  have B2 := Below.then (Below.then B1 (below_new _ (.cells cs.toArray 34))) (below_new _ (.cells (topV (some ⟨(w.alloc (.cells cs.toArray 34)).heap.size, 0, none⟩) 1 1).toArray 34))
  rw [show (w.alloc (.cells cs.toArray 34)).heap.size = w.heap.size + 1 by simp] at T B2
  have E := extP (topN N) (w.heap.size + 1 + 1) 0 _ T (frozen_new _ _ _ _ (by simp)) (by rw [siz_topN]; omega)
  have VV := fun w' (g : Below w.heap.size w w') (m : NdM w' w.heap.size 0 N) => validP N w.heap.size 0 w' m (hT.below g)
  have M0 : NdM (w.alloc (.cells cs.toArray 34)) w.heap.size 0 N := h.mem _
  have M2 := (M0.below (below_new _ (.cells cs.toArray 34))).below (below_new _ (.cells (topV (some ⟨w.heap.size + 1, 0, none⟩) 1 1).toArray 34))
  have B12 : Below (w.alloc (.cells cs.toArray 34)).heap.size (w.alloc (.cells cs.toArray 34)) _ := Below.then (below_new (w.alloc (.cells cs.toArray 34)) (.cells cs.toArray 34)) (below_new _ (.cells (topV (some ⟨w.heap.size + 1, 0, none⟩) 1 1).toArray 34))
  obtain ⟨W1, hW1⟩ : ∃ W1, w.alloc (.cells cs.toArray 34) = W1 := ⟨_, rfl⟩
  have E := E.mono (R' := fun e w' => ∃ x : Int, e = .returned (.int .i64 x) ∧ ExtR (topN N) x ∧ Below w.heap.size w w' ∧ NdM w' w.heap.size 0 N ∧ Below W1.heap.size W1 w') (by
    rintro e w' ⟨x, h1, h2, h3⟩
    exact ⟨x, h1, h2, Below.then B2 h3, M2.below h3, hW1 ▸ Below.then B12 h3⟩)
  have SD : Hid (ExtR (topN N) 0 → siz N ≤ 16384 ∧ dep N ≤ 60) := fun h => by
    have := h.2.2 rfl; rw [siz_topN, dep_topN] at this; omega
  have SX : Hid (∀ x, ExtR (topN N) x → (x != 0) = true → showT lt N = ⟨#[]⟩) := fun x h e => by
    have hx : ¬ x = 0 := by simpa using e
    unfold showT
    rw [if_neg]
    rintro ⟨d, s, -⟩
    have := h.1 (by rw [siz_topN]; omega)
    rw [dep_topN, if_neg (by omega)] at this
    exact hx this
  have SY : Hid (ExtR (topN N) 0 → showT lt N = if okN N = true then joinW (shN lt N) else ⟨#[]⟩) := fun h => by
    obtain ⟨s, d⟩ := SD.out h
    unfold showT
    by_cases o : okN N = true
    · rw [if_pos o, if_pos ⟨d, s, o⟩]
    · rw [if_neg o, if_neg (fun q => o q.2.2)]
  have SD1 : ∀ x, ExtR (topN N) x → x = 0 → siz N ≤ 20000 := fun x h e => by subst e; have := SD.out h; omega
  have SD2 : ∀ x, ExtR (topN N) x → x = 0 → dep N ≤ 100 := fun x h e => by subst e; have := SD.out h; omega
  have SZ : ∀ x, ExtR (topN N) x → x = 0 → Hid (showT lt N = if okN N = true then joinW (shN lt N) else ⟨#[]⟩) := fun x h e => by subst e; exact SY.out h
  have SX := fun x h e => (show Hid (showT lt N = ⟨#[]⟩) from SX.out x h e)
  clear T M0 M2 h hT hs B2 B12 hW1 SY SD
  obtain ⟨R, hR⟩ : ∃ R, showT lt N = R := ⟨_, rfl⟩
  simp only [hR] at SX SZ
  rw [hR]
  clear hR
  simp only [V] at VV SZ
  clear V
  go_enter Tryz.func20, Tryz.ntmps20
  go_wp2_with (first | ((with_reducible show wpList _ _ _ ({ dst := _, op := Op.load 34 _, type := _, pos := _, after := _, guard := none } :: _) _ _); refine wpList_load_node rfl rfl rfl hC0 lC ?_) | ((with_reducible show wpList _ _ _ ({ dst := _, op := Op.buildSlice 31 _ _, type := _, pos := _, after := _, guard := none } :: _) _ _); refine wpList_slice_node rfl rfl rfl lC ?_) | ((with_reducible show wpList _ _ _ ({ dst := _, op := Op.build 34 _, type := _, pos := _, after := _, guard := none } :: _) _ _); refine wpList_build_top rfl rfl rfl ?_) | (go_at_call 24; ((with_reducible refine E.mono ?_); rintro e w4 ⟨x, rfl, hx, b4, m4, t4⟩; (have V4 := VV _ b4 m4); (have hx0 : (x = 0 ∧ (x != 0) = false) ∨ (x != 0) = true := by cases q : (x != 0) with | true => exact Or.inr rfl | false => exact Or.inl ⟨by simpa using q, rfl⟩); rcases hx0 with ⟨x0, hx0⟩ | hx0)) | (go_at_call 25; ((with_reducible refine (V4 (SD1 _ hx x0) (SD2 _ hx x0)).mono ?_); rintro e w5 ⟨rfl, b5⟩; (have q1 := hx))))
  all_goals go_ret
  · exact ⟨by rw [(SZ _ hx x0).out]; rfl, Below.then b4 b5⟩
  · exact ⟨by rw [(SX _ hx hx0).out]; rfl, b4⟩
mutual
theorem siz_bk : ∀ N, siz N ≤ bkN N
  | .mk _ _ _ t _ _ v ks bd _ _ _ => by
    have h1 := sizK_bk ks
    have h2 := sizB_bk bd
    rw [siz, bkN]; omega
theorem sizK_bk : ∀ l, sizK l ≤ bkK l
  | [] => by rw [sizK, bkK]; exact Nat.le_refl _
  | N :: r => by
    have h1 := siz_bk N
    have h2 := sizK_bk r
    rw [sizK, bkK]; omega
theorem sizS_bk : ∀ S, sizS S ≤ bkS S
  | .mk k _ n _ te nd => by
    have h1 := siz_bk te
    have h2 := siz_bk nd
    rw [sizS, bkS]
    split <;> omega
theorem sizB_bk : ∀ l, sizB l ≤ bkB l
  | [] => by rw [sizB, bkB]; exact Nat.le_refl _
  | S :: r => by
    have h1 := sizS_bk S
    have h2 := sizB_bk r
    rw [sizB, bkB]; omega
end
mutual
/-- Every literal of a valid node is one. -/
theorem lq_ok {R : Arr → Prop} (hR : ∀ A, rightE A = 0 → litB A = true → R A) : ∀ N, okN N = true → lqN R N
  | .mk k a c t p o v ks bd d s z, h => by
    rw [lqN]
    rw [okN] at h
    simp only [Bool.and_eq_true] at h
    have hn := h.1
    have h := h.2
    by_cases k10 : k = 10
    · rw [if_pos k10] at h
      simp only [Bool.and_eq_true] at h
      have e := emp_ks (N := .mk k a c t p o v ks bd d s z) h.1.1.1.1
      have e : ks = [] := e
      subst e
      exact ⟨fun k1 => by omega, by rw [lqK]; trivial, lqB_ok hR bd h.1.2.1.2⟩
    · rw [if_neg k10] at h
      simp only [Bool.or_eq_true, Bool.and_eq_true] at h
      have hb : (Nd.mk k a c t p o v ks bd d s z).bd = [] := ok_bd (N := .mk k a c t p o v ks bd d s z) (by rw [okN]; simp only [Bool.and_eq_true]; refine ⟨hn, ?_⟩; rw [if_neg k10]; simp only [Bool.or_eq_true, Bool.and_eq_true]; exact h) k10
      have hb : bd = [] := hb
      subst hb
      refine ⟨fun k1 => ?_, ?_, by rw [lqB]; trivial⟩
      · rcases h with h | h
        · unfold leafB at h
          rw [if_pos (show (Nd.mk k a c t p o v ks [] d s z).k = 1 from k1)] at h
          simp only [Bool.and_eq_true, beq_iff_eq] at h
          exact hR v h.1.2 h.2
        · have h := h.1
          unfold innerB at h
          have e : (Nd.mk k a c t p o v ks [] d s z).k = 1 := k1
          rw [if_neg (by omega), if_neg (by omega), if_neg (by omega), if_neg (by omega), if_neg (by omega), if_neg (by omega)] at h
          simp at h
      · rcases h with h | h
        · have e := leaf_ks h
          have e : ks = [] := e
          subst e
          rw [lqK]; trivial
        · exact lqK_ok hR ks h.2
theorem lqK_ok {R : Arr → Prop} (hR : ∀ A, rightE A = 0 → litB A = true → R A) : ∀ l, okK l = true → lqK R l
  | [], _ => by rw [lqK]; trivial
  | N :: r, h => by
    rw [okK, Bool.and_eq_true] at h
    rw [lqK]
    exact ⟨lq_ok hR N h.1, lqK_ok hR r h.2⟩
theorem lqS_ok {R : Arr → Prop} (hR : ∀ A, rightE A = 0 → litB A = true → R A) : ∀ S, okS S = true → lqS R S
  | .mk k a n s te nd, h => by
    rw [okS] at h
    simp only [Bool.and_eq_true] at h
    rw [lqS]
    refine ⟨fun k3 => ?_, lq_ok hR nd h.1.2⟩
    have h := h.2
    rw [if_neg (by omega), if_neg (by omega), if_pos k3] at h
    simp only [Bool.and_eq_true] at h
    exact lq_ok hR te h.1.1.1.2
theorem lqB_ok {R : Arr → Prop} (hR : ∀ A, rightE A = 0 → litB A = true → R A) : ∀ l, okL l = true → lqB R l
  | [], _ => by rw [lqB]; trivial
  | S :: r, h => by
    rw [okL, Bool.and_eq_true] at h
    rw [lqB]
    exact ⟨lqS_ok hR S h.1, lqB_ok hR r h.2⟩
end
end Go.Proofs.YtghmbmjikkdbnaaGreatDoor.Syn
