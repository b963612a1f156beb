/-
  Layer 11: the calls on a family of scopes.
-/
import Derived.Test.YtmbljiapfbadeaaNamNames
namespace Go.Proofs.Ytmbljiapfbadeaa.Nam
open Go.RowKit Go.Maps
set_option linter.unusedVariables false

def upd {α : Type} (f : Nat → α) (n : Nat) (v : α) : Nat → α := fun k => if k = n then v else f k
theorem upd_same {α : Type} (f : Nat → α) (n : Nat) (v : α) : upd f n v n = v := by simp [upd]
theorem upd_other {α : Type} (f : Nat → α) {n k : Nat} (v : α) (h : k ≠ n) : upd f n v k = f k := by simp [upd, h]
def scp (L : List Scp) (i : Nat) : Scp := L.getD i ⟨none, 0, []⟩
theorem scp_at {L : List Scp} {i : Nat} (h : i < L.length) : scp L i = L[i] := by simp [scp, List.getD_eq_getElem?_getD, List.getElem?_eq_getElem h]
/-- A scope more, within scope i. -/
def openL (L : List Scp) (i : Nat) : List Scp := L ++ [⟨some i, (scp L i).dep + 1, []⟩]
/-- Scope i with a definition. -/
def defL (L : List Scp) (i : Nat) (s : ByteArray) (c : Int) : List Scp := L.set i ⟨(scp L i).out, (scp L i).dep, addD (scp L i).ds s c⟩
theorem openL_len (L : List Scp) (i : Nat) : (openL L i).length = L.length + 1 := by simp [openL]
theorem defL_len (L : List Scp) (i : Nat) (s : ByteArray) (c : Int) : (defL L i s c).length = L.length := by simp [defL]
theorem wf_one : Wf [⟨none, 0, []⟩] := fun i h => by
  obtain rfl : i = 0 := by simpa using h
  rfl
theorem Wf.opened {L : List Scp} (h : Wf L) {i : Nat} (hi : i < L.length) : Wf (openL L i) := fun k hk => by
  rw [openL_len] at hk
  rcases Nat.lt_or_ge k L.length with q | q
  · have e : (openL L i)[k]'(by rw [openL_len]; exact hk) = L[k] := by simp [openL, List.getElem_append_left q]
    have := h k q
    rw [e]
    cases ho : L[k].out with
    | none => rw [ho] at this; exact this
    | some j =>
      rw [ho] at this
      obtain ⟨hj, hd⟩ := this
      exact ⟨hj, by rw [hd]; simp [openL, List.getElem_append_left (show j < L.length by omega)]⟩
  · obtain rfl : k = L.length := by omega
    have e : (openL L i)[L.length]'(by rw [openL_len]; exact hk) = ⟨some i, (scp L i).dep + 1, []⟩ := by simp [openL]
    rw [e]
    exact ⟨hi, by rw [scp_at hi]; simp [openL, List.getElem_append_left hi]⟩
theorem defL_at {L : List Scp} {i k : Nat} (s : ByteArray) (c : Int) (hk : k < L.length) : (defL L i s c)[k]'(by rw [defL_len]; exact hk) = ⟨L[k].out, L[k].dep, if i = k then addD L[k].ds s c else L[k].ds⟩ := by
  unfold defL
  rw [List.getElem_set]
  split
  · rename_i e
    subst e
    rw [scp_at hk]
  · rfl
theorem Wf.defined {L : List Scp} (h : Wf L) (i : Nat) (s : ByteArray) (c : Int) : Wf (defL L i s c) := fun k hk => by
  rw [defL_len] at hk
  rw [defL_at s c hk]
  have := h k hk
  show match L[k].out with | none => _ | some j => _
  cases ho : L[k].out with
  | none => rw [ho] at this; exact this
  | some j =>
    rw [ho] at this
    obtain ⟨hj, hd⟩ := this
    exact ⟨hj, by rw [defL_at s c (by omega)]; exact hd⟩
theorem Wf.dep {L : List Scp} (h : Wf L) : ∀ i (hi : i < L.length), L[i].dep ≤ i := fun i => by
  induction i using Nat.strongRecOn with
  | ind i ih =>
    intro hi
    have := h i hi
    split at this
    · omega
    · obtain ⟨hj, hd⟩ := this
      have := ih _ hj (by omega)
      omega
theorem psc_eq {w : World} {b m b' m' : Nat} {o o' : Option Nat} {d d' : Nat} {ds ds' : List Def} (h : PSc w b m o d ds) (h1 : b = b') (h2 : m = m') (h3 : o = o') (h4 : d = d') (h5 : ds = ds') : PSc w b' m' o' d' ds' := by
  subst h1 h2 h3 h4 h5
  exact h
theorem fam_one {w : World} {b m : Nat} (h : PSc w b m none 0 []) : PFam w [⟨none, 0, []⟩] (fun _ => b) (fun _ => m) :=
  ⟨fun i hi => by
    obtain rfl : i = 0 := by simpa using hi
    exact h, fun i j hi hj _ => by
    simp at hi hj
    omega⟩
theorem map_upd {pb : Nat → Nat} {n v : Nat} {o : Option Nat} (h : ∀ j, o = some j → j < n) : o.map (upd pb n v) = o.map pb := by
  cases o with
  | none => rfl
  | some j => simp [upd_other pb v (Nat.ne_of_lt (h j rfl))]
theorem Wf.outs {L : List Scp} (h : Wf L) {i : Nat} (hi : i < L.length) : ∀ j, L[i].out = some j → j < i := fun j e => by
  have := h i hi
  rw [e] at this
  exact this.1
theorem PFam.mlt {w : World} {L : List Scp} {pb mb : Nat → Nat} (h : PFam w L pb mb) {i : Nat} (hi : i < L.length) : mb i < w.heap.size := (h.sc i hi).map.lt
theorem PFam.opened {w w' : World} {L : List Scp} {pb mb : Nat → Nat} (h : PFam w L pb mb) (hW : Wf L) {i : Nat} (hi : i < L.length) (hb : Below w.heap.size w w') {b m : Nat} (hm : w.heap.size ≤ m) (hn : PSc w' b m (some (pb i)) (L[i].dep + 1) []) :
    PFam w' (openL L i) (upd pb L.length b) (upd mb L.length m) := by
  refine ⟨fun k hk => ?_, fun k l hk hl e => ?_⟩
  · rw [openL_len] at hk
    rcases Nat.lt_or_ge k L.length with q | q
    · have e : (openL L i)[k]'(by rw [openL_len]; exact hk) = L[k] := by simp [openL, List.getElem_append_left q]
      rw [e, upd_other pb b (Nat.ne_of_lt q), upd_other mb m (Nat.ne_of_lt q), map_upd fun j ej => Nat.lt_trans (hW.outs q j ej) q]
      exact (h.sc k q).below hb
    · obtain rfl : k = L.length := by omega
      have e : (openL L i)[L.length]'(by rw [openL_len]; exact hk) = ⟨some i, (scp L i).dep + 1, []⟩ := by simp [openL]
      rw [e, upd_same, upd_same, scp_at hi]
      simp only [Option.map_some]
      rw [upd_other pb b (Nat.ne_of_lt hi)]
      exact hn
  · rw [openL_len] at hk hl
    rcases Nat.lt_or_ge k L.length with q | q <;> rcases Nat.lt_or_ge l L.length with r | r
    · rw [upd_other mb m (Nat.ne_of_lt q), upd_other mb m (Nat.ne_of_lt r)] at e
      exact h.inj k l q r e
    · obtain rfl : l = L.length := by omega
      rw [upd_other mb m (Nat.ne_of_lt q), upd_same] at e
      have := h.mlt q
      omega
    · obtain rfl : k = L.length := by omega
      rw [upd_other mb m (Nat.ne_of_lt r), upd_same] at e
      have := h.mlt r
      omega
    · omega
theorem PFam.ne {w : World} {L : List Scp} {pb mb : Nat → Nat} (h : PFam w L pb mb) {i k : Nat} (hi : i < L.length) (hk : k < L.length) : pb k ≠ mb i := fun e => by
  obtain ⟨es, clock, hb, _⟩ := (h.sc i hi).map
  rw [← e, (h.sc k hk).blk] at hb
  cases hb
theorem PFam.defined {w w' : World} {L : List Scp} {pb mb : Nat → Nat} (h : PFam w L pb mb) {i : Nat} (hi : i < L.length) (hb : But (mb i) w w') (s : ByteArray) (c : Int) (hn : PSc w' (pb i) (mb i) (L[i].out.map pb) L[i].dep (addD L[i].ds s c)) :
    PFam w' (defL L i s c) pb mb := by
  refine ⟨fun k hk => ?_, fun k l hk hl e => h.inj k l (by rwa [defL_len] at hk) (by rwa [defL_len] at hl) e⟩
  rw [defL_len] at hk
  rw [defL_at s c hk]
  by_cases e : i = k
  · subst e
    simp only [if_true]
    exact hn
  · simp only [if_neg e]
    exact (h.sc k hk).but hb (h.ne hi hk) fun q => e (h.inj i k hi hk q.symm)
theorem openF {w : World} {L : List Scp} {pb mb : Nat → Nat} (h : PFam w L pb mb) (hW : Wf L) (hl : L.length ≤ 1000) {i : Nat} (hi : i < L.length) :
    Calls Try.prog 9 #[.pointer (some ⟨pb i, 0, none⟩)] w fun e w' => e = .returned (.pointer (some ⟨w.heap.size + 1, 0, none⟩)) ∧ PFam w' (openL L i) (upd pb L.length (w.heap.size + 1)) (upd mb L.length w.heap.size) ∧ Below w.heap.size w w' := by
  have hd := hW.dep i hi
  refine (openP w (pb i) (mb i) _ _ (by omega) _ (h.sc i hi)).mono ?_
  rintro e w' ⟨rfl, hs, hn, hb⟩
  exact ⟨rfl, h.opened hW hi hb (Nat.le_refl _) hn, hb⟩
theorem defineF {w : World} {L : List Scp} {pb mb : Nat → Nat} (h : PFam w L pb mb) {i : Nat} (hi : i < L.length) (s : ByteArray) (hs : s.size ≤ maxLen) (c : Int) (hl : (scp L i).ds.length ≤ 1000) :
    Calls Try.prog 11 #[.pointer (some ⟨pb i, 0, none⟩), .string s, .int .i64 c] w fun e w' => e = .returned (.int .i64 (errD (scp L i).ds s c)) ∧ PFam w' (defL L i s c) pb mb ∧ But (mb i) w w' := by
  rw [scp_at hi] at hl ⊢
  refine (defineP w (pb i) (mb i) _ _ _ (h.sc i hi) s hs c hl).mono ?_
  rintro e w' ⟨rfl, hn, hb⟩
  exact ⟨rfl, h.defined hi hb s c hn, hb⟩
theorem depthF {w : World} {L : List Scp} {pb mb : Nat → Nat} (h : PFam w L pb mb) {i : Nat} (hi : i < L.length) :
    Calls Try.prog 15 #[.pointer (some ⟨pb i, 0, none⟩)] w fun e w' => e = .returned (.int .i64 ((scp L i).dep : Int)) ∧ Below w.heap.size w w' := by
  rw [scp_at hi]
  exact depthP w (pb i) (mb i) _ _ _ (h.sc i hi)
theorem namesF {w : World} {L : List Scp} {pb mb : Nat → Nat} (h : PFam w L pb mb) {i : Nat} (hi : i < L.length) (hl : (scp L i).ds.length ≤ 1000) :
    Calls Try.prog 18 #[.pointer (some ⟨pb i, 0, none⟩)] w fun e w' => e = .returned (.slice (some ⟨w.heap.size, 0, none⟩) (scp L i).ds.length (scp L i).ds.length) ∧ Strs w' w.heap.size (namesOf (scp L i).ds) ∧ Below w.heap.size w w' := by
  rw [scp_at hi] at hl ⊢
  exact namesP w (pb i) (mb i) _ _ _ (h.sc i hi) hl
end Go.Proofs.Ytmbljiapfbadeaa.Nam
