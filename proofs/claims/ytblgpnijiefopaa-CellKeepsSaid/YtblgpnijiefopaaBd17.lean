/-
  Layer 4: a part of a block, and what a copy into it leaves. (Written by wip/gen/cell-place.py.)
  Layer 4: the program's commonShape.
-/
import Derived.Test.YtblgpnijiefopaaBd15
import Derived.Test.YtblgpnijiefopaaBd13
namespace Go.Proofs.Ytblgpnijiefopaa.Shape
open Go.RowKit
set_option linter.unusedVariables false

/-- The block b holds L1, then A, then L2, and no cell of it is frozen. -/
def AreaAt (w : World) (b : Nat) (T : TypeId) (L1 A L2 : List Value) : Prop := w.heap[b]? = some (.cells (L1 ++ (A ++ L2)).toArray T (0, 0))
/-- Elements that lie elsewhere. -/
def ElsAt (w : World) (b : Nat) (a : Option Addr) (cs : List Value) : Prop := cs ≠ [] → ∃ be oe : Nat, a = some ⟨be, oe, none⟩ ∧ be ≠ b ∧ ∀ j v, cs[j]? = some v → w.cell? ⟨be, oe + j, none⟩ = some v
theorem ElsAt.but {w w' : World} {b : Nat} {a : Option Addr} {cs : List Value} (h : ElsAt w b a cs) (hb : But b w w') : ElsAt w' b a cs := fun hne => by
  obtain ⟨be, oe, ha, hn, hc⟩ := h hne
  exact ⟨be, oe, ha, hn, fun j v hj => hb.cell hn (hc j v hj)⟩
theorem But.drewN {t : Nat} {w : World} (n : Nat) : But t w (w.drewN n) := ⟨rfl, rfl, rfl, Nat.le_refl _, fun _ _ _ => rfl⟩
theorem But.drew {t : Nat} {w : World} : But t w w.drew := ⟨rfl, rfl, rfl, Nat.le_refl _, fun _ _ _ => rfl⟩
theorem IntsOn.but {t : Nat} {w w' : World} (h : But t w w') {a : Option Addr} {c : Nat} {xs : List Int} (hx : IntsOn (fun g => g ≠ t) w a c xs) : IntsOn (fun g => g ≠ t) w' a c xs :=
  hx.keep fun g hg hl => ⟨hg, fun o => World.cell?_of_block (h.block g hg hl)⟩
/-- Units of u cells. -/
def Units (u : Nat) (els : List (List Value)) : Prop := ∀ e ∈ els, e.length = u ∧ ∀ v ∈ e, v.oneCell' = true
theorem Units.len {u : Nat} : ∀ {els : List (List Value)}, Units u els → els.flatten.length = els.length * u
  | [], _ => by simp
  | e :: r, h => by
    have := Units.len (els := r) (fun x hx => h x (by simp [hx]))
    rw [List.flatten_cons, List.length_append, this, (h e (by simp)).1, List.length_cons, Nat.succ_mul, Nat.add_comm]
theorem Units.drop {u : Nat} : ∀ {els : List (List Value)} (k : Nat), Units u els → (els.drop k).flatten = els.flatten.drop (k * u)
  | els, 0, _ => by simp
  | [], k + 1, _ => by simp
  | e :: r, k + 1, h => by
    have := Units.drop (els := r) k (fun x hx => h x (by simp [hx]))
    have hl := (h e (by simp)).1
    rw [List.drop_succ_cons, this, List.flatten_cons, Nat.succ_mul, List.drop_append, List.drop_of_length_le (l := e) (by omega), List.nil_append, hl, Nat.add_sub_cancel]
theorem Units.take {u : Nat} : ∀ {els : List (List Value)} (k : Nat), Units u els → (els.take k).flatten = els.flatten.take (k * u)
  | els, 0, _ => by simp
  | [], k + 1, _ => by simp
  | e :: r, k + 1, h => by
    have := Units.take (els := r) k (fun x hx => h x (by simp [hx]))
    have hl := (h e (by simp)).1
    rw [List.take_succ_cons, List.flatten_cons, this, List.flatten_cons, Nat.succ_mul, List.take_append, List.take_of_length_le (l := e) (by omega), hl, Nat.add_sub_cancel]
theorem Units.part {u : Nat} {els : List (List Value)} (h : Units u els) (i m : Nat) : Units u ((els.drop i).take m) := fun e he => h e (List.mem_of_mem_drop (List.mem_of_mem_take he))
theorem units_rep {u n : Nat} {z : List Value} (hz : z.length = u ∧ ∀ v ∈ z, v.oneCell' = true) : Units u (List.replicate n z) := fun e he => by rw [(List.mem_replicate.1 he).2]; exact hz
theorem rep_len {u n : Nat} {z : List Value} (hz : z.length = u ∧ ∀ v ∈ z, v.oneCell' = true) : ((List.replicate n z).flatten).length = n * u := by
  rw [(units_rep hz).len, List.length_replicate]
theorem rep_split {z : List Value} (n m : Nat) : (List.replicate (n + m) z).flatten = (List.replicate n z).flatten ++ (List.replicate m z).flatten := by
  rw [← List.replicate_append_replicate, List.flatten_append]
theorem ElsAt.blk {w : World} {b u : Nat} {a : Option Addr} {els : List (List Value)} (hu : Units u els) (h : ElsAt w b a els.flatten) (i s : Nat) (hs : s ≠ 0) : ElsAt w b (blkA a i s u) (((els.drop (i * s)).take s).flatten) := by
  intro hne
  have e : ((els.drop (i * s)).take s).flatten = (els.flatten.drop (i * s * u)).take (s * u) := by
    have h1 : Units u (els.drop (i * s)) := fun x hx => hu x (List.mem_of_mem_drop hx)
    rw [h1.take, hu.drop]
  rw [e] at hne ⊢
  obtain ⟨be, oe, ha, hn, hc⟩ := h (fun h0 => hne (by rw [h0]; simp))
  refine ⟨be, oe + i * s * u, by rw [ha, blkA_some hs], hn, fun j v hj => ?_⟩
  have hj2 : j < s * u := by
    have := (List.getElem?_eq_some_iff.1 hj).1
    rw [List.length_take] at this
    omega
  rw [List.getElem?_take_of_lt hj2, List.getElem?_drop] at hj
  rw [Nat.add_assoc]
  exact hc _ _ hj
/-- A copy into the part, from its beginning on. -/
theorem area_copy {P : Program} (w : World) (dT sT elem T : TypeId) (b N pc M ec u : Nat) (L1 L2 : List Value) (els tgt : List (List Value)) (ea : Option Addr)
    (hd : P.underlying dT = some (.slice elem)) (hs : (P.info? elem).map (·.size) = some u) (ht : Units u tgt) (hN : tgt.length = N) (hu : Units u els) (hu0 : 0 < u) (hM : M = els.length) (hM0 : M ≠ 0) (hMN : M ≤ N)
    (hT : AreaAt w b T L1 tgt.flatten L2) (hE : ElsAt w b ea els.flatten) :
    ∃ W, (∀ ty, (Builtin.copy_ #[dT, sT] ty #[.slice (some ⟨b, L1.length, none⟩) N pc, .slice ea M ec]).run P w = .ok (goInt M) W) ∧ AreaAt W b T L1 (els ++ tgt.drop M).flatten L2 ∧ But b w W := by
  subst hM
  have hl := hu.len
  have hr := ht.len
  rw [hN] at hr
  have hm : els.length * u ≤ N * u := Nat.mul_le_mul_right _ hMN
  have h1 : 1 * u ≤ els.length * u := Nat.mul_le_mul_right _ (by omega)
  obtain ⟨be, oe, ha, hn, hc⟩ := hE (fun e => by rw [e] at hl; simp at hl; omega)
  have hmin : Nat.min els.length N = els.length := Nat.min_eq_left hMN
  have hrun := fun ty => run_copy_wide (P := P) w dT sT ty elem b L1.length N pc ⟨be, oe, none⟩ els.length ec u _ T els.flatten hd hs hT (by rw [hmin, hl]) (fun j v hj => by rw [add_plain]; exact hc j v hj)
    (by rw [List.size_toArray, List.length_append, List.length_append, hr, hl]; omega) (fun v hv => by
      obtain ⟨e, he, hv⟩ := List.mem_flatten.1 hv
      exact (hu e he).2 v hv)
  rw [hmin] at hrun
  subst ha
  refine ⟨_, hrun, ?_, ⟨rfl, rfl, rfl, by simp [World.setRow], fun g hg hl => setRow_other _ _ _ _ hg⟩⟩
  unfold AreaAt
  rw [setRow_heap w b _ _ T _ hT]
  congr 3
  have e1 : (L1 ++ (tgt.flatten ++ L2)).take L1.length = L1 := by rw [List.take_append_of_le_length (Nat.le_refl _), List.take_length]
  have e2 : (L1 ++ (tgt.flatten ++ L2)).drop (L1.length + els.flatten.length) = (tgt.drop els.length).flatten ++ L2 := by
    rw [List.drop_append, List.drop_of_length_le (by omega), List.nil_append, Nat.add_sub_cancel_left, List.drop_append_of_le_length (by omega), ht.drop, hl]
  show List.take _ (L1 ++ (tgt.flatten ++ L2)) ++ (_ ++ List.drop _ (L1 ++ (tgt.flatten ++ L2))) = _
  rw [e1, e2, List.flatten_append, List.append_assoc]
/-- No axis, or one: the elements, and then what stood there. -/
theorem padT_small {α : Type} (ts fs : List Int) (els tgt : List α) (h1 : ts.length ≤ 1) (hl : fs.length ≤ ts.length) (ht : NN ts) (hf : NN fs) (hfit : fits ts (leadS fs ts.length)) (he : els.length = prN fs) (hg : tgt.length = prN ts) :
    padT ts (leadS fs ts.length) els tgt = els ++ tgt.drop els.length := by
  match ts, fs with
  | [], [] =>
    have e : tgt.drop els.length = [] := List.drop_of_length_le (by rw [he, hg]; exact Nat.le_refl _)
    rw [e, List.append_nil]; rfl
  | [], _ :: _ => simp at hl
  | [t], [] =>
    have e : leadS [] [t].length = [1] := rfl
    rw [e] at hfit ⊢
    have e2 : prN [t] = t.toNat := by simp [prN, pr]
    have e3 : els.length = 1 := he
    rw [padT_one t 1 els tgt (by decide) hfit.1 (by rw [e3]; rfl) (by rw [hg, e2]), e3]; rfl
  | [t], [f] =>
    have e : leadS [f] [t].length = [f] := rfl
    rw [e] at hfit ⊢
    have e2 : prN [t] = t.toNat := by simp [prN, pr]
    have e3 : els.length = f.toNat := by rw [he]; simp [prN, pr]
    rw [padT_one t f els tgt hf.head hfit.1 e3 (by rw [hg, e2]), e3]
  | [_], _ :: _ :: _ => simp at hl
  | _ :: _ :: _, _ => simp at h1
theorem IntsOn.from1 {P : Nat → Prop} {w : World} {a : Option Addr} {c : Nat} {x : Int} {xs : List Int} (h : IntsOn P w a c (x :: xs)) : IntsOn P w (fromAt a c 1) (c - 1) xs ∧
    (∀ w', (Instr.slice 23 (.slice a (xs.length + 1) c) (some (.int .i64 1)) none none).run Try.prog w' = .ok (.slice (fromAt a c 1) xs.length (c - 1)) w') ∧
    ∃ bb oo : Nat, (∀ w', (Instr.indexAt 23 (.slice a (xs.length + 1) c) (.int .i64 0)).run Try.prog w' = .ok (.pointer (some ⟨bb, oo, none⟩)) w') ∧ w.cell? ⟨bb, oo, none⟩ = some (.int .i64 x) ∧ P bb := by
  obtain ⟨h1, h2⟩ := h.1.from 1 (by simp)
  obtain ⟨bb, oo, h3, h4⟩ := h.1.at (k := 0) (by simp)
  have ha : a = some ⟨bb, oo, none⟩ := by
    obtain ⟨⟨-, -, -, b', o', ha', -⟩, -⟩ := h
    have e := ha' (by simp)
    subst e
    have := (h3 w).symm.trans (show _ = Result.ok (Value.pointer (some ⟨b', o', none⟩)) w by
      rw [run_indexAt_slice w _ _ _ _ .i64 _ elemInts, if_pos (by simp), sizeInts]
      show Result.ok _ w = _
      simp [add_plain])
    simpa using this.symm
  have hP : P bb := h.2 (by simp) _ ha
  refine ⟨⟨h1, fun hne ad e => ?_⟩, fun w' => h2 w', bb, oo, fun w' => h3 w', h4, hP⟩
  rw [ha, fromAt] at e
  split at e
  · cases e; exact hP
  · simp only [Option.map_some, add_plain, Option.some.injEq] at e
    subst e; exact hP
theorem quo_nat {N t s : Nat} (h : N = t * s) (ht : t ≠ 0) : ((N : Int)).tdiv (t : Int) = (s : Int) := by
  subst h
  rw [Int.tdiv_eq_ediv_of_nonneg (by omega), Int.natCast_mul]
  exact Int.mul_ediv_cancel_left _ (by omega)
theorem area_mid {w : World} {b : Nat} {T : TypeId} {L1 A B C L2 : List Value} : AreaAt w b T L1 (A ++ (B ++ C)) L2 ↔ AreaAt w b T (L1 ++ A) B (C ++ L2) := by
  unfold AreaAt
  simp only [List.append_assoc]
end Go.Proofs.Ytblgpnijiefopaa.Shape

namespace Go.Proofs.Ytblgpnijiefopaa.Shape
open Go.RowKit
set_option linter.unusedVariables false

/-- The greatest number of axes. -/
def maxRank : List Arr → Nat
  | [] => 0
  | A :: r => max A.shape.length (maxRank r)
theorem maxRank_snoc (l : List Arr) (A : Arr) : maxRank (l ++ [A]) = max (maxRank l) A.shape.length := by
  induction l with
  | nil => simp [maxRank]
  | cons B r ih => rw [List.cons_append, maxRank, maxRank, ih]; omega
theorem maxRank_le {l : List Arr} {A : Arr} (h : A ∈ l) : A.shape.length ≤ maxRank l := by
  induction l with
  | nil => cases h
  | cons B r ih =>
    rw [maxRank]
    rcases List.mem_cons.1 h with rfl | h
    · omega
    · have := ih h; omega
theorem maxRank_bd {l : List Arr} {m : Nat} (h : ∀ A ∈ l, A.shape.length ≤ m) : maxRank l ≤ m := by
  induction l with
  | nil => exact Nat.zero_le _
  | cons B r ih =>
    rw [maxRank]
    have h1 := h B (by simp)
    have h2 := ih (fun A hA => h A (by simp [hA]))
    omega
/-- On each axis the greater number. -/
def maxL (a b : List Int) : List Int := List.zipWith max a b
/-- The least shape that all fit into. -/
def commonG (n : Nat) : List Arr → List Int → List Int
  | [], acc => acc
  | A :: r, acc => commonG n r (maxL acc (leadS A.shape n))
def commonS (l : List Arr) : List Int := commonG (maxRank l) l (List.replicate (maxRank l) 0)
theorem commonG_snoc (n : Nat) : ∀ (l : List Arr) (A : Arr) (acc : List Int), commonG n (l ++ [A]) acc = maxL (commonG n l acc) (leadS A.shape n)
  | [], A, acc => rfl
  | B :: r, A, acc => by rw [List.cons_append, commonG, commonG, commonG_snoc n r A]
theorem maxL_len {a b : List Int} {n : Nat} (h1 : a.length = n) (h2 : b.length = n) : (maxL a b).length = n := by
  simp [maxL, h1, h2]
theorem commonG_len (n : Nat) : ∀ (l : List Arr) (acc : List Int), (∀ A ∈ l, A.shape.length ≤ n) → acc.length = n → (commonG n l acc).length = n
  | [], acc, _, h => h
  | A :: r, acc, hl, h => by
    rw [commonG]
    exact commonG_len n r _ (fun B hB => hl B (by simp [hB])) (maxL_len h (leadS_len (hl A (by simp))))

/-- A row of ints, known whole. -/
def IntRow (w : World) (g : Nat) (xs : List Int) : Prop := w.heap[g]? = some (.cells (xs.map (Value.int .i64)).toArray 3 (0, 0))
theorem IntRow.cell {w : World} {g : Nat} {xs : List Int} (h : IntRow w g xs) {j : Nat} (hj : j < xs.length) : w.cell? ⟨g, j, none⟩ = some (.int .i64 xs[j]) ∧ w.frozen? ⟨g, j, none⟩ = false := by
  unfold IntRow at h
  constructor
  · simp [World.cell?, h, hj]
  · simp [World.frozen?, h]
theorem IntRow.lt {w : World} {g : Nat} {xs : List Int} (h : IntRow w g xs) : g < w.heap.size := lt_of_heap h
theorem IntRow.below {w w' : World} {g : Nat} {xs : List Int} (h : IntRow w g xs) (hb : Below w.heap.size w w') : IntRow w' g xs := (hb.block g h.lt).trans h
theorem IntRow.set {w : World} {g : Nat} {xs : List Int} (h : IntRow w g xs) (j : Nat) (y : Int) : IntRow (w.setCell ⟨g, j, none⟩ (.int .i64 y)) g (xs.set j y) := by
  have hlt := h.lt
  have h' : w.heap[g] = .cells (xs.map (Value.int .i64)).toArray 3 (0, 0) := by unfold IntRow at h; simpa [Array.getElem?_eq_getElem hlt] using h
  show (w.heap.modify g _)[g]? = _
  rw [Array.getElem?_eq_getElem (by simpa using hlt), Array.getElem_modify_self, h']
  simp [List.map_set]
theorem IntRow.ints {w : World} {g : Nat} {xs : List Int} (h : IntRow w g xs) (hb : ∀ x ∈ xs, -9223372036854775808 ≤ x ∧ x ≤ 9223372036854775807) (hl : xs.length ≤ 9223372036854775807) : IntsAt w (some ⟨g, 0, none⟩) xs.length xs :=
  ⟨Nat.le_refl _, hl, hb, g, 0, fun _ => rfl, fun i hi => by rw [Nat.zero_add]; exact (h.cell hi).1⟩
theorem int_at (g n j : Nat) (hj : j < n) (W : World) : (Instr.indexAt 23 (.slice (some ⟨g, 0, none⟩) n n) (.int .i64 (j : Int))).run Try.prog W = .ok (.pointer (some ⟨g, j, none⟩)) W := by
  rw [run_indexAt_slice W _ _ _ _ .i64 (j : Int) elemInts, if_pos (by omega), sizeInts]
  show Result.ok _ W = _
  rw [show ((j : Int).toNat * 1) = j by omega, add_plain, Nat.zero_add]
theorem leadS_at {s : List Int} {n j : Nat} (h : s.length ≤ n) (hj : j < n) : (j < n - s.length → (leadS s n)[j]? = some 1) ∧ (n - s.length ≤ j → (leadS s n)[j]? = s[j - (n - s.length)]?) := by
  unfold leadS
  constructor
  · intro hm
    rw [List.getElem?_append_left (by simpa using hm), List.getElem?_replicate, if_pos hm]
  · intro hm
    rw [List.getElem?_append_right (by simpa using hm)]
    simp
/-- The first j numbers turned, the others not yet. -/
def mixL (acc b : List Int) (j : Nat) : List Int := (maxL acc b).take j ++ acc.drop j
theorem mixL_len {acc b : List Int} {n j : Nat} (h1 : acc.length = n) (h2 : b.length = n) : (mixL acc b j).length = n := by
  have := maxL_len h1 h2
  simp [mixL, this, h1]; omega
theorem mixL_at {acc b : List Int} {n j : Nat} (h1 : acc.length = n) (h2 : b.length = n) (hj : j < n) : (mixL acc b j)[j]'(by rw [mixL_len h1 h2]; exact hj) = acc[j] := by
  have h3 := maxL_len h1 h2
  have h4 : ((maxL acc b).take j).length = j := by rw [List.length_take]; omega
  unfold mixL
  rw [List.getElem_append_right (by omega)]
  simp [h4]
theorem mixL_step {acc b : List Int} {n j : Nat} (h1 : acc.length = n) (h2 : b.length = n) (hj : j < n) : (mixL acc b j).set j (max acc[j] b[j]) = mixL acc b (j + 1) := by
  have h3 := maxL_len h1 h2
  have h4 : ((maxL acc b).take j).length = j := by rw [List.length_take]; omega
  unfold mixL
  rw [List.set_append_right _ _ (by omega), h4, Nat.sub_self]
  have e : acc.drop j = acc[j] :: acc.drop (j + 1) := List.drop_eq_getElem_cons (by omega)
  have e2 : (maxL acc b).take (j + 1) = (maxL acc b).take j ++ [max acc[j] b[j]] := by
    rw [List.take_succ_eq_append_getElem (by omega)]
    simp [maxL]
  rw [e, List.set_cons_zero, e2, List.append_assoc]; rfl
theorem mixL_zero (acc b : List Int) : mixL acc b 0 = acc := by simp [mixL]
theorem mixL_all {acc b : List Int} {n : Nat} (h1 : acc.length = n) (h2 : b.length = n) : mixL acc b n = maxL acc b := by
  have h3 := maxL_len h1 h2
  unfold mixL
  rw [List.take_of_length_le (by omega), List.drop_of_length_le (by omega), List.append_nil]
theorem mixL_set {acc b : List Int} {n j : Nat} {x y v : Int} (h1 : acc.length = n) (h2 : b.length = n) (hj : j < n) (hx : acc[j]'(by omega) = x) (hy : b[j]? = some y) (hv : v = max x y) : (mixL acc b j).set j v = mixL acc b (j + 1) := by
  have hb : b[j]'(by omega) = y := by
    rw [List.getElem?_eq_getElem (by omega)] at hy
    exact Option.some.inj hy
  rw [hv, ← hx, ← hb]
  exact mixL_step h1 h2 hj
/-- A store into the row. -/
theorem row_turn {w wx : World} {G qb j : Nat} {xs : List Int} {c0 c1 c2 c3 : Value} (y : Int) (h : IntRow wx G xs) (q : Quad wx qb c0 c1 c2 c3) (hne : qb ≠ G) (hG : w.heap.size ≤ G) (hb : Below w.heap.size w wx) :
    IntRow (wx.setCell ⟨G, j, none⟩ (.int .i64 y)) G (xs.set j y) ∧ Quad (wx.setCell ⟨G, j, none⟩ (.int .i64 y)) qb c0 c1 c2 c3 ∧ Below w.heap.size w (wx.setCell ⟨G, j, none⟩ (.int .i64 y)) :=
  ⟨h.set j y, q.keep (set_other _ _ _ _ _ hne), hb.setCell (p := ⟨G, j, none⟩) hG _⟩
theorem take_snocA {l : List Arr} {j : Nat} (h : j < l.length) : l.take (j + 1) = l.take j ++ [l[j]] := List.take_succ_eq_append_getElem h
/-- An item's four cells, its shape's among them. -/
theorem ArrsAt.shape {w : World} {l : List Arr} {b off : Nat} (h : ArrsAt w b off l) {j : Nat} (hj : j < l.length) : ∃ (k : Int) (sa : Option Addr) (sc : Nat) (na : Option Addr) (ln nc : Nat) (ia : Option Addr) (li ic : Nat),
    (w.cell? ⟨b, off + j * 4, none⟩ = some (.int .i64 k) ∧ w.cell? ⟨b, off + j * 4 + 1, none⟩ = some (.slice sa l[j].shape.length sc) ∧ w.cell? ⟨b, off + j * 4 + 2, none⟩ = some (.slice na ln nc) ∧ w.cell? ⟨b, off + j * 4 + 3, none⟩ = some (.slice ia li ic)) ∧
    IntsAt w sa sc l[j].shape ∧ ArrAt w (.agg #[.int .i64 k, .slice sa l[j].shape.length sc, .slice na ln nc, .slice ia li ic]) l[j] ∧ l[j].kind = k := by
  obtain ⟨c0, c1, c2, c3, ⟨m0, m1, m2, m3⟩, hI⟩ := h.at hj
  generalize l[j] = A at hI ⊢
  obtain ⟨k, sh, nu, it⟩ := A
  have hI0 := hI
  rw [ArrAt] at hI
  obtain ⟨sa, sc, na, nc, ia, ic, hv, hk, hs, -⟩ := hI
  simp only [Value.agg.injEq, Array.mk.injEq, List.cons.injEq, and_true] at hv
  obtain ⟨rfl, rfl, rfl, rfl⟩ := hv
  exact ⟨k, sa, sc, na, _, nc, ia, _, ic, ⟨m0, m1, m2, m3⟩, hs, hI0, rfl⟩

theorem zip_all {P : Int → Prop} (hP : ∀ x y, P x → P y → P (max x y)) {a b : List Int} (ha : ∀ x ∈ a, P x) (hb : ∀ x ∈ b, P x) : ∀ x ∈ maxL a b, P x := by
  intro x hx
  obtain ⟨i, hi, rfl⟩ := List.getElem_of_mem hx
  have h1 : i < a.length ∧ i < b.length := by simp [maxL] at hi; omega
  simp only [maxL, List.getElem_zipWith]
  exact hP _ _ (ha _ (List.getElem_mem h1.1)) (hb _ (List.getElem_mem h1.2))
theorem commonG_all {P : Int → Prop} (hP : ∀ x y, P x → P y → P (max x y)) (h1 : P 1) (n : Nat) : ∀ (l : List Arr) (acc : List Int), (∀ A ∈ l, ∀ x ∈ A.shape, P x) → (∀ x ∈ acc, P x) → ∀ x ∈ commonG n l acc, P x
  | [], acc, _, h => h
  | A :: r, acc, hl, h => by
    rw [commonG]
    refine commonG_all hP h1 n r _ (fun B hB => hl B (by simp [hB])) (zip_all hP h fun x hx => ?_)
    rcases List.mem_append.1 hx with h2 | h2
    · rw [(List.mem_replicate.1 h2).2]; exact h1
    · exact hl A (by simp) x h2
theorem commonS_bd {w : World} {l : List Arr} {b off : Nat} (h : ArrsAt w b off l) : ∀ x ∈ commonS l, -9223372036854775808 ≤ x ∧ x ≤ 9223372036854775807 := by
  refine commonG_all (P := fun x => -9223372036854775808 ≤ x ∧ x ≤ 9223372036854775807) (fun x y hx hy => by omega) (by decide) _ l _ (fun A hA x hx => ?_) (fun x hx => by rw [(List.mem_replicate.1 hx).2]; decide)
  obtain ⟨j, hj, rfl⟩ := List.getElem_of_mem hA
  obtain ⟨_, _, _, _, _, _, _, _, _, -, hs, -⟩ := h.shape hj
  exact hs.2.2.1 x hx
set_option maxRecDepth 100000 in
set_option maxHeartbeats 4000000 in
theorem commonQ (a : Option Addr) (c : Nat) (l : List Arr) (w : World) (b off : Nat) (hlc : l.length ≤ c) (hc : c ≤ 9223372036854775807) (ha : l ≠ [] → a = some ⟨b, off, none⟩) (h : ArrsAt w b off l) (h8 : ∀ A ∈ l, A.shape.length ≤ 1000) :
    Calls Try.prog 61 #[.slice a l.length c] w fun e w' => ∃ a' c', e = .returned (.slice a' (commonS l).length c') ∧ IntsOn (fun g => w.heap.size ≤ g) w' a' c' (commonS l) ∧ Below w.heap.size w w' := by
  have hn8 : ∀ j, maxRank (l.take j) ≤ 1000 := fun j => maxRank_bd (fun A hA => h8 A (List.mem_of_mem_take hA))
  go_enter Try.func61, Try.ntmps61
  go_wp2_with fail
  go_loopw [3, 14] (fun r i wr => ∃ j : Nat, j ≤ l.length ∧ i = .int .i64 j ∧ r = .int .i64 (maxRank (l.take j) : Nat) ∧ Below w.heap.size w wr) (fun _ i _ => l.length - (intOf i).toNat)
  case atStart => exact ⟨0, Nat.zero_le _, rfl, rfl, Below.refl _ _⟩
  case round =>
    obtain ⟨j, hj, rfl, rfl, hb⟩ := hrel
    have hh := h.below hb
    by_cases hlt : j < l.length
    · obtain ⟨k, sa, sc, na, ln, nc, ia, li, ic, ⟨m0, m1, m2, m3⟩, hs, -, -⟩ := hh.shape hlt
      have hix := items_at (l := l) (ic := c) rfl ha hlt
      have hM : Hid (maxRank (l.take (j + 1)) = max (maxRank (l.take j)) l[j].shape.length) := by unfold Hid; rw [take_snocA hlt, maxRank_snoc]
      have hb2 := Below.then hb (below_new wr (.cells #[.int .i64 k, .slice sa l[j].shape.length sc, .slice na ln nc, .slice ia li ic] 26))
      have q1 := hn8 j
      have q2 := h8 _ (List.getElem_mem hlt)
      clear hs hh
      generalize l[j].shape.length = N at *
      generalize maxRank (l.take j) = R at *
      go_wp2_with fail
      go_roundw
      case rel => exact ⟨j + 1, by omega, by go_num, by have h10 : ((maxRank (l.take (j + 1)) : Nat) : Int) = if R < N then (N : Int) else (R : Int) := (by have h9 := hM.out; split <;> omega); rw [h10], hb2⟩
      case measure => simp [intOf]; omega
    · obtain rfl : j = l.length := by omega
      rw [List.take_length]
      have hn := hn8 l.length
      rw [List.take_length] at hn
      have hcs : commonS l = commonG (maxRank l) l (List.replicate (maxRank l) 0) := rfl
      have hlr : ∀ A ∈ l, A.shape.length ≤ maxRank l := fun A hA => maxRank_le hA
      obtain ⟨n, hnn⟩ : ∃ n, maxRank l = n := ⟨_, rfl⟩
      rw [hnn] at hn hcs hlr ⊢
      have hmk := run_makeInts wr n (by omega)
      have hbn := Below.then hb (below_new wr (.cells (madeCells #[.int .i64 0] n) 3))
      have hR0 : IntRow (wr.alloc (.cells (madeCells #[.int .i64 0] n) 3)) wr.heap.size (List.replicate n 0) := by
        unfold IntRow
        rw [heap_alloc_new]
        congr 2
        apply Array.ext'
        simp only [madeCells]
        apply List.ext_getElem
        · simp
        · intro i h1 h2
          simp [Nat.mod_one]
      have hsz := hb.size
      have hh0 := h.below hbn
      generalize hW1 : wr.alloc (.cells (madeCells #[.int .i64 0] n) 3) = W1 at *
      generalize hG : wr.heap.size = G at *
      have hbW : Below w.heap.size w W1 := hbn
      go_wp2_with fail
      go_loopw [28] (fun i wr => ∃ (j : Nat) (acc : List Int), j ≤ l.length ∧ i = .int .i64 j ∧ Hid (acc = commonG n (l.take j) (List.replicate n 0)) ∧ IntRow wr G acc ∧ Below w.heap.size w wr) (fun i _ => l.length - (intOf i).toNat)
      case atStart => exact ⟨0, _, Nat.zero_le _, rfl, rfl, hR0, hbW⟩
      case round =>
        clear hR0 hbW hh0 hmk
        obtain ⟨j, acc, hj, rfl, hacc, hrow, hb2⟩ := hrel
        have hh2 := h.below hb2
        have hal : acc.length = n := by rw [hacc.out]; exact commonG_len n _ _ (fun A hA => hlr A (List.mem_of_mem_take hA)) (by simp)
        by_cases hlt : j < l.length
        · obtain ⟨k, sa, sc, na, ln, nc, ia, li, ic, ⟨m0', m1', m2', m3'⟩, hs, -, -⟩ := h.shape hlt
          have m0 := (hb2.cell (cell_lt m0')).trans m0'
          have m1 := (hb2.cell (cell_lt m1')).trans m1'
          have m2 := (hb2.cell (cell_lt m2')).trans m2'
          have m3 := (hb2.cell (cell_lt m3')).trans m3'
          clear m0' m1' m2' m3' hh2
          have hix := items_at (l := l) (ic := c) rfl ha hlt
          have hnew := hlr _ (List.getElem_mem hlt)
          have hacc2 : Hid (maxL acc (leadS l[j].shape n) = commonG n (l.take (j + 1)) (List.replicate n 0)) := by unfold Hid; rw [take_snocA hlt, commonG_snoc, ← hacc.out]
          have hB := leadS_len hnew
          have hLA := fun j2 (hj2 : j2 < n) => leadS_at hnew hj2
          generalize hBB : leadS l[j].shape n = B at hacc2 hB hLA
          generalize l[j].shape = sh at *
          have hsb := hs.2.2.1
          obtain ⟨N, hN⟩ : ∃ N, sh.length = N := ⟨_, rfl⟩
          rw [hN] at m1 hnew
          obtain ⟨ms, hms⟩ : ∃ ms, n - N = ms := ⟨_, rfl⟩
          have e9 : (n : Int) - (N : Int) = (ms : Int) := by omega
          have bq := below_new wr (.cells #[.int .i64 k, .slice sa N sc, .slice na ln nc, .slice ia li ic] 26)
          have qq := Quad.new wr (.int .i64 k) (.slice sa N sc) (.slice na ln nc) (.slice ia li ic)
          have hrow2 := hrow.below bq
          have hb3 := Below.then hb2 bq
          have hGq : G < wr.heap.size := hrow.lt
          obtain ⟨qb, hqb⟩ : ∃ qb, wr.heap.size = qb := ⟨_, rfl⟩
          have hsz3 := hb2.size
          rw [hqb] at qq hGq hsz3
          obtain ⟨W2, hW2⟩ : ∃ W2, W2 = wr.alloc (.cells #[.int .i64 k, .slice sa N sc, .slice na ln nc, .slice ia li ic] 26) := ⟨_, rfl⟩
          have hst0 : ∃ j2 : Nat, j2 ≤ n ∧ Value.int .i64 0 = .int .i64 j2 ∧ IntRow W2 G (mixL acc B j2) ∧ Quad W2 qb (.int .i64 k) (.slice sa N sc) (.slice na ln nc) (.slice ia li ic) ∧ Below w.heap.size w W2 :=
            ⟨0, Nat.zero_le _, rfl, by rw [mixL_zero, hW2]; exact hrow2, by rw [hW2]; exact qq, by rw [hW2]; exact hb3⟩
          clear hrow2 hb3 bq qq hb2 hrow
          obtain ⟨i0, i1, i2, i3, -⟩ : True ∧ True ∧ True ∧ True ∧ True := ⟨trivial, trivial, trivial, trivial, trivial⟩
          clear i0 i1 i2 i3
          have hq1 : wr.heap.size = qb := hqb
          go_wp2_with fail
          rw [← hW2]
          clear hW2 hqb hq1
          go_loopw [39] (fun i2 wx => ∃ j2 : Nat, j2 ≤ n ∧ i2 = .int .i64 j2 ∧ IntRow wx G (mixL acc B j2) ∧ Quad wx qb (.int .i64 k) (.slice sa N sc) (.slice na ln nc) (.slice ia li ic) ∧ Below w.heap.size w wx) (fun i2 _ => n - (intOf i2).toNat)
          case atStart => exact hst0
          case round =>
            clear hst0
            obtain ⟨j2, hj2, rfl, hrx, hqx, hbx⟩ := hrel
            obtain ⟨q0, q1, q2, q3, -⟩ := hqx.cells
            by_cases hlt2 : j2 < n
            · obtain ⟨L1, L2⟩ := hLA j2 hlt2
              have hml := mixL_len (j := j2) hal hB
              obtain ⟨r1, r2⟩ := hrx.cell (j := j2) (by omega)
              rw [mixL_at hal hB hlt2] at r1
              have hia := int_at G n j2 hlt2
              have hT := fun y => row_turn (j := j2) y hrx hqx (by omega) hsz hbx
              obtain ⟨x, hx⟩ : ∃ x, acc[j2]'(by omega) = x := ⟨_, rfl⟩
              rw [hx] at r1
              by_cases hm2 : j2 < ms
              · have hy := L1 (by omega)
                have hF := fun v hv => mixL_set hal hB hlt2 (v := v) hx hy hv
                have hm3 : ¬ (ms : Int) ≤ (j2 : Int) := by omega
                clear L1 L2 hy hx hrx hqx
                go_wp2_with fail
                obtain ⟨t1, t2, t3⟩ := hT (if x < 1 then 1 else x)
                rw [hF _ (by split <;> omega)] at t1
                refine ⟨⟨j2 + 1, by omega, by go_num, t1, t2, t3⟩, ?_⟩
                simp [intOf]; omega
              · have hm3 : (ms : Int) ≤ (j2 : Int) := by omega
                obtain ⟨q, hq⟩ : ∃ q, j2 - ms = q := ⟨_, rfl⟩
                have e10 : (j2 : Int) - (ms : Int) = (q : Int) := by omega
                have hqN : q < sh.length := by omega
                have hy := L2 (by omega)
                rw [hN, hms, hq, List.getElem?_eq_getElem hqN] at hy
                obtain ⟨bs, os, hi2, hc2⟩ := (hs.below hbx).at hqN
                rw [hN] at hi2
                generalize sh[q] = y at hy hc2
                have hF := fun v hv => mixL_set hal hB hlt2 (v := v) hx hy hv
                clear L1 L2 hy hx hrx hqx
                go_wp2_with fail
                obtain ⟨t1, t2, t3⟩ := hT (if x < y then y else x)
                rw [hF _ (by split <;> omega)] at t1
                refine ⟨⟨j2 + 1, by omega, by go_num, t1, t2, t3⟩, ?_⟩
                simp [intOf]; omega
            · obtain rfl : j2 = n := by omega
              rw [mixL_all hal hB] at hrx
              go_wp2_with fail
              refine ⟨⟨j + 1, _, by omega, by go_num, hacc2, hrx, hbx⟩, ?_⟩
              simp [intOf]; omega
        · obtain rfl : j = l.length := by omega
          have ha2 := hacc.out
          rw [List.take_length, ← hcs] at ha2
          have hbd := commonS_bd h
          have hin := hrow.ints (by rw [ha2]; exact hbd) (by omega)
          rw [hal, ha2] at hin
          have hcl : (commonS l).length = n := by rw [← ha2]; exact hal
          go_wp2_with fail
          go_ret
          exact ⟨some ⟨G, 0, none⟩, n, by rw [hcl]; rfl, ⟨hin, fun _ ad e => by cases e; exact hsz⟩, hb2⟩
end Go.Proofs.Ytblgpnijiefopaa.Shape
