/-
  Layer 11: the reference's family of scopes; its Find and Depth.
-/
import Derived.Test.YtmbljiapfbadeaaNamR3
namespace Go.Proofs.Ytmbljiapfbadeaa.Nam
open Go.RowKit Go.Maps
set_option linter.unusedVariables false

structure RFam (w : World) (base : Nat) (L : List Scp) (rb : Nat → Nat) (vn vc : Nat → Value) : Prop where
  sc : ∀ i (h : i < L.length), RSc w base (rb i) (L[i].out.map rb) (vn i) (vc i) L[i].ds
  ib : ∀ i j, i < L.length → j < L.length → rb i = rb j → i = j
  iN : ∀ i j g, i < L.length → j < L.length → (vn i).ownBlock = some g → (vn j).ownBlock = some g → i = j
  iC : ∀ i j g, i < L.length → j < L.length → (vc i).ownBlock = some g → (vc j).ownBlock = some g → i = j
theorem RFam.below {w w' : World} {base : Nat} {L : List Scp} {rb : Nat → Nat} {vn vc : Nat → Value} (h : RFam w base L rb vn vc) (hb : Below w.heap.size w w') : RFam w' base L rb vn vc := ⟨fun i hi => (h.sc i hi).below hb, h.ib, h.iN, h.iC⟩
theorem rfam_one {w : World} {base b : Nat} {vn vc : Value} (h : RSc w base b none vn vc []) : RFam w base [⟨none, 0, []⟩] (fun _ => b) (fun _ => vn) (fun _ => vc) := by
  refine ⟨fun i hi => ?_, fun i j hi hj _ => ?_, fun i j g hi hj _ _ => ?_, fun i j g hi hj _ _ => ?_⟩
  · obtain rfl : i = 0 := by simpa using hi
    exact h
  all_goals
    simp at hi hj
    omega
/-- The scope's blocks are apart from another scope's. -/
theorem RFam.apart {w : World} {base : Nat} {L : List Scp} {rb : Nat → Nat} {vn vc : Nat → Value} (h : RFam w base L rb vn vc) {i k : Nat} (hi : i < L.length) (hk : k < L.length) (hne : i ≠ k) {w' : World} (hb : ButR (rb i) (vn i) (vc i) w w') :
    RSc w' base (rb k) (L[k].out.map rb) (vn k) (vc k) L[k].ds := by
  have hI := h.sc i hi
  have hK := h.sc k hk
  have blkK : ∀ g, (vn i).ownBlock = some g → g ≠ rb k := fun g e q => by
    obtain ⟨_, cur, hc⟩ := hI.nm.block e
    rw [q, hK.blk] at hc
    cases hc
  have blkC : ∀ g, (vc i).ownBlock = some g → g ≠ rb k := fun g e q => by
    obtain ⟨_, cur, hc⟩ := hI.cl.block e
    rw [q, hK.blk] at hc
    cases hc
  refine ⟨(hb.block _ hK.lt (fun e => hne (h.ib i k hi hk e.symm)) (fun e => blkK _ e rfl) (fun e => blkC _ e rfl)).trans hK.blk, hK.nm.kept fun g hg => ?_, hK.cl.kept fun g hg => ?_⟩
  · obtain ⟨_, cur, hc⟩ := hK.nm.block hg
    refine hb.block g (heap_lt hc) (fun e => ?_) (fun e => hne (h.iN i k g hi hk e hg)) (fun e => ?_)
    · rw [e, hI.blk] at hc
      cases hc
    · obtain ⟨_, cur2, hc2⟩ := hI.cl.block e
      rw [hc] at hc2
      cases hc2
  · obtain ⟨_, cur, hc⟩ := hK.cl.block hg
    refine hb.block g (heap_lt hc) (fun e => ?_) (fun e => ?_) (fun e => hne (h.iC i k g hi hk e hg))
    · rw [e, hI.blk] at hc
      cases hc
    · obtain ⟨_, cur2, hc2⟩ := hI.nm.block e
      rw [hc] at hc2
      cases hc2
theorem RFam.opened {w w' : World} {base : Nat} {L : List Scp} {rb : Nat → Nat} {vn vc : Nat → Value} (h : RFam w base L rb vn vc) (hW : Wf L) {i : Nat} (hi : i < L.length) (hb : Below w.heap.size w w') {b : Nat} (hnb : w.heap.size ≤ b)
    (hn : RSc w' base b (some (rb i)) (.slice none 0 0) (.slice none 0 0) []) : RFam w' base (openL L i) (upd rb L.length b) (upd vn L.length (.slice none 0 0)) (upd vc L.length (.slice none 0 0)) := by
  have nb : ∀ (f : Nat → Value) (x y g : Nat), x < L.length + 1 → y < L.length + 1 → (∀ i j g, i < L.length → j < L.length → (f i).ownBlock = some g → (f j).ownBlock = some g → i = j) →
      (upd f L.length (.slice none 0 0) x).ownBlock = some g → (upd f L.length (.slice none 0 0) y).ownBlock = some g → x = y := fun f x y g hx hy hf e1 e2 => by
    rcases Nat.lt_or_ge x L.length with q | q <;> rcases Nat.lt_or_ge y L.length with r | r
    · rw [upd_other f _ (Nat.ne_of_lt q)] at e1
      rw [upd_other f _ (Nat.ne_of_lt r)] at e2
      exact hf x y g q r e1 e2
    · obtain rfl : y = L.length := by omega
      rw [upd_same] at e2
      cases e2
    · obtain rfl : x = L.length := by omega
      rw [upd_same] at e1
      cases e1
    · omega
  refine ⟨fun k hk => ?_, fun k l hk hl e => ?_, fun k l g hk hl e1 e2 => ?_, fun k l g hk hl e1 e2 => ?_⟩
  · rw [openL_len] at hk
    rcases Nat.lt_or_ge k L.length with q | q
    · have e : (openL L i)[k]'(by rw [openL_len]; exact hk) = L[k] := by simp [openL, List.getElem_append_left q]
      rw [e, upd_other rb b (Nat.ne_of_lt q), upd_other vn _ (Nat.ne_of_lt q), upd_other vc _ (Nat.ne_of_lt q), map_upd fun j ej => Nat.lt_trans (hW.outs q j ej) q]
      exact (h.sc k q).below hb
    · obtain rfl : k = L.length := by omega
      have e : (openL L i)[L.length]'(by rw [openL_len]; exact hk) = ⟨some i, (scp L i).dep + 1, []⟩ := by simp [openL]
      rw [e, upd_same, upd_same, upd_same]
      simp only [Option.map_some]
      rw [upd_other rb b (Nat.ne_of_lt hi)]
      exact hn
  · rw [openL_len] at hk hl
    rcases Nat.lt_or_ge k L.length with q | q <;> rcases Nat.lt_or_ge l L.length with r | r
    · rw [upd_other rb b (Nat.ne_of_lt q), upd_other rb b (Nat.ne_of_lt r)] at e
      exact h.ib k l q r e
    · obtain rfl : l = L.length := by omega
      rw [upd_other rb b (Nat.ne_of_lt q), upd_same] at e
      have := (h.sc k q).lt
      omega
    · obtain rfl : k = L.length := by omega
      rw [upd_other rb b (Nat.ne_of_lt r), upd_same] at e
      have := (h.sc l r).lt
      omega
    · omega
  · rw [openL_len] at hk hl
    exact nb vn k l g hk hl h.iN e1 e2
  · rw [openL_len] at hk hl
    exact nb vc k l g hk hl h.iC e1 e2
theorem RFam.defined {w w' : World} {base : Nat} {L : List Scp} {rb : Nat → Nat} {vn vc : Nat → Value} (h : RFam w base L rb vn vc) {i : Nat} (hi : i < L.length) {vn' vc' : Value} (hb : ButR (rb i) (vn i) (vc i) w w') (on : Own w (vn i) vn') (oc : Own w (vc i) vc') (s : ByteArray) (c : Int)
    (hn : RSc w' base (rb i) (L[i].out.map rb) vn' vc' (addD L[i].ds s c)) : RFam w' base (defL L i s c) rb (upd vn i vn') (upd vc i vc') := by
  have key : ∀ (f : Nat → Value) (v' : Value), Own w (f i) v' → (∀ k g, k < L.length → (f k).ownBlock = some g → g < w.heap.size) → (∀ i j g, i < L.length → j < L.length → (f i).ownBlock = some g → (f j).ownBlock = some g → i = j) →
      ∀ k l g, k < L.length → l < L.length → (upd f i v' k).ownBlock = some g → (upd f i v' l).ownBlock = some g → k = l := fun f v' o hlt hf k l g hk hl e1 e2 => by
    by_cases q : k = i <;> by_cases r : l = i
    · omega
    · subst q
      rw [upd_same] at e1
      rw [upd_other f v' r] at e2
      rcases o with o | ⟨g', hg', o⟩
      · exact hf k l g hk hl (o.symm.trans e1) e2
      · rw [o] at e1
        have h1 := Option.some.inj e1
        have := hlt l g hl e2
        omega
    · subst r
      rw [upd_same] at e2
      rw [upd_other f v' q] at e1
      rcases o with o | ⟨g', hg', o⟩
      · exact hf k l g hk hl e1 (o.symm.trans e2)
      · rw [o] at e2
        have h1 := Option.some.inj e2
        have := hlt k g hk e1
        omega
    · rw [upd_other f v' q] at e1
      rw [upd_other f v' r] at e2
      exact hf k l g hk hl e1 e2
  refine ⟨fun k hk => ?_, fun k l hk hl e => h.ib k l (by rwa [defL_len] at hk) (by rwa [defL_len] at hl) e, fun k l g hk hl => ?_, fun k l g hk hl => ?_⟩
  · rw [defL_len] at hk
    rw [defL_at s c hk]
    by_cases e : i = k
    · subst e
      simp only [if_true]
      rw [upd_same, upd_same]
      exact hn
    · simp only [if_neg e]
      rw [upd_other vn _ (fun q => e q.symm), upd_other vc _ (fun q => e q.symm)]
      exact h.apart hi hk e hb
  · rw [defL_len] at hk hl
    exact key vn vn' on (fun k g hk e => by obtain ⟨_, cur, hc⟩ := (h.sc k hk).nm.block e; exact heap_lt hc) h.iN k l g hk hl
  · rw [defL_len] at hk hl
    exact key vc vc' oc (fun k g hk e => by obtain ⟨_, cur, hc⟩ := (h.sc k hk).cl.block e; exact heap_lt hc) h.iC k l g hk hl
set_option maxRecDepth 100000 in
set_option maxHeartbeats 4000000 in
theorem findR0 (w : World) (base : Nat) (L : List Scp) (rb : Nat → Nat) (vn vc : Nat → Value) (hF : RFam w base L rb vn vc) (hW : Wf L) (hl : ∀ i (h : i < L.length), L[i].ds.length ≤ 1000) (i : Nat) (hi : i < L.length) (s : ByteArray) (hs : s.size ≤ maxLen) (c : Int) (r : Bool) (hr : findS L (i + 1) (some i) s = (c, r)) :
    Calls Try.prog 14 #[.pointer (some ⟨rb i, 0, none⟩), .string s] w fun e w' => e = .returned (.tuple #[.int .i64 c, .bool r]) ∧ Below w.heap.size w w' := by
  have A : Aside (findS L (i + 1) (some i) s = (c, r)) := hr
  clear hr
  go_enter Try.func14, Try.ntmps14
  go_wp2
  go_loopg [0] (i + 1) (fun k v wr => ∃ cur : Option Nat, v = ptr (cur.map rb) ∧ Aside (findS L k cur s = (c, r)) ∧ (∀ j, cur = some j → j < k ∧ j < L.length) ∧ Below w.heap.size w wr)
  case atStart => exact ⟨some i, rfl, A, fun j e => by cases e; exact ⟨by omega, hi⟩, Below.refl _ _⟩
  case round =>
    clear A
    obtain ⟨cur, rfl, A, hj, Bw⟩ := hrel
    have hfr : findS L gk cur s = (c, r) := A
    clear A
    cases cur with
    | none =>
      rw [find_none] at hfr
      obtain ⟨rfl, rfl⟩ : (0 : Int) = c ∧ false = r := by simpa using hfr
      simp only [Option.map_none, ptr_none]
      clear hfr hj
      go_wp2
      go_ret2
      exact ⟨rfl, Bw⟩
    | some j =>
      obtain ⟨hjk, hjl⟩ := hj j rfl
      obtain ⟨k, rfl⟩ : ∃ k, gk = k + 1 := ⟨gk - 1, by omega⟩
      have hP := (hF.below Bw).sc j hjl
      have hwf := hW j hjl
      have hdl := hl j hjl
      simp only [Option.map_some, ptr_some]
      cases hp : pos L[j].ds s with
      | some p =>
        rw [find_hit hjl hp] at hfr
        obtain ⟨hc, rfl⟩ : (L[j].ds.getD p (⟨#[]⟩, 0)).2 = c ∧ true = r := by simpa using hfr
        obtain ⟨hpl, _, _⟩ := pos_some hp
        have hpi : posI L[j].ds s = (p : Int) := by rw [posI, hp]
        have hp0 : 0 ≤ (p : Int) := by omega
        rw [getD_lt hpl] at hc
        obtain ⟨g, cc, hvc, hix, hcx⟩ := hP.cl.at (j := p) (by rw [classes_len]; exact hpl)
        have e2 : (classesOf L[j].ds)[p]'(by rw [classes_len]; exact hpl) = c := by simp [classesOf, hc]
        rw [e2] at hcx
        rw [hvc] at hP
        clear hj hp hwf hfr hc e2
        go_wp2_with (go_at_call 24; (with_reducible refine (at0 _ base _ _ _ _ _ hP s hs hdl _ hpi).mono ?_); rintro e1 w1 ⟨rfl, b1⟩; have d2 := (hP.below b1).cells.2.2.1; have d3 := (b1.cell (cell_lt hcx)).trans hcx)
        go_ret2
        exact ⟨rfl, Below.then Bw b1⟩
      | none =>
        rw [find_on hjl hp] at hfr
        have hfr' : Aside (findS L k L[j].out s = (c, r)) := hfr
        have hpi : posI L[j].ds s = -1 := by rw [posI, hp]
        have ho : Aside (∀ q, L[j].out = some q → q < k ∧ q < L.length) := fun q e => by
          rw [e] at hwf
          obtain ⟨h1, _⟩ := hwf
          omega
        clear hj hp hwf hfr hF
        generalize L[j].out = oo at *
        cases oo with
        | none =>
          go_wp2_with (go_at_call 24; (with_reducible refine (at0 _ base _ _ _ _ _ hP s hs hdl _ hpi).mono ?_); rintro e1 w1 ⟨rfl, b1⟩; have d2 := (hP.below b1).cells.1; simp only [Option.map_none, ptr_none] at d2)
          go_roundg k
          case measure => omega
          case rel => exact ⟨none, rfl, hfr', (fun q e => by cases e), Below.then Bw b1⟩
        | some q =>
          go_wp2_with (go_at_call 24; (with_reducible refine (at0 _ base _ _ _ _ _ hP s hs hdl _ hpi).mono ?_); rintro e1 w1 ⟨rfl, b1⟩; have d2 := (hP.below b1).cells.1; simp only [Option.map_some, ptr_some] at d2)
          go_roundg k
          case measure => omega
          case rel => exact ⟨some q, rfl, hfr', (fun q' e => by cases e; exact ho q rfl), Below.then Bw b1⟩
set_option maxRecDepth 100000 in
set_option maxHeartbeats 2000000 in
theorem findRN (w : World) (s : ByteArray) : Calls Try.prog 14 #[.pointer none, .string s] w fun e w' => e = .returned (.tuple #[.int .i64 0, .bool false]) ∧ Below w.heap.size w w' := by
  go_enter Try.func14, Try.ntmps14
  go_wp2
  go_loopg [0] 1 (fun k v wr => v = .pointer none ∧ wr = w)
  case atStart => exact ⟨rfl, rfl⟩
  case round =>
    obtain ⟨rfl, rfl⟩ := hrel
    go_wp2
    go_ret2
    exact ⟨rfl, Below.refl _ _⟩
set_option maxRecDepth 100000 in
set_option maxHeartbeats 4000000 in
theorem depthR0 (w : World) (base : Nat) (L : List Scp) (rb : Nat → Nat) (vn vc : Nat → Value) (hF : RFam w base L rb vn vc) (hW : Wf L) (hl : L.length ≤ 1000) (i : Nat) (hi : i < L.length) (r : Int) (hr : ((scp L i).dep : Int) = r) :
    Calls Try.prog 16 #[.pointer (some ⟨rb i, 0, none⟩)] w fun e w' => e = .returned (.int .i64 r) ∧ Below w.heap.size w w' := by
  have A : Aside (((scp L i).dep : Int) = r) := hr
  clear hr
  go_enter Try.func16, Try.ntmps16
  go_wp2
  go_loopg [0, 3] (i + 1) (fun k v n wr => ∃ (cur d : Nat), v = .pointer (some ⟨rb cur, 0, none⟩) ∧ n = .int .i64 (d : Int) ∧ Aside (((scp L cur).dep + d : Nat) = r) ∧ cur < k ∧ d + cur ≤ i ∧ wr = w)
  case atStart => exact ⟨i, 0, rfl, rfl, by rw [Nat.add_zero]; exact A, by omega, by omega, rfl⟩
  case round =>
    clear A
    obtain ⟨cur, d, rfl, rfl, A, hck, hdi, rfl⟩ := hrel
    have hcl : cur < L.length := by omega
    have hP := hF.sc cur hcl
    have hwf := hW cur hcl
    obtain ⟨c0, -⟩ := hP.cells
    have hA : (((scp L cur).dep + d : Nat) : Int) = r := A
    rw [scp_at hcl] at hA
    clear A
    generalize L[cur].dep = dp at *
    cases ho : L[cur].out with
    | none =>
      rw [ho] at hwf c0
      simp only [Option.map_none, ptr_none] at c0
      obtain rfl : (d : Int) = r := by rw [← hA, hwf]; simp
      clear hwf hA hP ho
      go_wp2
      go_ret
      exact ⟨rfl, Below.refl _ _⟩
    | some q =>
      rw [ho] at hwf c0
      simp only [Option.map_some, ptr_some] at c0
      obtain ⟨hq, hd⟩ := hwf
      have hA' : Aside (((scp L q).dep + (d + 1) : Nat) = r) := by
        show (((scp L q).dep + (d + 1) : Nat) : Int) = r
        rw [← hA, scp_at (by omega : q < L.length), hd]
        congr 1
        omega
      have hd' : (d : Int) ≤ 1000 := by omega
      clear hA hd hP ho
      go_wp2
      go_roundg (q + 1)
      case measure => omega
      case rel => exact ⟨q, d + 1, rfl, by go_num, hA', by omega, by omega, rfl⟩
set_option maxRecDepth 100000 in
set_option maxHeartbeats 2000000 in
theorem depthRN (w : World) : Calls Try.prog 16 #[.pointer none] w fun e w' => e = .returned (.int .i64 0) ∧ Below w.heap.size w w' := by
  go_enter Try.func16, Try.ntmps16
  go_wp2
  go_loopg [0, 3] 1 (fun k v n wr => v = .pointer none ∧ n = .int .i64 0 ∧ wr = w)
  case atStart => exact ⟨rfl, rfl, rfl⟩
  case round =>
    obtain ⟨rfl, rfl, rfl⟩ := hrel
    go_wp2
    go_ret
    exact ⟨rfl, Below.refl _ _⟩
end Go.Proofs.Ytmbljiapfbadeaa.Nam
