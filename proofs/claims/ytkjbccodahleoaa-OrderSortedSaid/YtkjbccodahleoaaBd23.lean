/-
  Layer 4: the program's assemble. (Written by wip/gen/cell-asm.py.)
  Layer 4: the program's Pad.
  Layer 4: plain mathematics: an array padded to its own shape is itself.
  Layer 4: plain mathematics: the cells of an array, joined, are the array.
  Layer 4: plain mathematics: the cells of a valid array are valid.
  Layer 4: plain mathematics: what is assembled of valid cells is valid unless it weighs too much.
  Layer 6: arrays compare as equal exactly if they are the same, on plain data.
-/
import Derived.Test.YtkjbccodahleoaaBd22
import Derived.Deep.RegionHeldLaw
import Derived.Deep.DeepCutAuto
import Derived.Handy
import Derived.Test.YtkjbccodahleoaaBd20
import Derived.Test.YtkjbccodahleoaaBd3
import Derived.Test.YtkjbccodahleoaaBd15
namespace Go.Proofs.Ytkjbccodahleoaa.Shape
open Go.RowKit
set_option linter.unusedVariables false

theorem reachL_of : ∀ {l : List Arr}, (∀ A ∈ l, Reach A) → ReachL l
  | [], _ => by rw [ReachL]; trivial
  | A :: r, h => by rw [ReachL]; exact ⟨h A (by simp), reachL_of fun B hB => h B (by simp [hB])⟩
theorem reachL_each : ∀ {l : List Arr}, ReachL l → ∀ A ∈ l, Reach A
  | [], _, A, hA => by cases hA
  | B :: r, h, A, hA => by
    rw [ReachL] at h
    rcases List.mem_cons.1 hA with rfl | hA
    · exact h.1
    · exact reachL_each h.2 A hA
theorem reach_items {A : Arr} (h : Reach A) : ∀ B ∈ A.items, Reach B := by
  obtain ⟨k, sh, nu, it⟩ := A
  rw [Reach] at h
  exact reachL_each h.2.2.2
theorem reach_asm {k : Int} {sh cm : List Int} {m : Nat} {l : List Arr} (hk : 1 ≤ k ∧ k ≤ 3) (hrcm : rightB cm = true) (hr : rightB sh = true) (hm : m = prN cm) (hN : Hid (l.length * m = prN sh)) (hok : ∀ A ∈ l, Okay k cm A) (hR : ∀ A ∈ l, Reach A) : Reach (asmA k sh cm l) := by
  have hNN := (right_def.1 hrcm).2.1
  have h8 := (right_def.1 hr).1
  have hp : prN sh ≤ 65536 := by
    have := (part_bd (a := sh) (b := []) (by rw [List.append_nil]; exact hr)).2.1
    unfold prN; omega
  have hN' := hN.out
  rw [asmA, Reach]
  by_cases hk3 : k = 3
  · subst hk3
    rw [if_pos rfl, if_pos rfl]
    have hl := done_len (partI cm) m l (fun A hA => by
      have o := hok A hA
      rw [partI, hm, padS_len _ _ _ _ (by rw [leadS_len o.len]) hNN (leadS_NN o.nn) (by rw [leadS_prN o.nn]; exact (o.items rfl).1)])
    refine ⟨by omega, by decide, by omega, reachL_of fun B hB => ?_⟩
    obtain ⟨p, hp, hx⟩ := List.mem_flatten.1 hB
    obtain ⟨A, hA, rfl⟩ := List.mem_map.1 hp
    rcases padS_mem _ _ _ _ B hx with h1 | h1
    · rw [h1]; exact reach_plain (by decide) (by decide)
    · exact reach_items (hR A hA) B h1
  · rw [if_neg hk3, if_neg hk3]
    have hl := done_len (partN k cm) m l (fun A hA => by
      have o := hok A hA
      rw [partN, hm, padS_len _ _ _ _ (by rw [leadS_len o.len]) hNN (leadS_NN o.nn) (by rw [leadS_prN o.nn]; exact (o.nums hk3).1)])
    exact ⟨by omega, by omega, by decide, by rw [ReachL]; trivial⟩
theorem alloc_sizeC (w : World) (o : Obj) : (w.alloc o).heap.size = w.heap.size + 1 := by simp
theorem asmEndN {w W w2 : World} {AF : Arr} {k8 : Int} {s8 n8 i8 : Option Addr} {l8 d8 m8 e8 j8 f8 : Nat} (er : Int) (hO : SplitAt W.heap.size w2 (.agg #[.int .i64 k8, .slice s8 l8 d8, .slice n8 m8 e8, .slice i8 j8 f8]) AF) (hW : w.heap.size < W.heap.size) (e : Below w.heap.size w w2) (q6 : Quad w2 w.heap.size (.int .i64 0) (.slice none 0 0) (.slice none 0 0) (.slice none 0 0)) :
    ∃ (R9 : Nat) (k9 : Int) (s9 : Option Addr) (l9 d9 : Nat) (n9 : Option Addr) (m9 e9 : Nat) (i9 : Option Addr) (j9 f9 : Nat), Value.pointer (some ⟨w2.heap.size, 0, none⟩) = .pointer (some ⟨R9, 0, none⟩) ∧ Value.int .i64 er = .int .i64 er ∧ w.heap.size < R9 ∧ Quad (w2.alloc (.cells #[.int .i64 k8, .slice s8 l8 d8, .slice n8 m8 e8, .slice i8 j8 f8] 26)) R9 (.int .i64 k9) (.slice s9 l9 d9) (.slice n9 m9 e9) (.slice i9 j9 f9) ∧ Quad (w2.alloc (.cells #[.int .i64 k8, .slice s8 l8 d8, .slice n8 m8 e8, .slice i8 j8 f8] 26)) w.heap.size (.int .i64 0) (.slice none 0 0) (.slice none 0 0) (.slice none 0 0) ∧ SplitOn (fun g => w.heap.size < g ∧ g ≠ R9) (w2.alloc (.cells #[.int .i64 k8, .slice s8 l8 d8, .slice n8 m8 e8, .slice i8 j8 f8] 26)) (.agg #[.int .i64 k9, .slice s9 l9 d9, .slice n9 m9 e9, .slice i9 j9 f9]) AF ∧ Below w.heap.size w (w2.alloc (.cells #[.int .i64 k8, .slice s8 l8 d8, .slice n8 m8 e8, .slice i8 j8 f8] 26)) := by
  have bn := below_new w2 (.cells #[.int .i64 k8, .slice s8 l8 d8, .slice n8 m8 e8, .slice i8 j8 f8] 26)
  refine ⟨w2.heap.size, k8, s8, l8, d8, n8, m8, e8, i8, j8, f8, rfl, rfl, ?_, Quad.new _ _ _ _ _, q6.below bn, hO.on fun g hg hl => ⟨⟨by omega, by omega⟩, bn.block g hl⟩, Below.then e bn⟩
  have := q6.lt
  exact this
theorem asmEndS {w W w2 : World} {AF : Arr} {R : Nat} {z0 z1 z2 z3 : Value} {k8 : Int} {s8 n8 i8 : Option Addr} {l8 d8 m8 e8 j8 f8 : Nat} (er : Int) (hO : SplitAt W.heap.size w2 (.agg #[.int .i64 k8, .slice s8 l8 d8, .slice n8 m8 e8, .slice i8 j8 f8]) AF) (hW : w.heap.size < W.heap.size) (e : Below w.heap.size w w2) (q6 : Quad w2 w.heap.size (.int .i64 0) (.slice none 0 0) (.slice none 0 0) (.slice none 0 0)) (q : Quad w2 R z0 z1 z2 z3) (h1 : w.heap.size < R) (h2 : R < W.heap.size) :
    ∃ (R9 : Nat) (k9 : Int) (s9 : Option Addr) (l9 d9 : Nat) (n9 : Option Addr) (m9 e9 : Nat) (i9 : Option Addr) (j9 f9 : Nat), Value.pointer (some ⟨R, 0, none⟩) = .pointer (some ⟨R9, 0, none⟩) ∧ Value.int .i64 er = .int .i64 er ∧ w.heap.size < R9 ∧ Quad (((((w2.setCell ⟨R, 0, none⟩ (.int .i64 k8)).setCell ⟨R, 1, none⟩ (.slice s8 l8 d8)).setCell ⟨R, 2, none⟩ (.slice n8 m8 e8)).setCell ⟨R, 3, none⟩ (.slice i8 j8 f8))) R9 (.int .i64 k9) (.slice s9 l9 d9) (.slice n9 m9 e9) (.slice i9 j9 f9) ∧ Quad (((((w2.setCell ⟨R, 0, none⟩ (.int .i64 k8)).setCell ⟨R, 1, none⟩ (.slice s8 l8 d8)).setCell ⟨R, 2, none⟩ (.slice n8 m8 e8)).setCell ⟨R, 3, none⟩ (.slice i8 j8 f8))) w.heap.size (.int .i64 0) (.slice none 0 0) (.slice none 0 0) (.slice none 0 0) ∧ SplitOn (fun g => w.heap.size < g ∧ g ≠ R9) (((((w2.setCell ⟨R, 0, none⟩ (.int .i64 k8)).setCell ⟨R, 1, none⟩ (.slice s8 l8 d8)).setCell ⟨R, 2, none⟩ (.slice n8 m8 e8)).setCell ⟨R, 3, none⟩ (.slice i8 j8 f8))) (.agg #[.int .i64 k9, .slice s9 l9 d9, .slice n9 m9 e9, .slice i9 j9 f9]) AF ∧ Below w.heap.size w (((((w2.setCell ⟨R, 0, none⟩ (.int .i64 k8)).setCell ⟨R, 1, none⟩ (.slice s8 l8 d8)).setCell ⟨R, 2, none⟩ (.slice n8 m8 e8)).setCell ⟨R, 3, none⟩ (.slice i8 j8 f8))) := by
  obtain ⟨p1, p2⟩ := set4 q (.int .i64 k8) (.slice s8 l8 d8) (.slice n8 m8 e8) (.slice i8 j8 f8)
  have hb := set4_below (w := w2) (B := w.heap.size) (b := R) (by omega) (.int .i64 k8) (.slice s8 l8 d8) (.slice n8 m8 e8) (.slice i8 j8 f8)
  generalize ((((w2.setCell ⟨R, 0, none⟩ (.int .i64 k8)).setCell ⟨R, 1, none⟩ (.slice s8 l8 d8)).setCell ⟨R, 2, none⟩ (.slice n8 m8 e8)).setCell ⟨R, 3, none⟩ (.slice i8 j8 f8)) = V at p1 p2 hb ⊢
  exact ⟨R, k8, s8, l8, d8, n8, m8, e8, i8, j8, f8, rfl, rfl, h1, p1, q6.keep (p2 _ (by omega)), hO.on fun g hg hl => ⟨⟨by omega, by omega⟩, p2 g (by omega)⟩, e.trans hb⟩
theorem drew_sizeC (w : World) : w.drew.heap.size = w.heap.size := rfl
theorem Quad.drewC {w : World} {b : Nat} {c0 c1 c2 c3 : Value} (h : Quad w b c0 c1 c2 c3) : Quad w.drew b c0 c1 c2 c3 := h
set_option maxRecDepth 100000 in
set_option maxHeartbeats 8000000 in
theorem asmX (fa : Option Addr) (fc : Nat) (fr : List Int) (ca : Option Addr) (cc : Nat) (cm : List Int) (a : Option Addr) (c : Nat) (l : List Arr) (k : Int) (w : World) (b off : Nat) (hf : IntsAt w fa fc fr) (hcm : IntsAt w ca cc cm) (hfl : fr.length ≤ 1000 ∧ cm.length ≤ 1000)
    (hlc : l.length ≤ c) (hc : c ≤ 9223372036854775807) (hne : l ≠ []) (hl6 : l.length ≤ 65536) (hlen : rightB fr = true → prN fr = l.length) (ha : a = some ⟨b, off, none⟩) (h : ArrsAt w b off l) (hk : 1 ≤ k ∧ k ≤ 3) (hok : ∀ A ∈ l, Okay k cm A) (hreach : ∀ A ∈ l, Reach A) :
    Calls Try.prog 43 #[.slice fa fr.length fc, .slice ca cm.length cc, .slice a l.length c] w (GiveNewE (asmS k fr cm l).1 (asmS k fr cm l).2 w) := by
  have hl0 : 0 < l.length := List.length_pos_iff.2 hne
  subst ha
  obtain ⟨kk, sa, sc, na, ln, nc, ia, li, ic, ⟨m0, -, -, -⟩, -, -, hkk⟩ := h.shape hl0
  obtain rfl : k = kk := by rw [← (hok _ (List.getElem_mem hl0)).kind]; exact hkk
  rw [Nat.zero_mul, Nat.add_zero] at m0
  have hix : ∀ W : World, (Instr.indexAt 24 (.slice (some ⟨b, off, none⟩) l.length c) (.int .i64 0)).run Try.prog W = .ok (.pointer (some ⟨b, off, none⟩)) W := by
    intro W
    have := items_at (ia := some ⟨b, off, none⟩) (b := b) (off := off) (l := l) (ic := c) rfl (fun _ => rfl) hl0 W
    rw [Nat.zero_mul, Nat.add_zero] at this
    exact this
  have bw := below_new w (.cells #[.int .i64 0, .slice none 0 0, .slice none 0 0, .slice none 0 0] 26)
  have q6 := Quad.new w (.int .i64 0) (.slice none 0 0) (.slice none 0 0) (.slice none 0 0)
  have hsz : (w.alloc (.cells #[.int .i64 0, .slice none 0 0, .slice none 0 0, .slice none 0 0] 26)).heap.size = w.heap.size + 1 := by simp
  have mm := (bw.cell (cell_lt m0)).trans m0
  have hf1 := hf.below bw
  have hcm1 := hcm.below bw
  obtain ⟨hfl1, hfl2⟩ := hfl
  have CC : ∀ (W0 : World), Below w.heap.size w W0 → ∀ (W : World) (g : Nat), W.heap[g]? = some (.cells #[.slice fa fr.length fc, .slice ca cm.length cc] 23) → Below W0.heap.size W0 W → Calls Try.prog 67 #[.slice (some ⟨g, 0, none⟩) 2 2] W fun e w' => ∃ a' c', e = .returned (.slice a' (fr ++ cm).length c') ∧ IntsAt w' a' c' (fr ++ cm) ∧ Below W.heap.size W w' := by
    intro W0 h0 W g hg hb
    refine (concatQ g fa ca fc cc fr cm W (by simp [World.cell?, hg]) (by simp [World.cell?, hg]) (hf.below (Below.then h0 hb)) (hcm.below (Below.then h0 hb)) ⟨by omega, by omega⟩).mono ?_
    rintro e w' ⟨a', c', he, hi, hb'⟩
    exact ⟨a', c', he, hi.1, hb'⟩
  have CF := fun a' c' (W : World) (g : IntsAt W a' c' (fr ++ cm)) => filledQ a' c' (fr ++ cm) k W g hk
  have CC1 := CC _ bw
  generalize hW0 : w.alloc (.cells #[.int .i64 0, .slice none 0 0, .slice none 0 0, .slice none 0 0] 26) = W0 at *
  obtain ⟨sh, hsh⟩ : ∃ sh, fr ++ cm = sh := ⟨_, rfl⟩
  rw [hsh] at CC1 CF
  have HSH : Hid (fr ++ cm = sh) := hsh
  obtain ⟨AF, er, hAF⟩ : ∃ AF er, filledS k sh = (AF, er) := ⟨_, _, rfl⟩
  rw [hAF] at CF
  have HAF : Hid (filledS k sh = (AF, er)) := hAF
  clear hAF hsh CC
  have H0 : ∀ w', Below W0.heap.size W0 w' → w'.cell? ⟨b, off, none⟩ = some (.int .i64 k) ∧ Below W0.heap.size W0 w' := fun w' hb => ⟨(hb.cell (cell_lt mm)).trans mm, hb⟩
  have g1 : (W0.alloc (.cells #[.slice fa fr.length fc, .slice ca cm.length cc] 23)).heap[w.heap.size + 1]? = some (.cells #[.slice fa fr.length fc, .slice ca cm.length cc] 23) := by rw [← hsz]; exact heap_alloc_new _ _
  have g2 : ((W0.alloc (.cells #[.slice fa fr.length fc, .slice ca cm.length cc] 23)).alloc (.cells #[.int .i64 0, .slice none 0 0, .slice none 0 0, .slice none 0 0] 26)).heap[w.heap.size + 1]? = some (.cells #[.slice fa fr.length fc, .slice ca cm.length cc] 23) := ((below_new _ _).block _ (by rw [alloc_sizeC]; omega)).trans g1
  have g3 : ((W0.alloc (.cells #[.int .i64 0, .slice none 0 0, .slice none 0 0, .slice none 0 0] 26)).alloc (.cells #[.slice fa fr.length fc, .slice ca cm.length cc] 23)).heap[w.heap.size + 1 + 1]? = some (.cells #[.slice fa fr.length fc, .slice ca cm.length cc] 23) := by rw [← hsz, ← alloc_sizeC W0 (.cells #[.int .i64 0, .slice none 0 0, .slice none 0 0, .slice none 0 0] 26)]; exact heap_alloc_new _ _
  have G1 : Hid ((W0.alloc (.cells #[.slice fa fr.length fc, .slice ca cm.length cc] 23)).heap[w.heap.size + 1]? = some (.cells #[.slice fa fr.length fc, .slice ca cm.length cc] 23)) := g1
  have G2 : Hid (((W0.alloc (.cells #[.slice fa fr.length fc, .slice ca cm.length cc] 23)).alloc (.cells #[.int .i64 0, .slice none 0 0, .slice none 0 0, .slice none 0 0] 26)).heap[w.heap.size + 1]? = some (.cells #[.slice fa fr.length fc, .slice ca cm.length cc] 23)) := g2
  have G3 : Hid (((W0.alloc (.cells #[.int .i64 0, .slice none 0 0, .slice none 0 0, .slice none 0 0] 26)).alloc (.cells #[.slice fa fr.length fc, .slice ca cm.length cc] 23)).heap[w.heap.size + 1 + 1]? = some (.cells #[.slice fa fr.length fc, .slice ca cm.length cc] 23)) := g3
  have G1d : Hid ((W0.alloc (.cells #[.slice fa fr.length fc, .slice ca cm.length cc] 23)).drew.heap[w.heap.size + 1]? = some (.cells #[.slice fa fr.length fc, .slice ca cm.length cc] 23)) := g1
  have G2d : Hid (((W0.alloc (.cells #[.slice fa fr.length fc, .slice ca cm.length cc] 23)).alloc (.cells #[.int .i64 0, .slice none 0 0, .slice none 0 0, .slice none 0 0] 26)).drew.heap[w.heap.size + 1]? = some (.cells #[.slice fa fr.length fc, .slice ca cm.length cc] 23)) := g2
  have G3d : Hid (((W0.alloc (.cells #[.int .i64 0, .slice none 0 0, .slice none 0 0, .slice none 0 0] 26)).alloc (.cells #[.slice fa fr.length fc, .slice ca cm.length cc] 23)).drew.heap[w.heap.size + 1 + 1]? = some (.cells #[.slice fa fr.length fc, .slice ca cm.length cc] 23)) := g3
  clear g1 g2 g3
  go_enter Try.func43, Try.ntmps43
  go_upto_region 1 with fail
  go_cut [8, 9] (fun v8 v9 wx => ∃ (R8 : Nat) (k8 : Int) (s8 : Option Addr) (l8 d8 : Nat) (n8 : Option Addr) (m8 e8 : Nat) (i8 : Option Addr) (j8 f8 : Nat), v8 = .pointer (some ⟨R8, 0, none⟩) ∧ v9 = .int .i64 er ∧ w.heap.size < R8 ∧ Quad wx R8 (.int .i64 k8) (.slice s8 l8 d8) (.slice n8 m8 e8) (.slice i8 j8 f8) ∧ Quad wx w.heap.size (.int .i64 0) (.slice none 0 0) (.slice none 0 0) (.slice none 0 0) ∧ SplitOn (fun g => w.heap.size < g ∧ g ≠ R8) wx (.agg #[.int .i64 k8, .slice s8 l8 d8, .slice n8 m8 e8, .slice i8 j8 f8]) AF ∧ Below w.heap.size w wx)
  case first =>
    go_region_held_law (fun w' => w'.cell? ⟨b, off, none⟩ = some (.int .i64 k) ∧ Below W0.heap.size W0 w')
      (first
        | exact H0 _ (by go_grown)
        | exact H0 _ (Below.setCell (Below.setCell (Below.setCell (Below.setCell (by go_grown) (by first | exact Nat.le_refl _ | assumption | omega) _) (by first | exact Nat.le_refl _ | assumption | omega) _) (by first | exact Nat.le_refl _ | assumption | omega) _) (by first | exact Nat.le_refl _ | assumption | omega) _))
      (((first
      | (go_simp; (with_reducible refine (CC1 _ _ (by first | exact G1.out | exact G2.out | exact G3.out | exact G1d.out | exact G2d.out | exact G3d.out) (by go_grown)).mono ?_); rintro e w1 ⟨a', c', rfl, hi, b1⟩; (have e1 : Below W0.heap.size W0 w1 := Below.then (by go_grown) b1); (have S1 := e1.size); (first | (have qX := Quad.below b1 (Quad.drewC (Quad.new _ _ _ _ _)); (try simp only [alloc_sizeC] at qX); (try simp only [drew_sizeC] at qX); (try simp only [hsz] at qX); (obtain ⟨x0, x1, x2, x3, x4, x5, x6, x7⟩ := qX.cells); (have ltqX := qX.lt)) | (have qX := Quad.below b1 (Quad.new _ _ _ _ _); (try simp only [alloc_sizeC] at qX); (try simp only [drew_sizeC] at qX); (try simp only [hsz] at qX); (obtain ⟨x0, x1, x2, x3, x4, x5, x6, x7⟩ := qX.cells); (have ltqX := qX.lt)) | (have qX := Quad.below b1 (Quad.below (below_new _ _) (Quad.new _ _ _ _ _)); (try simp only [alloc_sizeC] at qX); (try simp only [drew_sizeC] at qX); (try simp only [hsz] at qX); (obtain ⟨x0, x1, x2, x3, x4, x5, x6, x7⟩ := qX.cells); (have ltqX := qX.lt)) | (have qX := Quad.below b1 (Quad.drewC (Quad.below (below_new _ _) (Quad.new _ _ _ _ _))); (try simp only [alloc_sizeC] at qX); (try simp only [drew_sizeC] at qX); (try simp only [hsz] at qX); (obtain ⟨x0, x1, x2, x3, x4, x5, x6, x7⟩ := qX.cells); (have ltqX := qX.lt)) | skip))
      | (go_simp; (with_reducible refine (CF _ _ _ (hi.below (by go_grown))).mono ?_); intro e w2 hN; (obtain ⟨k8, s8, l8, d8, n8, m8, e8, i8, j8, f8, rfl, hO, b2⟩ := hN.form); (have e2 : Below W0.heap.size W0 w2 := Below.then (by go_grown) b2); (have S2 := e2.size); (first | (have qY := Quad.below b2 (Quad.new _ _ _ _ _); (try simp only [alloc_sizeC] at qY); (try simp only [drew_sizeC] at qY); (try simp only [hsz] at qY); (obtain ⟨y0, y1, y2, y3, y4, y5, y6, y7⟩ := qY.cells); (have ltqY := qY.lt)) | (have qY := Quad.below b2 qX; (try simp only [alloc_sizeC] at qY); (try simp only [drew_sizeC] at qY); (try simp only [hsz] at qY); (obtain ⟨y0, y1, y2, y3, y4, y5, y6, y7⟩ := qY.cells); (have ltqY := qY.lt)) | (have qY := Quad.below b2 (Quad.drewC (Quad.new _ _ _ _ _)); (try simp only [alloc_sizeC] at qY); (try simp only [drew_sizeC] at qY); (try simp only [hsz] at qY); (obtain ⟨y0, y1, y2, y3, y4, y5, y6, y7⟩ := qY.cells); (have ltqY := qY.lt)) | skip)))))
    all_goals go_wp2_with fail
    all_goals go_meet
    all_goals first
      | (with_reducible refine asmEndN er hO ?_ (Below.then bw e2) (q6.below e2))
      | (with_reducible refine asmEndS er hO ?_ (Below.then bw e2) (q6.below e2) (by assumption) ?_ ?_)
    all_goals first | omega | (simp only [alloc_sizeC]; omega)
  case rest =>
    obtain ⟨R8, k8, s8, l8, d8, n8, m8, e8, i8, j8, f8, rfl, rfl, hR8, qx8, qx6, hS, BX⟩ := hcut
    clear CC1 CF H0 mm hf1 hcm1 q6 bw G1 G2 G3 G1d G2d G3d hix m0
    obtain ⟨x0, x1, x2, x3, x4, x5, x6, x7⟩ := qx6.cells
    by_cases hr : rightB sh = true
    · have e : (AF, er) = (allF k sh, 0) := by rw [← HAF.out, filledS, if_pos hr]
      simp only [Prod.mk.injEq] at e
      obtain ⟨rfl, rfl⟩ := e
      have hsh := HSH.out
      have hrcm : rightB cm = true := by
        have := right_drop (k := fr.length) (show rightB (fr ++ cm) = true by rw [hsh]; exact hr)
        rwa [List.drop_left] at this
      have hrfr : rightB fr = true := by
        have := right_take (k := fr.length) (show rightB (fr ++ cm) = true by rw [hsh]; exact hr)
        rwa [List.take_left] at this
      obtain ⟨m, hm⟩ : ∃ m, prN cm = m := ⟨_, rfl⟩
      have hpr : pr cm = (m : Int) := by
        have := pr_nn (right_def.1 hrcm).2.1
        rw [← hm]; unfold prN; omega
      have hsz : sizeS cm = (m : Int) := by rw [sizeS, if_pos hrcm, hpr]
      have hN : l.length * m = prN sh := by rw [← hsh, prN_append (right_def.1 hrfr).2.1 (right_def.1 hrcm).2.1, hlen hrfr, hm]
      have hC : AsmC w wc.heap.size R8 (.int .i64 k8) (.slice s8 l8 d8) (.slice n8 m8 e8) (.slice i8 j8 f8) wc := ⟨Nat.le_refl _, BX, qx8, qx6⟩
      obtain ⟨D, D', vI, vA, hD, hD0⟩ := asm_data hC hS hk hN hne hl6 hm.symm hrcm hcm hok (nums_bd h)
      have hAS : asmS k fr cm l = outA (asmA k sh cm l) := by rw [asmS, hsh, if_pos hr]
      have HAS : Hid (asmS k fr cm l = outA (asmA k sh cm l)) := hAS
      have CS := fun W (g : IntsAt W ca cc cm) => shSizeP ca cc cm W g
      rw [hsz] at CS
      have hcx := hcm.below BX
      have hNl : Hid (l.length * m = prN sh) := hN
      clear hS hC hAS HAF hsz hpr hN hsh
      go_wp2_with (go_at_call 49; refine (CS _ hcx).mono ?_; rintro e w1 ⟨rfl, rfl⟩)
      go_loopw [33] (fun i wr => ∃ j : Nat, j ≤ l.length ∧ i = .int .i64 j ∧ D j wr) (fun i _ => l.length - (intOf i).toNat)
      case atStart => exact ⟨0, Nat.zero_le _, rfl, hD0⟩
      case round =>
        clear hD0 qx8 qx6 BX hcx x0 x1 x2 x3 x4 x5 x6 x7 CS
        obtain ⟨j, hj, rfl, hDj⟩ := hrel
        have hCj := hD.keepC _ _ hDj
        by_cases hlt : j < l.length
        · obtain ⟨kj, saj, scj, naj, lnj, ncj, iaj, lij, icj, ⟨t0, t1, t2, t3⟩, -, hAj, -⟩ := h.shape hlt
          have hbw := hCj.bel
          have y0 := (hbw.cell (cell_lt t0)).trans t0
          have y1 := (hbw.cell (cell_lt t1)).trans t1
          have y2 := (hbw.cell (cell_lt t2)).trans t2
          have y3 := (hbw.cell (cell_lt t3)).trans t3
          have hixj := items_at (ia := some ⟨b, off, none⟩) (b := b) (off := off) (l := l) (ic := c) rfl (fun _ => rfl) hlt
          have bq := below_new wr (.cells #[.int .i64 kj, .slice saj l[j].shape.length scj, .slice naj lnj ncj, .slice iaj lij icj] 26)
          have qq := Quad.new wr (.int .i64 kj) (.slice saj l[j].shape.length scj) (.slice naj lnj ncj) (.slice iaj lij icj)
          have hDq := hD.bel _ _ _ hDj bq
          have hBI := fun W => hD.bI j hlt W
          have hBA := fun W => hD.bA j hlt W
          have hPI := fun W (g : D j W) => hD.pI j hlt W _ _ _ _ _ _ _ _ _ _ hAj g
          have hPA := fun W (g : D' j W) => hD.pA j hlt W _ _ _ _ _ _ _ _ _ _ hAj g
          clear t0 t1 t2 t3 hAj hbw
          generalize l[j].shape.length = lsj at *
          generalize vI j = vi at *
          generalize vA j = va at *
          have hCq := hCj.below bq
          obtain ⟨p0, p1, p2, p3, -⟩ := hCq.q8.cells
          obtain ⟨r0, r1, r2, r3, -⟩ := qq.cells
          have hne12 : wr.heap.size ≠ R8 := by have := hCj.q8.lt; omega
          obtain ⟨qb, hqb⟩ : ∃ qb, wr.heap.size = qb := ⟨_, rfl⟩
          have hqS : wc.heap.size ≤ qb := by rw [← hqb]; exact hCj.siz
          rw [hqb] at qq hne12 r0 r1 r2 r3
          obtain ⟨Wq, hWq⟩ : ∃ Wq, Wq = wr.alloc (.cells #[.int .i64 kj, .slice saj lsj scj, .slice naj lnj ncj, .slice iaj lij icj] 26) := ⟨_, rfl⟩
          have H8 : ∀ W : World, Quad W R8 (.int .i64 k8) (.slice s8 l8 d8) (.slice n8 m8 e8) (.slice i8 j8 f8) → Quad W qb (.int .i64 kj) (.slice saj lsj scj) (.slice naj lnj ncj) (.slice iaj lij icj) → (W.cell? ⟨R8, 0, none⟩ = some (.int .i64 k8) ∧ W.cell? ⟨R8, 1, none⟩ = some (.slice s8 l8 d8) ∧ W.cell? ⟨R8, 2, none⟩ = some (.slice n8 m8 e8) ∧ W.cell? ⟨R8, 3, none⟩ = some (.slice i8 j8 f8)) ∧ (W.cell? ⟨qb, 0, none⟩ = some (.int .i64 kj) ∧ W.cell? ⟨qb, 1, none⟩ = some (.slice saj lsj scj) ∧ W.cell? ⟨qb, 2, none⟩ = some (.slice naj lnj ncj) ∧ W.cell? ⟨qb, 3, none⟩ = some (.slice iaj lij icj)) := by
            intro W h1 h2
            obtain ⟨a0, a1, a2, a3, -⟩ := h1.cells
            obtain ⟨b0, b1, b2, b3, -⟩ := h2.cells
            exact ⟨⟨a0, a1, a2, a3⟩, b0, b1, b2, b3⟩
          have hst := H8 _ hCq.q8 qq
          clear r0 r1 r2 r3 p0 p1 p2 p3
          rw [← hWq] at hDq hCq qq hst bq
          have hP1 := hPI Wq hDq
          have hP2 := hPI Wq.drew (hD.bel _ _ _ hDq ⟨rfl, rfl, rfl, Nat.le_refl _, fun _ _ => rfl⟩)
          obtain ⟨⟨p0, p1, p2, p3⟩, r0, r1, r2, r3⟩ := id hst
          have hst' : Hid ((Wq.cell? ⟨R8, 0, none⟩ = some (.int .i64 k8) ∧ Wq.cell? ⟨R8, 1, none⟩ = some (.slice s8 l8 d8) ∧ Wq.cell? ⟨R8, 2, none⟩ = some (.slice n8 m8 e8) ∧ Wq.cell? ⟨R8, 3, none⟩ = some (.slice i8 j8 f8)) ∧ (Wq.cell? ⟨qb, 0, none⟩ = some (.int .i64 kj) ∧ Wq.cell? ⟨qb, 1, none⟩ = some (.slice saj lsj scj) ∧ Wq.cell? ⟨qb, 2, none⟩ = some (.slice naj lnj ncj) ∧ Wq.cell? ⟨qb, 3, none⟩ = some (.slice iaj lij icj))) := hst
          clear hst
          go_wp2_with fail
          rw [← hWq]
          clear hWq
          go_region_held3 (fun W => (W.cell? ⟨R8, 0, none⟩ = some (.int .i64 k8) ∧ W.cell? ⟨R8, 1, none⟩ = some (.slice s8 l8 d8) ∧ W.cell? ⟨R8, 2, none⟩ = some (.slice n8 m8 e8) ∧ W.cell? ⟨R8, 3, none⟩ = some (.slice i8 j8 f8)) ∧ (W.cell? ⟨qb, 0, none⟩ = some (.int .i64 kj) ∧ W.cell? ⟨qb, 1, none⟩ = some (.slice saj lsj scj) ∧ W.cell? ⟨qb, 2, none⟩ = some (.slice naj lnj ncj) ∧ W.cell? ⟨qb, 3, none⟩ = some (.slice iaj lij icj)))
            (first | exact hst'.out | exact hs2.out | assumption)
            ((first
            | (go_at_call 37; (with_reducible refine (hBI _).mono ?_); rintro e w1 ⟨rfl, rfl⟩)
            | (go_at_call 68; (first | (with_reducible refine hP1.mono ?_) | (with_reducible refine hP2.mono ?_)); rintro e w2 ⟨rfl, hD2, t, ht, hbt⟩; (have q82 := (hD.keepC' _ _ hD2).q8); (have qq2 := qq.keep (hbt.block qb (by omega) qq.lt)); (have hs2 : Hid ((w2.cell? ⟨R8, 0, none⟩ = some (.int .i64 k8) ∧ w2.cell? ⟨R8, 1, none⟩ = some (.slice s8 l8 d8) ∧ w2.cell? ⟨R8, 2, none⟩ = some (.slice n8 m8 e8) ∧ w2.cell? ⟨R8, 3, none⟩ = some (.slice i8 j8 f8)) ∧ (w2.cell? ⟨qb, 0, none⟩ = some (.int .i64 kj) ∧ w2.cell? ⟨qb, 1, none⟩ = some (.slice saj lsj scj) ∧ w2.cell? ⟨qb, 2, none⟩ = some (.slice naj lnj ncj) ∧ w2.cell? ⟨qb, 3, none⟩ = some (.slice iaj lij icj))) := H8 w2 q82 qq2))))
          obtain ⟨⟨g0, g1, g2, g3⟩, u0, u1, u2, u3⟩ := id hs2.out
          have hA1 := hPA w2 hD2
          have hA2 := hPA w2.drew (hD.bel' _ _ _ hD2 ⟨rfl, rfl, rfl, Nat.le_refl _, fun _ _ => rfl⟩)
          clear p0 p1 p2 p3 r0 r1 r2 r3 hP1 hP2 hBI hst' hDq hCq
          go_wp2_with fail
          go_region_held3 (fun W => (W.cell? ⟨R8, 0, none⟩ = some (.int .i64 k8) ∧ W.cell? ⟨R8, 1, none⟩ = some (.slice s8 l8 d8) ∧ W.cell? ⟨R8, 2, none⟩ = some (.slice n8 m8 e8) ∧ W.cell? ⟨R8, 3, none⟩ = some (.slice i8 j8 f8)) ∧ (W.cell? ⟨qb, 0, none⟩ = some (.int .i64 kj) ∧ W.cell? ⟨qb, 1, none⟩ = some (.slice saj lsj scj) ∧ W.cell? ⟨qb, 2, none⟩ = some (.slice naj lnj ncj) ∧ W.cell? ⟨qb, 3, none⟩ = some (.slice iaj lij icj)))
            (first | exact hs2.out | exact hs3.out | assumption)
            ((first
            | (go_at_call 38; (with_reducible refine (hBA _).mono ?_); rintro e w1' ⟨rfl, rfl⟩)
            | (go_at_call 69; (first | (with_reducible refine hA1.mono ?_) | (with_reducible refine hA2.mono ?_)); rintro e w3 ⟨rfl, hD3, t', ht', hbt'⟩; (have q83 := (hD.keepC _ _ hD3).q8); (have qq3 := qq2.keep (hbt'.block qb (by omega) qq2.lt)); (have hs3 : Hid ((w3.cell? ⟨R8, 0, none⟩ = some (.int .i64 k8) ∧ w3.cell? ⟨R8, 1, none⟩ = some (.slice s8 l8 d8) ∧ w3.cell? ⟨R8, 2, none⟩ = some (.slice n8 m8 e8) ∧ w3.cell? ⟨R8, 3, none⟩ = some (.slice i8 j8 f8)) ∧ (w3.cell? ⟨qb, 0, none⟩ = some (.int .i64 kj) ∧ w3.cell? ⟨qb, 1, none⟩ = some (.slice saj lsj scj) ∧ w3.cell? ⟨qb, 2, none⟩ = some (.slice naj lnj ncj) ∧ w3.cell? ⟨qb, 3, none⟩ = some (.slice iaj lij icj))) := H8 w3 q83 qq3))))
          go_wp2_with fail
          refine ⟨⟨j + 1, by omega, by go_num, hD3⟩, ?_⟩
          simp [intOf]; omega
        · obtain rfl : j = l.length := by omega
          have hRA := hD.fin wr hDj
          have hRR := reach_asm hk hrcm hr hm.symm hNl hok hreach
          have K := weightQ _ _ wr hRA hRR
          obtain ⟨p0, p1, p2, p3, -⟩ := hCj.q8.cells
          obtain ⟨T, hT⟩ : ∃ T, wt (asmA k sh cm l) = T := ⟨_, rfl⟩
          have HT : Hid (wt (asmA k sh cm l) = T) := hT
          rw [hT] at K
          clear hT
          have q6 := hCj.q6
          have B6 := hCj.bel
          by_cases hbig : 262144 < T
          · have HO : Hid (asmS k fr cm l = (zeroA, 21)) := by unfold Hid; rw [HAS.out]; exact outA_big (by rw [HT.out]; exact hbig)
            go_wp2_with (go_at_call 70; refine K.mono ?_; rintro e w4 ⟨rfl, hb4⟩; (obtain ⟨s0, s1, s2, s3, s4, s5, s6, s7⟩ := (q6.below hb4).cells))
            have q3 := q6.below hb4
            have G := give_set4 (w := w) (Nat.le_refl w.heap.size) q3 (zero_on _ _) (Below.then B6 hb4)
            obtain ⟨QW, -⟩ := set4 q3 (.int .i64 0) (.slice none 0 0) (.slice none 0 0) (.slice none 0 0)
            generalize ((((w4.setCell ⟨w.heap.size, 0, none⟩ (.int .i64 0)).setCell ⟨w.heap.size, 1, none⟩ (.slice none 0 0)).setCell ⟨w.heap.size, 2, none⟩ (.slice none 0 0)).setCell ⟨w.heap.size, 3, none⟩ (.slice none 0 0)) = WW at QW G ⊢
            obtain ⟨z0, z1, z2, z3, -⟩ := QW.cells
            exact bodyPost_ret (v := .tuple #[.agg #[.int .i64 0, .slice none 0 0, .slice none 0 0, .slice none 0 0], .int .i64 21]) (by simp [results, Try.results43, go_sem, z0, z1, z2, z3]) rfl (by rw [HO.out]; exact GiveNewE.mk G)
          · have HO : Hid (asmS k fr cm l = (asmA k sh cm l, 0)) := by unfold Hid; rw [HAS.out]; exact outA_ok (by rw [HT.out]; exact hbig)
            go_wp2_with (first
              | (go_at_call 70; refine K.mono ?_; rintro e w4 ⟨rfl, hb4⟩; (obtain ⟨u0, u1, u2, u3, -⟩ := (hCj.q8.below hb4).cells))
              | (go_at_call 39; refine (cloneN _ _ _ (hRA.below hb4) hRR).mono ?_; intro e w5 hN; (obtain ⟨kr, sar, lsr, scr, nar, lnr, ncr, iar, lir, icr, rfl, hO, hb5⟩ := hN.form); (obtain ⟨s0, s1, s2, s3, s4, s5, s6, s7⟩ := ((q6.below hb4).below hb5).cells)))
            have q3 := (q6.below hb4).below hb5
            have hs6 := hb4.size
            have hlr := q6.lt
            have G := give_set4 (w := w) (Nat.le_refl w.heap.size) q3 (hO.mono fun g hg => by omega) (Below.then (Below.then B6 hb4) hb5)
            obtain ⟨QW, -⟩ := set4 q3 (.int .i64 kr) (.slice sar lsr scr) (.slice nar lnr ncr) (.slice iar lir icr)
            generalize ((((w5.setCell ⟨w.heap.size, 0, none⟩ (.int .i64 kr)).setCell ⟨w.heap.size, 1, none⟩ (.slice sar lsr scr)).setCell ⟨w.heap.size, 2, none⟩ (.slice nar lnr ncr)).setCell ⟨w.heap.size, 3, none⟩ (.slice iar lir icr)) = WW at QW G ⊢
            obtain ⟨z0, z1, z2, z3, -⟩ := QW.cells
            exact bodyPost_ret (v := .tuple #[.agg #[.int .i64 kr, .slice sar lsr scr, .slice nar lnr ncr, .slice iar lir icr], .int .i64 0]) (by simp [results, Try.results43, go_sem, z0, z1, z2, z3]) rfl (by rw [HO.out]; exact GiveNewE.mk G)
    · have e : (AF, er) = (zeroA, 21) := by rw [← HAF.out, filledS, if_neg hr]
      simp only [Prod.mk.injEq] at e
      obtain ⟨rfl, rfl⟩ := e
      have hAS : asmS k fr cm l = (zeroA, 21) := by rw [asmS, HSH.out, if_neg hr]
      have HAS : Hid (asmS k fr cm l = (zeroA, 21)) := hAS
      clear hAS HAF
      go_wp2_with fail
      have G := give_set4 (w := w) (Nat.le_refl w.heap.size) qx6 (zero_on _ _) BX
      obtain ⟨QW, -⟩ := set4 qx6 (.int .i64 0) (.slice none 0 0) (.slice none 0 0) (.slice none 0 0)
      generalize ((((wc.setCell ⟨w.heap.size, 0, none⟩ (.int .i64 0)).setCell ⟨w.heap.size, 1, none⟩ (.slice none 0 0)).setCell ⟨w.heap.size, 2, none⟩ (.slice none 0 0)).setCell ⟨w.heap.size, 3, none⟩ (.slice none 0 0)) = WW at QW G ⊢
      obtain ⟨z0, z1, z2, z3, -⟩ := QW.cells
      exact bodyPost_ret (v := .tuple #[.agg #[.int .i64 0, .slice none 0 0, .slice none 0 0, .slice none 0 0], .int .i64 21]) (by simp [results, Try.results43, go_sem, z0, z1, z2, z3]) rfl (by rw [HAS.out]; exact GiveNewE.mk G)
end Go.Proofs.Ytkjbccodahleoaa.Shape

namespace Go.Proofs.Ytkjbccodahleoaa.Shape
open Go.RowKit
set_option linter.unusedVariables false

/-- No dimension of the array is greater than that of the shape on the same axis. -/
def smallB (tt sh : List Int) : Bool := (List.range sh.length).all fun i => decide (sh.getD i 0 ≤ tt.getD (tt.length - sh.length + i) 0)
theorem smallB_iff {tt sh : List Int} : smallB tt sh = true ↔ ∀ i, i < sh.length → sh.getD i 0 ≤ tt.getD (tt.length - sh.length + i) 0 := by
  simp [smallB]
theorem fits_of : ∀ (n : Nat) (a b : List Int), a.length = n → b.length = n → (∀ (i : Nat) (x y : Int), b[i]? = some x → a[i]? = some y → x ≤ y) → fits a b
  | 0, a, b, ha, hb, _ => by
    obtain rfl := List.eq_nil_of_length_eq_zero ha
    obtain rfl := List.eq_nil_of_length_eq_zero hb
    rw [fits]; trivial
  | n + 1, [], _, ha, _, _ => by simp at ha
  | n + 1, _ :: _, [], _, hb, _ => by simp at hb
  | n + 1, t :: ts, f :: fs, ha, hb, h => by
    rw [fits]
    exact ⟨h 0 f t rfl rfl, fits_of n ts fs (by simpa using ha) (by simpa using hb) fun i x y hx hy => h (i + 1) x y (by simpa using hx) (by simpa using hy)⟩
theorem small_fits {tt sh : List Int} (hl : sh.length ≤ tt.length) (h1 : ∀ x ∈ tt, 1 ≤ x) (hs : smallB tt sh = true) : fits tt (leadS sh tt.length) := by
  refine fits_of tt.length tt _ rfl (leadS_len hl) fun i x y hx hy => ?_
  have hit : i < tt.length := (List.getElem?_eq_some_iff.1 hy).1
  by_cases hi : i < tt.length - sh.length
  · rw [(leadS_at hl hit).1 hi] at hx
    cases hx
    exact h1 y (List.mem_of_getElem? hy)
  · rw [(leadS_at hl hit).2 (by omega)] at hx
    have e : tt.length - sh.length + (i - (tt.length - sh.length)) = i := by omega
    have hs' := smallB_iff.1 hs (i - (tt.length - sh.length)) (by omega)
    rw [e, List.getD_eq_getElem?_getD, List.getD_eq_getElem?_getD, hx, hy] at hs'
    exact hs'
theorem pos_of_prN : ∀ {xs : List Int}, NN xs → prN xs ≠ 0 → ∀ x ∈ xs, 1 ≤ x
  | [], _, _, x, hx => by cases hx
  | a :: r, hn, h, x, hx => by
    rw [prN_cons hn.head hn.tail] at h
    rcases List.mem_cons.1 hx with rfl | hx
    · have := hn.head
      have : x.toNat ≠ 0 := fun e => h (by rw [e, Nat.zero_mul])
      omega
    · exact pos_of_prN hn.tail (fun e => h (by rw [e, Nat.mul_zero])) x hx
theorem GiveNewE.formOn {A : Arr} {er : Int} {w w' : World} {e : Ending} (h : GiveNewE A er w e w') : ∃ k sa ls sc na ln nc ia li ic, e = .returned (.tuple #[.agg #[.int .i64 k, .slice sa ls sc, .slice na ln nc, .slice ia li ic], .int .i64 er]) ∧
    ArrOn (fun g => w.heap.size ≤ g) w' (.agg #[.int .i64 k, .slice sa ls sc, .slice na ln nc, .slice ia li ic]) A ∧ Below w.heap.size w w' := by
  obtain ⟨c0, c1, c2, c3, rfl, hg⟩ := h
  obtain ⟨k, sa, ls, sc, na, ln, nc, ia, li, ic, hv, hO, hb⟩ := hg.form
  simp only [Ending.returned.injEq] at hv
  exact ⟨k, sa, ls, sc, na, ln, nc, ia, li, ic, by rw [hv], hO, hb⟩
/-- What Pad gives. -/
def padA (A : Arr) (tt : List Int) : Arr × Int :=
  if rightE A = 0 then
    if rightB tt = true then
      if tt.length < A.shape.length then (zeroA, 15) else if smallB tt A.shape = true then asmS A.kind [] tt [A] else (zeroA, 16)
    else (zeroA, 1)
  else (zeroA, 1)
theorem okay_pad {A : Arr} {tt : List Int} (hx : rightE A = 0) (hr : rightB tt = true) (hl : A.shape.length ≤ tt.length) (hs : smallB tt A.shape = true) : ∀ B ∈ [A], Okay A.kind tt B := by
  intro B hB
  obtain rfl := List.mem_singleton.1 hB
  have h := right_lens hx
  exact ⟨rfl, (right_def.1 (right_short hx)).2.1, hl, fun h0 => small_fits hl (pos_of_prN (right_def.1 hr).2.1 h0) hs, h.2.2.1, h.2.2.2.1⟩

set_option maxRecDepth 100000 in
set_option maxHeartbeats 2000000 in
theorem padQ (v : Value) (A : Arr) (ta : Option Addr) (tc : Nat) (tt : List Int) (w : World) (h : ArrAt w v A) (ht : IntsAt w ta tc tt) (hR : Reach A) :
    Calls Try.prog 19 #[v, .slice ta tt.length tc] w (GiveNewE (padA A tt).1 (padA A tt).2 w) := by
  have h0 := h
  obtain ⟨kk, sa, ls, sc, na, ln, nc, ia, li, ic, rfl, hs, hls, hkk⟩ : ∃ kk sa ls sc na ln nc ia li ic, v = .agg #[.int .i64 kk, .slice sa ls sc, .slice na ln nc, .slice ia li ic] ∧ IntsAt w sa sc A.shape ∧ ls = A.shape.length ∧ kk = A.kind := by
    obtain ⟨kk, sh, nu, it⟩ := A
    rw [ArrAt] at h
    obtain ⟨sa, sc, na, nc, ia, ic, hv, -, hs, -⟩ := h
    exact ⟨_, _, _, _, _, _, _, _, _, _, hv, hs, rfl, rfl⟩
  subst hls
  have HKK : Hid (kk = A.kind) := hkk
  clear hkk
  have bw := below_two w (.cells #[.int .i64 kk, .slice sa A.shape.length sc, .slice na ln nc, .slice ia li ic] 26) (.cells #[.int .i64 0, .slice none 0 0, .slice none 0 0, .slice none 0 0] 26)
  have q0 := (Quad.new w (.int .i64 kk) (.slice sa A.shape.length sc) (.slice na ln nc) (.slice ia li ic)).below (below_new _ (.cells #[.int .i64 0, .slice none 0 0, .slice none 0 0, .slice none 0 0] 26))
  have q4 : Quad ((w.alloc (.cells #[.int .i64 kk, .slice sa A.shape.length sc, .slice na ln nc, .slice ia li ic] 26)).alloc (.cells #[.int .i64 0, .slice none 0 0, .slice none 0 0, .slice none 0 0] 26)) (w.heap.size + 1) (.int .i64 0) (.slice none 0 0) (.slice none 0 0) (.slice none 0 0) := by
    simpa using Quad.new (w.alloc (.cells #[.int .i64 kk, .slice sa A.shape.length sc, .slice na ln nc, .slice ia li ic] 26)) (.int .i64 0) (.slice none 0 0) (.slice none 0 0) (.slice none 0 0)
  have hA := h0.below bw
  have hs1 := hs.below bw
  have ht1 := ht.below bw
  have hlt := ht.len
  have hlsh := hs.len
  obtain ⟨x, hx⟩ : ∃ x, rightE A = x := ⟨_, rfl⟩
  have R := fun v' w' (g : ArrAt w' v' A) => rightQ v' A w' g
  rw [hx] at R
  have T := fun W (g : IntsAt W ta tc tt) => shRightP ta tc tt W g
  obtain ⟨y, hy⟩ : ∃ y, rightB tt = y := ⟨_, rfl⟩
  rw [hy] at T
  have HA : ∀ W, Below w.heap.size w W → ∀ b, W.heap[b]? = some (.cells #[.int .i64 kk, .slice sa A.shape.length sc, .slice na ln nc, .slice ia li ic] 26 (0, 0)) → x = 0 → y = true → A.shape.length ≤ tt.length → smallB tt A.shape = true →
      Calls Try.prog 43 #[.slice none 0 0, .slice ta tt.length tc, .slice (some ⟨b, 0, none⟩) 1 1] W (GiveNewE (asmS A.kind [] tt [A]).1 (asmS A.kind [] tt [A]).2 W) := by
    intro W hW b hb hx0 hy0 hl hsm
    have hr : rightB tt = true := by rw [hy]; exact hy0
    have hxx : rightE A = 0 := by rw [hx]; exact hx0
    have h8 := (right_def.1 hr).1
    have hcell : ArrsAt W b 0 [A] := by
      rw [ArrsAt, ArrsAt]
      refine ⟨⟨_, _, _, _, ⟨?_, ?_, ?_, ?_⟩, h0.below hW⟩, trivial⟩
      all_goals (simp [World.cell?, hb]; try rfl)
    exact asmX none 0 [] ta tc tt (some ⟨b, 0, none⟩) 1 [A] A.kind W b 0 (ints_nil W) (ht.below hW) ⟨by simp, by omega⟩ (Nat.le_refl _) (by decide) (by simp) (by simp) (fun _ => rfl) rfl hcell ⟨(right_lens hxx).2.2.2.2.1, (right_lens hxx).2.2.2.2.2⟩ (okay_pad hxx hr hl hsm) (fun B hB => by rw [List.mem_singleton.1 hB]; exact hR)
  by_cases hx0 : x = 0
  · have e1 : (x != 0) = false := by simpa using hx0
    cases y with
    | false =>
      have HP : Hid (padA A tt = (zeroA, 1)) := by unfold Hid; rw [padA, if_pos (by rw [hx]; exact hx0), if_neg (by rw [hy]; decide)]
      clear HA
      go_enter Try.func19, Try.ntmps19
      go_wp2_with (first
        | (go_at_call 34; refine (R _ _ hA).mono ?_; rintro e w1 ⟨rfl, hb1⟩; (obtain ⟨s0, s1, s2, s3, s4, s5, s6, s7⟩ := (q4.below hb1).cells); (obtain ⟨p0, p1, p2, p3, -⟩ := (q0.below hb1).cells); (have hsw := hs1.below hb1); (have htw := ht1.below hb1))
        | (go_at_call 42; refine (T _ htw).mono ?_; rintro e w1' ⟨rfl, rfl⟩))
      have q3 := q4.below hb1
      have G := give_set4 (Nat.le_succ w.heap.size) q3 (zero_on _ _) (Below.then bw hb1)
      obtain ⟨QW, -⟩ := set4 q3 (.int .i64 0) (.slice none 0 0) (.slice none 0 0) (.slice none 0 0)
      generalize ((((w1.setCell ⟨w.heap.size + 1, 0, none⟩ (.int .i64 0)).setCell ⟨w.heap.size + 1, 1, none⟩ (.slice none 0 0)).setCell ⟨w.heap.size + 1, 2, none⟩ (.slice none 0 0)).setCell ⟨w.heap.size + 1, 3, none⟩ (.slice none 0 0)) = WW at QW G ⊢
      obtain ⟨z0, z1, z2, z3, -⟩ := QW.cells
      exact bodyPost_ret (v := .tuple #[.agg #[.int .i64 0, .slice none 0 0, .slice none 0 0, .slice none 0 0], .int .i64 1]) (by simp [results, Try.results19, go_sem, z0, z1, z2, z3]) rfl (by rw [HP.out]; exact GiveNewE.mk G)
    | true =>
      by_cases hl : tt.length < A.shape.length
      · have HP : Hid (padA A tt = (zeroA, 15)) := by unfold Hid; rw [padA, if_pos (by rw [hx]; exact hx0), if_pos hy, if_pos hl]
        have e3 : (tt.length : Int) - (A.shape.length : Int) < 0 := by omega
        clear HA
        go_enter Try.func19, Try.ntmps19
        go_wp2_with (first
          | (go_at_call 34; refine (R _ _ hA).mono ?_; rintro e w1 ⟨rfl, hb1⟩; (obtain ⟨s0, s1, s2, s3, s4, s5, s6, s7⟩ := (q4.below hb1).cells); (obtain ⟨p0, p1, p2, p3, -⟩ := (q0.below hb1).cells); (have hsw := hs1.below hb1); (have htw := ht1.below hb1))
          | (go_at_call 42; refine (T _ htw).mono ?_; rintro e w1' ⟨rfl, rfl⟩))
        have q3 := q4.below hb1
        have G := give_set4 (Nat.le_succ w.heap.size) q3 (zero_on _ _) (Below.then bw hb1)
        obtain ⟨QW, -⟩ := set4 q3 (.int .i64 0) (.slice none 0 0) (.slice none 0 0) (.slice none 0 0)
        generalize ((((w1.setCell ⟨w.heap.size + 1, 0, none⟩ (.int .i64 0)).setCell ⟨w.heap.size + 1, 1, none⟩ (.slice none 0 0)).setCell ⟨w.heap.size + 1, 2, none⟩ (.slice none 0 0)).setCell ⟨w.heap.size + 1, 3, none⟩ (.slice none 0 0)) = WW at QW G ⊢
        obtain ⟨z0, z1, z2, z3, -⟩ := QW.cells
        exact bodyPost_ret (v := .tuple #[.agg #[.int .i64 0, .slice none 0 0, .slice none 0 0, .slice none 0 0], .int .i64 15]) (by simp [results, Try.results19, go_sem, z0, z1, z2, z3]) rfl (by rw [HP.out]; exact GiveNewE.mk G)
      · obtain ⟨ms, hms⟩ : ∃ ms, tt.length - A.shape.length = ms := ⟨_, rfl⟩
        have e3 : (tt.length : Int) - (A.shape.length : Int) = (ms : Int) := by omega
        have HS : Hid (smallB tt A.shape = true ↔ ∀ i, i < A.shape.length → A.shape.getD i 0 ≤ tt.getD (ms + i) 0) := by unfold Hid; rw [← hms]; exact smallB_iff
        have HA' : Hid (∀ W, Below w.heap.size w W → ∀ b, W.heap[b]? = some (.cells #[.int .i64 kk, .slice sa A.shape.length sc, .slice na ln nc, .slice ia li ic] 26 (0, 0)) → smallB tt A.shape = true →
            Calls Try.prog 43 #[.slice none 0 0, .slice ta tt.length tc, .slice (some ⟨b, 0, none⟩) 1 1] W (GiveNewE (asmS A.kind [] tt [A]).1 (asmS A.kind [] tt [A]).2 W)) := fun W hW b hb hsm => HA W hW b hb hx0 rfl (by omega) hsm
        have HP1 : Hid (smallB tt A.shape = true → padA A tt = asmS A.kind [] tt [A]) := fun h => by rw [padA, if_pos (by rw [hx]; exact hx0), if_pos hy, if_neg hl, if_pos h]
        have HP2 : Hid (¬ smallB tt A.shape = true → padA A tt = (zeroA, 16)) := fun h => by rw [padA, if_pos (by rw [hx]; exact hx0), if_pos hy, if_neg hl, if_neg h]
        clear HA
        go_enter Try.func19, Try.ntmps19
        go_wp2_with (first
          | (go_at_call 34; refine (R _ _ hA).mono ?_; rintro e w1 ⟨rfl, hb1⟩; (obtain ⟨s0, s1, s2, s3, s4, s5, s6, s7⟩ := (q4.below hb1).cells); (obtain ⟨p0, p1, p2, p3, -⟩ := (q0.below hb1).cells); (have hsw := hs1.below hb1); (have htw := ht1.below hb1))
          | (go_at_call 42; refine (T _ htw).mono ?_; rintro e w1' ⟨rfl, rfl⟩))
        go_loop [30] (fun i => ∃ j : Nat, j ≤ A.shape.length ∧ i = .int .i64 j ∧ ∀ i', i' < j → A.shape.getD i' 0 ≤ tt.getD (ms + i') 0) (fun i => A.shape.length - (intOf i).toNat)
        case atStart => exact ⟨0, Nat.zero_le _, rfl, fun i' h => absurd h (Nat.not_lt_zero _)⟩
        case round =>
          obtain ⟨j, hj, rfl, hall⟩ := hrel
          by_cases hlt2 : j < A.shape.length
          · obtain ⟨b1, o1, hi1, hc1⟩ := hsw.at hlt2
            have hmj : ms + j < tt.length := by omega
            obtain ⟨b2, o2, hi2, hc2⟩ := htw.at hmj
            obtain ⟨q, hq⟩ : ∃ q, ms + j = q := ⟨_, rfl⟩
            have e4 : (ms : Int) + (j : Int) = (q : Int) := by omega
            obtain ⟨X, hX⟩ : ∃ X, A.shape[j] = X := ⟨_, rfl⟩
            obtain ⟨Y, hY⟩ : ∃ Y, tt[ms + j] = Y := ⟨_, rfl⟩
            have gX : A.shape.getD j 0 = X := by rw [List.getD_eq_getElem?_getD, List.getElem?_eq_getElem hlt2, hX]; rfl
            have gY : tt.getD (ms + j) 0 = Y := by rw [List.getD_eq_getElem?_getD, List.getElem?_eq_getElem hmj, hY]; rfl
            rw [hX] at hc1
            rw [hY] at hc2
            rw [hq] at hi2 hc2
            have GX : Hid (A.shape.getD j 0 = X) := gX
            have GY : Hid (tt.getD (ms + j) 0 = Y) := gY
            clear hX hY gX gY hq
            by_cases hgt : Y < X
            · have HP : Hid (padA A tt = (zeroA, 16)) := HP2.out fun h => by
                have := HS.out.1 h j hlt2
                rw [GX.out, GY.out] at this
                omega
              clear hall HP1 HP2 HA'
              go_wp2_with fail
              have q3 := q4.below hb1
              have G := give_set4 (Nat.le_succ w.heap.size) q3 (zero_on _ _) (Below.then bw hb1)
              obtain ⟨QW, -⟩ := set4 q3 (.int .i64 0) (.slice none 0 0) (.slice none 0 0) (.slice none 0 0)
              generalize ((((w1.setCell ⟨w.heap.size + 1, 0, none⟩ (.int .i64 0)).setCell ⟨w.heap.size + 1, 1, none⟩ (.slice none 0 0)).setCell ⟨w.heap.size + 1, 2, none⟩ (.slice none 0 0)).setCell ⟨w.heap.size + 1, 3, none⟩ (.slice none 0 0)) = WW at QW G ⊢
              obtain ⟨z0, z1, z2, z3, -⟩ := QW.cells
              exact bodyPost_ret (v := .tuple #[.agg #[.int .i64 0, .slice none 0 0, .slice none 0 0, .slice none 0 0], .int .i64 16]) (by simp [results, Try.results19, go_sem, z0, z1, z2, z3]) rfl (by rw [HP.out]; exact GiveNewE.mk G)
            · go_wp2_with fail
              go_round
              case rel => exact ⟨j + 1, by omega, by go_num, fun i' hi' => by
                rcases Nat.lt_succ_iff_lt_or_eq.1 hi' with h | h
                · exact hall i' h
                · rw [h, GX.out, GY.out]; omega⟩
              case measure => simp [intOf]; omega
          · obtain rfl : j = A.shape.length := by omega
            have hsm := HS.out.2 hall
            have HP := HP1.out hsm
            have HPh : Hid (padA A tt = asmS A.kind [] tt [A]) := HP
            have HAs := fun W h1 b h2 => HA'.out W h1 b h2 hsm
            obtain ⟨PA, er, hPA⟩ : ∃ PA er, asmS A.kind [] tt [A] = (PA, er) := ⟨_, _, rfl⟩
            rw [hPA] at HAs
            have HPA : Hid (padA A tt = (PA, er)) := HP.trans hPA
            clear HP HPh hPA HP1 HP2 HS HA' hall hsm
            have hBw := Below.then bw hb1
            have HA1 := HAs (w1.alloc (.cells #[.int .i64 kk, .slice sa A.shape.length sc, .slice na ln nc, .slice ia li ic] 26)) (Below.then hBw (below_new _ _)) w1.heap.size (heap_alloc_new w1 _)
            have bn := below_new w1 (.cells #[.int .i64 kk, .slice sa A.shape.length sc, .slice na ln nc, .slice ia li ic] 26)
            clear HAs
            have q41 := (q4.below hb1).below bn
            go_wp2_with (go_at_call 43; refine HA1.mono ?_; intro e w5 hN; (obtain ⟨kr, sar, lsr, scr, nar, lnr, ncr, iar, lir, icr, rfl, hO, hb5⟩ := GiveNewE.formOn hN); (obtain ⟨y0, y1, y2, y3, y4, y5, y6, y7⟩ := (q41.below hb5).cells))
            have q3 := q41.below hb5
            have hlq := q41.lt
            have G := give_set4 (w := w) (Nat.le_succ w.heap.size) q3 (hO.mono fun g hg => by have hg' := hg; omega) (Below.then (Below.then hBw bn) hb5)
            obtain ⟨QW, -⟩ := set4 q3 (.int .i64 kr) (.slice sar lsr scr) (.slice nar lnr ncr) (.slice iar lir icr)
            generalize ((((w5.setCell ⟨w.heap.size + 1, 0, none⟩ (.int .i64 kr)).setCell ⟨w.heap.size + 1, 1, none⟩ (.slice sar lsr scr)).setCell ⟨w.heap.size + 1, 2, none⟩ (.slice nar lnr ncr)).setCell ⟨w.heap.size + 1, 3, none⟩ (.slice iar lir icr)) = WW at QW G ⊢
            obtain ⟨z0, z1, z2, z3, -⟩ := QW.cells
            exact bodyPost_ret (v := .tuple #[.agg #[.int .i64 kr, .slice sar lsr scr, .slice nar lnr ncr, .slice iar lir icr], .int .i64 er]) (by simp [results, Try.results19, go_sem, z0, z1, z2, z3]) rfl (by rw [HPA.out]; exact GiveNewE.mk G)
  · have HP : Hid (padA A tt = (zeroA, 1)) := by unfold Hid; rw [padA, if_neg (by rw [hx]; exact hx0)]
    have e1 : (x != 0) = true := by simpa using hx0
    clear HA
    go_enter Try.func19, Try.ntmps19
    go_wp2_with (go_at_call 34; refine (R _ _ hA).mono ?_; rintro e w1 ⟨rfl, hb1⟩; (obtain ⟨s0, s1, s2, s3, s4, s5, s6, s7⟩ := (q4.below hb1).cells); (obtain ⟨p0, p1, p2, p3, -⟩ := (q0.below hb1).cells); (have hsw := hs1.below hb1); (have htw := ht1.below hb1))
    have q3 := q4.below hb1
    have G := give_set4 (Nat.le_succ w.heap.size) q3 (zero_on _ _) (Below.then bw hb1)
    obtain ⟨QW, -⟩ := set4 q3 (.int .i64 0) (.slice none 0 0) (.slice none 0 0) (.slice none 0 0)
    generalize ((((w1.setCell ⟨w.heap.size + 1, 0, none⟩ (.int .i64 0)).setCell ⟨w.heap.size + 1, 1, none⟩ (.slice none 0 0)).setCell ⟨w.heap.size + 1, 2, none⟩ (.slice none 0 0)).setCell ⟨w.heap.size + 1, 3, none⟩ (.slice none 0 0)) = WW at QW G ⊢
    obtain ⟨z0, z1, z2, z3, -⟩ := QW.cells
    exact bodyPost_ret (v := .tuple #[.agg #[.int .i64 0, .slice none 0 0, .slice none 0 0, .slice none 0 0], .int .i64 1]) (by simp [results, Try.results19, go_sem, z0, z1, z2, z3]) rfl (by rw [HP.out]; exact GiveNewE.mk G)
end Go.Proofs.Ytkjbccodahleoaa.Shape

namespace Go.Proofs.Ytkjbccodahleoaa.Shape
open Go.RowKit
set_option linter.unusedVariables false

theorem right_wt {A : Arr} (hx : rightE A = 0) : ¬ 262144 < wt A := by
  obtain ⟨k, sh, nu, it⟩ := A
  intro hw
  rw [rightE, chk] at hx
  split at hx
  · simp at hx
  · split at hx
    · rename_i h; exact h hx
    · split at hx
      · simp at hx
      · split at hx
        · simp at hx
        · split at hx
          · simp at hx
          · unfold lastE at hx
            split at hx <;> first | (simp at hx; done) | omega
theorem asmA_self {A : Arr} (hx : rightE A = 0) : asmA A.kind ([] ++ A.shape) A.shape [A] = A := by
  obtain ⟨h1, h2, h3, h4, h5, h6⟩ := right_lens hx
  have hNN := (right_def.1 (right_short hx)).2.1
  obtain ⟨k, sh, nu, it⟩ := A
  simp only [Arr.kind, Arr.shape, Arr.nums, Arr.items] at *
  rw [asmA]
  by_cases hk : k = 3
  · obtain ⟨g1, g2⟩ := h4 hk
    subst g2
    simp only [if_pos hk, List.nil_append, List.map_cons, List.map_nil, List.flatten_cons, List.flatten_nil, List.append_nil, partI, Arr.shape, Arr.items]
    rw [leadS_full (Nat.le_refl _), padS_self _ _ _ hNN g1]
  · obtain ⟨g1, g2⟩ := h3 hk
    subst g2
    simp only [if_neg hk, List.nil_append, List.map_cons, List.map_nil, List.flatten_cons, List.flatten_nil, List.append_nil, partN, Arr.shape, Arr.nums]
    rw [leadS_full (Nat.le_refl _), padS_self _ _ _ hNN g1]

theorem padA_self {A : Arr} (hx : rightE A = 0) : padA A A.shape = (A, 0) := by
  have hr := right_short hx
  rw [padA, if_pos hx, if_pos hr, if_neg (Nat.lt_irrefl _), if_pos (smallB_iff.2 fun i hi => by simp), asmS, List.nil_append, if_pos hr]
  have h := asmA_self hx
  rw [List.nil_append] at h
  rw [h, outA_ok (right_wt hx)]
end Go.Proofs.Ytkjbccodahleoaa.Shape

namespace Go.Proofs.Ytkjbccodahleoaa.Shape
open Go.RowKit
set_option linter.unusedVariables false

theorem maxL_self : ∀ (a : List Int), maxL a a = a
  | [] => rfl
  | x :: r => by have := maxL_self r; unfold maxL at *; rw [List.zipWith_cons_cons, this, Int.max_self]
theorem maxL_zero : ∀ (a : List Int), NN a → maxL (List.replicate a.length 0) a = a
  | [], _ => rfl
  | x :: r, h => by
    have := maxL_zero r (fun y hy => h y (by simp [hy]))
    have hx : 0 ≤ x := h x (by simp)
    unfold maxL at *
    rw [List.length_cons, List.replicate_succ, List.zipWith_cons_cons, this, Int.max_eq_right hx]
theorem commonG_same {cm : List Int} : ∀ (l : List Arr), (∀ A ∈ l, A.shape = cm) → commonG cm.length l cm = cm
  | [], _ => rfl
  | A :: r, h => by
    rw [commonG, h A (by simp), leadS_full (Nat.le_refl _), maxL_self]
    exact commonG_same r (fun B hB => h B (by simp [hB]))
theorem maxRank_same {n : Nat} : ∀ (l : List Arr), l ≠ [] → (∀ A ∈ l, A.shape.length = n) → maxRank l = n
  | [], h, _ => absurd rfl h
  | A :: r, _, h => by
    have hA := h A (by simp)
    have hr := maxRank_bd (l := r) (m := n) (fun B hB => by have := h B (by simp [hB]); omega)
    rw [maxRank]; omega
theorem commonS_same {l : List Arr} {cm : List Int} (hne : l ≠ []) (hn : NN cm) (h : ∀ A ∈ l, A.shape = cm) : commonS l = cm := by
  have hm := maxRank_same l hne (n := cm.length) (fun A hA => by rw [h A hA])
  rw [commonS, hm]
  cases l with
  | nil => exact absurd rfl hne
  | cons A r =>
    rw [commonG, h A (by simp), leadS_full (Nat.le_refl _), maxL_zero _ hn]
    exact commonG_same r (fun B hB => h B (by simp [hB]))

theorem asm_cells {A : Arr} (hx : rightE A = 0) (r : Nat) : asmA A.kind (A.shape.take r ++ A.shape.drop r) (A.shape.drop r) ((List.range (prN (A.shape.take r))).map (cellA A r)) = A := by
  obtain ⟨h1, h2, h3, h4, h5, h6⟩ := right_lens hx
  have hNN := (right_def.1 (right_short hx)).2.1
  have hT : NN (A.shape.take r) := fun y hy => hNN y (List.mem_of_mem_take hy)
  have hD : NN (A.shape.drop r) := fun y hy => hNN y (List.mem_of_mem_drop hy)
  have hp : prN A.shape = prN (A.shape.take r) * prN (A.shape.drop r) := by rw [← prN_append hT hD, List.take_append_drop]
  rw [hp] at h3 h4
  have key : ∀ {α : Type} (z : α) (els : List α), els.length = prN (A.shape.take r) * prN (A.shape.drop r) →
      ((List.range (prN (A.shape.take r))).map fun i => padS z (A.shape.drop r) (leadS (A.shape.drop r) (A.shape.drop r).length) (blk els i (prN (A.shape.drop r)))).flatten = els := by
    intro α z els hl
    rw [flatten_congr _ _ (fun i => blk els i (prN (A.shape.drop r))) (fun i hi => ?_), blks_take, ← hl, List.take_length]
    rw [leadS_full (Nat.le_refl _), padS_self _ _ _ hD]
    exact blk_len (by rw [hl]; exact Nat.mul_le_mul_right _ hi)
  obtain ⟨k, sh, nu, it⟩ := A
  simp only [Arr.kind, Arr.shape, Arr.nums, Arr.items] at *
  rw [asmA, List.take_append_drop, List.map_map, List.map_map]
  by_cases hk : k = 3
  · obtain ⟨g1, g2⟩ := h4 hk
    subst g2
    simp only [if_pos hk]
    have := key fillI it g1
    exact congrArg (Arr.mk k sh []) this
  · obtain ⟨g1, g2⟩ := h3 hk
    subst g2
    simp only [if_neg hk]
    have := key (fillZ k) nu g1
    exact congrArg (fun n => Arr.mk k sh n []) this
end Go.Proofs.Ytkjbccodahleoaa.Shape

namespace Go.Proofs.Ytkjbccodahleoaa.Shape
open Go.RowKit
set_option linter.unusedVariables false

theorem chkL_all : ∀ (l : List Arr) (d e : Int), chkL d l = some e → d ≤ e ∧ ∀ A ∈ l, (chk A).1 = 0 ∧ (chk A).2 + 1 ≤ e
  | [], d, e, h => by rw [chkL] at h; cases h; exact ⟨Int.le_refl _, fun A hA => by cases hA⟩
  | B :: r, d, e, h => by
    rw [chkL] at h
    split at h
    · cases h
    · rename_i h0
      obtain ⟨g1, g2⟩ := chkL_all r _ e h
      refine ⟨by omega, fun A hA => ?_⟩
      rcases List.mem_cons.1 hA with rfl | hA
      · exact ⟨by omega, by omega⟩
      · exact g2 A hA
theorem chkL_of (m : Int) : ∀ (l : List Arr) (d : Int), d ≤ m → (∀ A ∈ l, (chk A).1 = 0 ∧ (chk A).2 + 1 ≤ m) → ∃ e, chkL d l = some e ∧ e ≤ m
  | [], d, h, _ => ⟨d, by rw [chkL], h⟩
  | B :: r, d, h, g => by
    have hB := g B (by simp)
    obtain ⟨e, h1, h2⟩ := chkL_of m r (max d ((chk B).2 + 1)) (by omega) (fun A hA => g A (by simp [hA]))
    exact ⟨e, by rw [chkL, if_neg (by omega)]; exact h1, h2⟩
theorem sumW_app : ∀ (a b : List Arr), sumW (a ++ b) = sumW a + sumW b
  | [], b => by rw [List.nil_append, sumW]; omega
  | A :: r, b => by rw [List.cons_append, sumW, sumW, sumW_app r b]; omega
theorem sumW_nn2 : ∀ (a : List Arr), 0 ≤ sumW a
  | [] => by rw [sumW]; omega
  | A :: r => by rw [sumW]; have := wt_nn A; have := sumW_nn2 r; omega
theorem sumW_blk (l : List Arr) (i m : Nat) : sumW (blk l i m) ≤ sumW l := by
  have h1 : sumW l = sumW (l.take (i * m)) + sumW (l.drop (i * m)) := by rw [← sumW_app, List.take_append_drop]
  have h2 : sumW (l.drop (i * m)) = sumW ((l.drop (i * m)).take m) + sumW ((l.drop (i * m)).drop m) := by rw [← sumW_app, List.take_append_drop]
  have := sumW_nn2 (l.take (i * m))
  have := sumW_nn2 ((l.drop (i * m)).drop m)
  rw [blk]; omega

theorem aSize_num {k : Int} {sh nu : List Int} {it : List Arr} (h3 : k ≠ 3) (h5 : 1 ≤ k) (h6 : k ≤ 3) : aSize (.mk k sh nu it) = nu.length := by
  have h : k = 1 ∨ k = 2 := by omega
  unfold aSize
  exact if_pos h
theorem aSize_box {sh nu : List Int} {it : List Arr} : aSize (.mk 3 sh nu it) = it.length := rfl
theorem blk_le {α : Type} (l : List α) (i m : Nat) : (blk l i m).length ≤ l.length := by unfold blk; simp; omega
theorem right_cell {A : Arr} (hx : rightE A = 0) (r i : Nat) (hi : i < prN (A.shape.take r)) : rightE (cellA A r i) = 0 := by
  have hlens := right_lens hx
  have hw := right_wt hx
  have hr := right_short hx
  have hNN := (right_def.1 hr).2.1
  have hT : NN (A.shape.take r) := fun y hy => hNN y (List.mem_of_mem_take hy)
  have hD : NN (A.shape.drop r) := fun y hy => hNN y (List.mem_of_mem_drop hy)
  have hp : prN A.shape = prN (A.shape.take r) * prN (A.shape.drop r) := by rw [← prN_append hT hD, List.take_append_drop]
  have hrd := right_drop (k := r) hr
  have hpd : (prN (A.shape.drop r) : Int) = pr (A.shape.drop r) := by
    have := pr_nn hD
    unfold prN; omega
  obtain ⟨k, sh, nu, it⟩ := A
  rw [rightE, chk] at hx
  simp only [Arr.kind, Arr.shape, Arr.nums, Arr.items, cellA] at *
  obtain ⟨h1, h2, h3, h4, h5, h6⟩ := hlens
  rw [hp] at h3 h4
  have hle : (i + 1) * prN (sh.drop r) ≤ prN (sh.take r) * prN (sh.drop r) := Nat.mul_le_mul_right _ hi
  split at hx
  · simp at hx
  · rename_i hk
    split at hx
    · rename_i h; exact absurd hx h
    · split at hx
      · simp at hx
      · split at hx
        · simp at hx
        · rename_i hel
          split at hx
          · simp at hx
          · rename_i d hd
            unfold lastE at hx
            split at hx
            · simp at hx
            · rename_i hlast
              obtain ⟨g1, g2⟩ := chkL_all it 0 d hd
              obtain ⟨e, he, hed⟩ := chkL_of d (blk it i (prN (sh.drop r))) 0 g1 (fun A hA => g2 A (blk_mem hA))
              rw [rightE, chk, if_neg hk, if_neg (by simpa using (dimsE_right _).2 hrd)]
              have hel' : (blk nu i (prN (sh.drop r))).all (elemB k) = true := List.all_eq_true.2 fun x hx => by
                have h' : nu.all (elemB k) = true := by simpa using hel
                exact List.all_eq_true.1 h' x (blk_mem hx)
              have hlen : ¬ ((aSize (.mk k (sh.drop r) (blk nu i (prN (sh.drop r))) (blk it i (prN (sh.drop r)))) : Int) ≠ pr (sh.drop r) ∨ 0 < other k (blk nu i (prN (sh.drop r))) (blk it i (prN (sh.drop r)))) := by
                by_cases hk3 : k = 3
                · subst hk3
                  obtain ⟨q1, q2⟩ := h4 rfl
                  subst q2
                  rw [aSize_box, blk_len (by rw [q1]; exact hle), hpd, other, if_pos rfl]
                  simp [blk]
                · obtain ⟨q1, q2⟩ := h3 hk3
                  subst q2
                  rw [aSize_num hk3 h5 h6, blk_len (by rw [q1]; exact hle), hpd, other, if_neg hk3]
                  simp [blk]
              rw [if_neg hlen, if_neg (by rw [hel']; simp), he]
              show (lastE e _).1 = 0
              unfold lastE
              rw [if_neg]
              intro hor
              rcases hor with hor | hor
              · omega
              · apply hlast
                right
                rw [wt] at hor ⊢
                have hs := sumW_blk it i (prN (sh.drop r))
                have ha : aSize (.mk k (sh.drop r) (blk nu i (prN (sh.drop r))) (blk it i (prN (sh.drop r)))) ≤ aSize (.mk k sh nu it) := by
                  by_cases hk3 : k = 3
                  · subst hk3; rw [aSize_box, aSize_box]; exact blk_le _ _ _
                  · rw [aSize_num hk3 h5 h6, aSize_num hk3 h5 h6]; exact blk_le _ _ _
                by_cases hk3 : k = 3
                · rw [if_pos hk3] at hor ⊢; omega
                · rw [if_neg hk3] at hor ⊢; omega
end Go.Proofs.Ytkjbccodahleoaa.Shape

namespace Go.Proofs.Ytkjbccodahleoaa.Shape
open Go.RowKit
set_option linter.unusedVariables false

theorem right_more {A : Arr} (hx : rightE A = 0) : (∀ x ∈ A.nums, elemB A.kind x = true) ∧ (∀ B ∈ A.items, (chk B).1 = 0 ∧ (chk B).2 + 1 ≤ 16) := by
  obtain ⟨k, sh, nu, it⟩ := A
  rw [rightE, chk] at hx
  simp only [Arr.kind, Arr.nums, Arr.items]
  split at hx
  · simp at hx
  · split at hx
    · rename_i h; exact absurd hx h
    · split at hx
      · simp at hx
      · split at hx
        · simp at hx
        · rename_i hel
          split at hx
          · simp at hx
          · rename_i d hd
            unfold lastE at hx
            split at hx
            · simp at hx
            · rename_i hlast
              obtain ⟨g1, g2⟩ := chkL_all it 0 d hd
              refine ⟨fun x h => ?_, fun B hB => ?_⟩
              · have h' : nu.all (elemB k) = true := by simpa using hel
                exact List.all_eq_true.1 h' x h
              · have := g2 B hB
                exact ⟨this.1, by omega⟩
theorem fillZ_elem {k : Int} (hk : 1 ≤ k ∧ k ≤ 3) : elemB k (fillZ k) = true := by
  have : k = 1 ∨ k = 2 ∨ k = 3 := by omega
  rcases this with rfl | rfl | rfl <;> decide
theorem fillI_chk : (chk fillI).1 = 0 ∧ (chk fillI).2 + 1 ≤ 16 := by
  have h : chk fillI = (0, 0) := by kernel_rfl
  rw [h]; decide
theorem asm_chk {k : Int} {sh cm : List Int} {l : List Arr} (hl : ∀ A ∈ l, rightE A = 0) (hok : ∀ A ∈ l, Okay k cm A) (hk : 1 ≤ k ∧ k ≤ 3) (hrs : rightB sh = true) (hrc : rightB cm = true) (hp : prN sh = l.length * prN cm) :
    rightE (asmA k sh cm l) = if 262144 < wt (asmA k sh cm l) then 21 else 0 := by
  have hNN := (right_def.1 hrc).2.1
  have hNs := (right_def.1 hrs).2.1
  have hps : pr sh = (prN sh : Int) := by have := pr_nn hNs; unfold prN; omega
  have hk' : ¬ (k < 1 ∨ 3 < k) := by omega
  have hd : dimsE sh = 0 := (dimsE_right _).2 hrs
  have fin : ∀ (nu : List Int) (it : List Arr), (k = 3 → nu = [] ∧ it.length = prN sh) → (k ≠ 3 → it = [] ∧ nu.length = prN sh) → (∀ x ∈ nu, elemB k x = true) → (∀ B ∈ it, (chk B).1 = 0 ∧ (chk B).2 + 1 ≤ 16) → rightE (.mk k sh nu it) = if 262144 < wt (.mk k sh nu it) then 21 else 0 := by
    intro nu it h3 h4 hnu hit
    have hlen : ¬ ((aSize (.mk k sh nu it) : Int) ≠ pr sh ∨ 0 < other k nu it) := by
      by_cases hk3 : k = 3
      · obtain ⟨q1, q2⟩ := h3 hk3
        subst hk3; subst q1
        rw [aSize_box, hps, other, if_pos rfl, q2]
        simp
      · obtain ⟨q1, q2⟩ := h4 hk3
        subst q1
        rw [aSize_num hk3 hk.1 hk.2, hps, other, if_neg hk3, q2]
        simp
    obtain ⟨e, he, hed⟩ := chkL_of 16 it 0 (by decide) hit
    rw [rightE, chk_rest hk' hd hlen (List.all_eq_true.2 hnu), he]
    show (lastE e _).1 = _
    unfold lastE
    by_cases hw : 262144 < wt (.mk k sh nu it)
    · rw [if_pos (Or.inr hw), if_pos hw]
    · rw [if_neg (by omega), if_neg hw]
  rw [asmA]
  refine fin _ _ (fun hk3 => ?_) (fun hk3 => ?_) (fun x hx => ?_) (fun B hB => ?_)
  · rw [if_pos hk3, if_pos hk3]
    refine ⟨rfl, ?_⟩
    rw [hp]
    exact done_len (partI cm) (prN cm) l (fun A hA => by
      have o := hok A hA
      rw [partI, padS_len _ _ _ _ (by rw [leadS_len o.len]) hNN (leadS_NN o.nn) (by rw [leadS_prN o.nn]; exact (o.items hk3).1)])
  · rw [if_neg hk3, if_neg hk3]
    refine ⟨rfl, ?_⟩
    rw [hp]
    exact done_len (partN k cm) (prN cm) l (fun A hA => by
      have o := hok A hA
      rw [partN, padS_len _ _ _ _ (by rw [leadS_len o.len]) hNN (leadS_NN o.nn) (by rw [leadS_prN o.nn]; exact (o.nums hk3).1)])
  · by_cases hk3 : k = 3
    · rw [if_pos hk3] at hx; cases hx
    · rw [if_neg hk3] at hx
      obtain ⟨p, hp', hxp⟩ := List.mem_flatten.1 hx
      obtain ⟨A, hA, rfl⟩ := List.mem_map.1 hp'
      rcases padS_mem _ _ _ _ x hxp with h1 | h1
      · rw [h1]; exact fillZ_elem hk
      · have := (right_more (hl A hA)).1 x h1
        rw [(hok A hA).kind] at this
        exact this
  · by_cases hk3 : k = 3
    · rw [if_pos hk3] at hB
      obtain ⟨p, hp', hxp⟩ := List.mem_flatten.1 hB
      obtain ⟨A, hA, rfl⟩ := List.mem_map.1 hp'
      rcases padS_mem _ _ _ _ B hxp with h1 | h1
      · rw [h1]; exact fillI_chk
      · exact (right_more (hl A hA)).2 B h1
    · rw [if_neg hk3] at hB; cases hB
/-- What checked gives. -/
def outR (A : Arr) : Arr × Int := if rightE A = 0 then (A, 0) else (zeroA, 21)
theorem outR_asm {k : Int} {sh cm : List Int} {l : List Arr} (hl : ∀ A ∈ l, rightE A = 0) (hok : ∀ A ∈ l, Okay k cm A) (hk : 1 ≤ k ∧ k ≤ 3) (hrs : rightB sh = true) (hrc : rightB cm = true) (hp : prN sh = l.length * prN cm) : outR (asmA k sh cm l) = outA (asmA k sh cm l) := by
  have h := asm_chk hl hok hk hrs hrc hp
  rw [outR, outA, h]
  by_cases hw : 262144 < wt (asmA k sh cm l)
  · rw [if_pos hw, if_pos hw, if_neg (by decide)]
  · rw [if_neg hw, if_neg hw, if_pos rfl]
end Go.Proofs.Ytkjbccodahleoaa.Shape

namespace Go.Proofs.Ytkjbccodahleoaa.Shape
open Go.RowKit
set_option linter.unusedVariables false

theorem shpS_zero : ∀ (s t : List Int), s.length = t.length → (shpS s t = 0 ↔ s = t)
  | [], [], _ => by simp [shpS]
  | [], _ :: _, h => by simp at h
  | _ :: _, [], h => by simp at h
  | x :: s, y :: t, h => by
    rw [shpS]
    by_cases e : x = y
    · subst e
      rw [if_neg (fun g => g rfl), shpS_zero s t (by simpa using h)]
      simp
    · rw [if_pos e]
      constructor
      · intro g; exact absurd (sgn_zero.1 g) e
      · intro g; exact absurd (List.cons.inj g).1 e
theorem cntS_zero (el : Nat → Nat → Int) : ∀ (ss : List Int) (i k : Nat), NN ss → (cntS el ss ss i k = 0 ↔ ∀ j, j < prN ss → el (i + j) (k + j) = 0)
  | [], i, k, _ => by
    rw [cntS_nil, prN_nil]
    constructor
    · intro h j hj
      obtain rfl : j = 0 := by omega
      exact h
    · intro h; exact h 0 (by omega)
  | s :: ss, i, k, hN => by
    have e : sgn s s = 0 := sgn_zero.2 rfl
    have hz : (cntS el (s :: ss) (s :: ss) i k = 0) ↔ firstN (fun c => cntS el ss ss (i + c * prN ss) (k + c * prN ss)) 0 s.toNat = 0 := by
      rw [cntS_cons, e, Int.min_self]
      generalize firstN (fun c => cntS el ss ss (i + c * prN ss) (k + c * prN ss)) 0 s.toNat = x
      by_cases hx : x = 0 <;> simp [hx]
    rw [hz, firstN_zero, prN_cons hN.head hN.tail]
    constructor
    · intro h j hj
      have hp : 0 < prN ss := by
        rcases Nat.eq_zero_or_pos (prN ss) with g | g
        · rw [g] at hj; omega
        · exact g
      have hm : j % prN ss < prN ss := Nat.mod_lt _ hp
      have hd : j / prN ss < s.toNat := (Nat.div_lt_iff_lt_mul hp).2 hj
      have h1 := (cntS_zero el ss _ _ hN.tail).1 (h (j / prN ss) (Nat.zero_le _) (by rw [Nat.zero_add]; exact hd)) (j % prN ss) hm
      have e2 : j / prN ss * prN ss + j % prN ss = j := by rw [Nat.mul_comm]; exact Nat.div_add_mod j _
      rw [Nat.add_assoc, Nat.add_assoc, e2] at h1
      exact h1
    · intro h c _ hc
      refine (cntS_zero el ss _ _ hN.tail).2 fun j hj => ?_
      have h5 : (c + 1) * prN ss ≤ s.toNat * prN ss := Nat.mul_le_mul_right _ (by omega)
      rw [Nat.succ_mul] at h5
      have := h (c * prN ss + j) (by omega)
      rwa [← Nat.add_assoc, ← Nat.add_assoc] at this
theorem list_eq {xs ys : List Int} (hl : xs.length = ys.length) : (∀ j, j < xs.length → xs.getD j 0 = ys.getD j 0) ↔ xs = ys := by
  constructor
  · intro h
    refine List.ext_getElem hl fun j h1 h2 => ?_
    have := h j h1
    rw [List.getD_eq_getElem?_getD, List.getD_eq_getElem?_getD] at this
    simpa [h1, h2] using this
  · rintro rfl j _; rfl
theorem eqL_iff : ∀ (l m : List Arr), eqL l m = true ↔ l.length = m.length ∧ ∀ j, j < l.length → eqA (l.getD j arr0) (m.getD j arr0) = true
  | [], [] => by rw [eqL]; simp
  | [], _ :: _ => by rw [eqL] <;> simp
  | _ :: _, [] => by rw [eqL] <;> simp
  | A :: r, B :: s => by
    rw [eqL, Bool.and_eq_true, eqL_iff r s]
    constructor
    · rintro ⟨h1, h2, h3⟩
      refine ⟨by simp [h2], fun j hj => ?_⟩
      cases j with
      | zero => simpa using h1
      | succ j => simpa using h3 j (by simpa using hj)
    · rintro ⟨h1, h2⟩
      refine ⟨by simpa using h2 0 (by simp), by simpa using h1, fun j hj => ?_⟩
      have := h2 (j + 1) (by simpa using hj)
      simpa using this
theorem eqA_iff (A B : Arr) : eqA A B = true ↔ A.kind = B.kind ∧ A.shape = B.shape ∧ A.nums = B.nums ∧ eqL A.items B.items = true := by
  obtain ⟨k, sh, nu, it⟩ := A
  obtain ⟨k2, sh2, nu2, it2⟩ := B
  rw [eqA]
  simp only [Arr.kind, Arr.shape, Arr.nums, Arr.items, Bool.and_eq_true, beq_iff_eq, sameB, decide_eq_true_eq]
  constructor
  · rintro ⟨⟨⟨h1, h2⟩, h3⟩, h4⟩; exact ⟨h1, h2, h3, h4⟩
  · rintro ⟨h1, h2, h3, h4⟩; exact ⟨⟨⟨h1, h2⟩, h3⟩, h4⟩
theorem item_right {A : Arr} (hx : rightE A = 0) {j : Nat} (hj : j < A.items.length) : rightE (A.items.getD j arr0) = 0 := by
  rw [List.getD_eq_getElem?_getD]
  simp only [List.getElem?_eq_getElem hj, Option.getD_some]
  exact ((right_more hx).2 _ (List.getElem_mem hj)).1
theorem item_rank {A : Arr} {n : Nat} (hr : rk A ≤ n + 1) {j : Nat} (hj : j < A.items.length) : rk (A.items.getD j arr0) ≤ n := by
  rw [List.getD_eq_getElem?_getD]
  simp only [List.getElem?_eq_getElem hj, Option.getD_some]
  obtain ⟨k, sh, nu, it⟩ := A
  exact Nat.le_of_lt_succ (Nat.lt_of_lt_of_le (rk_item hj) hr)
theorem cmpF_zero : ∀ (n : Nat) (A B : Arr), rk A ≤ n → rightE A = 0 → rightE B = 0 → (cmpF n A B = 0 ↔ eqA A B = true)
  | 0, A, B, hr, _, _ => by obtain ⟨k, sh, nu, it⟩ := A; rw [rk] at hr; omega
  | n + 1, A, B, hr, hA, hB => by
    obtain ⟨-, -, lA3, lA4, -⟩ := right_lens hA
    obtain ⟨-, -, lB3, lB4, -⟩ := right_lens hB
    have nA := (right_def.1 (right_short hA)).2.1
    rw [eqA_iff, cmpF_succ]
    by_cases hk : A.kind = B.kind
    · rw [if_neg (fun g => g hk)]
      by_cases hl : A.shape.length = B.shape.length
      · rw [if_neg (fun g => g hl)]
        by_cases hs : A.shape = B.shape
        · have hz : (if cntS (elS n A B) A.shape B.shape 0 0 ≠ 0 then cntS (elS n A B) A.shape B.shape 0 0 else shpS A.shape B.shape) = 0 ↔ cntS (elS n A B) A.shape A.shape 0 0 = 0 := by
            rw [← hs, (shpS_zero A.shape A.shape rfl).2 rfl]
            generalize cntS (elS n A B) A.shape A.shape 0 0 = x
            by_cases hx : x = 0 <;> simp [hx]
          rw [hz, cntS_zero _ _ _ _ nA]
          simp only [Nat.zero_add]
          by_cases h3 : A.kind = 3
          · have h3' : B.kind = 3 := hk ▸ h3
            obtain ⟨p1, p2⟩ := lA4 h3
            obtain ⟨q1, q2⟩ := lB4 h3'
            have hel : ∀ j, elS n A B j j = cmpF n (A.items.getD j arr0) (B.items.getD j arr0) := fun j => by unfold elS; rw [if_pos h3]
            rw [p2, q2, eqL_iff, p1, q1, ← hs]
            constructor
            · intro h
              refine ⟨hk, rfl, rfl, rfl, fun j hj => ?_⟩
              have := h j hj
              rw [hel] at this
              exact (cmpF_zero n _ _ (item_rank hr (by rw [p1]; exact hj)) (item_right hA (by rw [p1]; exact hj)) (item_right hB (by rw [q1, ← hs]; exact hj))).1 this
            · rintro ⟨-, -, -, -, h⟩ j hj
              rw [hel]
              exact (cmpF_zero n _ _ (item_rank hr (by rw [p1]; exact hj)) (item_right hA (by rw [p1]; exact hj)) (item_right hB (by rw [q1, ← hs]; exact hj))).2 (h j hj)
          · have h3' : B.kind ≠ 3 := fun g => h3 (hk.trans g)
            obtain ⟨p1, p2⟩ := lA3 h3
            obtain ⟨q1, q2⟩ := lB3 h3'
            have hel : ∀ j, elS n A B j j = sgn (A.nums.getD j 0) (B.nums.getD j 0) := fun j => by unfold elS; rw [if_neg h3]
            have hln : A.nums.length = B.nums.length := by rw [p1, q1, hs]
            rw [p2, q2, ← list_eq hln, p1]
            constructor
            · intro h
              refine ⟨hk, hs, fun j hj => ?_, by rw [eqL]⟩
              have := h j hj
              rw [hel] at this
              exact sgn_zero.1 this
            · rintro ⟨-, -, h, -⟩ j hj
              rw [hel]
              exact sgn_zero.2 (h j hj)
        · have hn : shpS A.shape B.shape ≠ 0 := fun g => hs ((shpS_zero _ _ hl).1 g)
          constructor
          · intro h
            by_cases hc : cntS (elS n A B) A.shape B.shape 0 0 = 0
            · rw [if_neg (fun g => g hc)] at h; exact absurd h hn
            · rw [if_pos hc] at h; exact absurd h hc
          · rintro ⟨-, h, -⟩; exact absurd h hs
      · rw [if_pos hl]
        constructor
        · intro h; have := sgn_zero.1 h; exact absurd (by omega) hl
        · rintro ⟨-, h, -⟩; exact absurd (by rw [h]) hl
    · rw [if_pos hk]
      constructor
      · intro h; exact absurd (sgn_zero.1 h) hk
      · rintro ⟨h, -⟩; exact absurd h hk
theorem nna_right : ∀ (n : Nat) (A : Arr), rightE A = 0 → NNA n A
  | 0, _, _ => trivial
  | n + 1, A, h => ⟨(right_def.1 (right_short h)).2.1, fun B hB => nna_right n B ((right_more h).2 B hB).1⟩
theorem cmpF_beq (n : Nat) (A B : Arr) (hr : rk A ≤ n) (hA : rightE A = 0) (hB : rightE B = 0) : (cmpF n A B == 0) = eqA A B := by
  have h := cmpF_zero n A B hr hA hB
  by_cases e : eqA A B = true
  · rw [e, h.2 e]; rfl
  · have e' : eqA A B = false := by simpa using e
    rw [e']
    simpa using fun g => e (h.1 g)
end Go.Proofs.Ytkjbccodahleoaa.Shape
