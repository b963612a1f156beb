/-
  Layer 5: the reference's cell and blanks.
  Layer 5: the reference's row.
  Layer 5: the reference's matrix.
  Layer 5: the reference's Lines.
  Layer 5: the reference's lines are the program's: mathematics.
  Layer 5: the reference's Show; how long its text may be.
  Layer 5: what the laws' cards share: the three listed tables as they are laid, a world that holds them, and what the walks read of them.
  Layer 5: FormatLines: the walk.
-/
import Derived.Test.YtngcahaidlgkfaaDoorFmGF
import Derived.Test.YtngcahaidlgkfaaDoorFmGJ
import Derived.Deep.AppendLies
import Derived.Test.YtngcahaidlgkfaaDoorFmGD
import Derived.Test.YtngcahaidlgkfaaDoorArrWeight
import Derived.Test.YtngcahaidlgkfaaDoorCards
import Derived.Test.YtngcahaidlgkfaaDoorTie
import Derived.Lib.LaidIn
import Derived.Lib.LaidTab
import Derived.Lib.LaidU8T
import Derived.Deep.DeepHandedRow
import Derived.Deep.DeepWitnessRowRef
import Derived.SevenTiedAt
import Derived.ProofKit
import Derived.SizedLaws
import Derived.RegionTactic
import Derived.Deep.RegionHeld3
namespace Go.Proofs.YtngcahaidlgkfaaDoor.Shape
open Go.RowKit Go.Proofs.YtngcahaidlgkfaaDoor.Num
set_option linter.unusedVariables false
set_option linter.unusedSimpArgs false

theorem box_bytes (A : Arr) : (⟨#[91]⟩ ++ litB A ++ ⟨#[93]⟩ : ByteArray) = ⟨(boxS A).toArray⟩ := by
  unfold litB boxS
  apply ByteArray.ext
  simp
theorem fb91 : (ByteArray.mk #[91]).size = 1 := rfl
theorem fb93 : (ByteArray.mk #[93]).size = 1 := rfl
set_option maxRecDepth 100000 in
set_option maxHeartbeats 4000000 in
theorem cellTR (A : Arr) (v : Value) (w : World) (h : ArrAt w v A) (hx : rightE A = 0) (hw : wt A ≤ 400) (hR : Reach A) (i : Nat) (hi : i < (ctT A).length) :
    Calls Tryd.prog 45 #[v, .int .i64 (i : Int)] w fun e w' => e = .returned (.string ⟨((ctT A)[i]).toArray⟩) ∧ Below w.heap.size w w' := by
  obtain ⟨k, sh, nu, it⟩ := A
  have V := val_of hx
  have hk := V.kind
  have hwf := wt_few hw
  have hsn := sumW_nn it
  rw [ArrAt] at h
  obtain ⟨sa, sc, na, nc, ia, ic, rfl, -, -, hn, hi1, hi2, b, off, ha, hc⟩ := h
  have bw := below_new w (.cells #[.int .i64 k, .slice sa sh.length sc, .slice na nu.length nc, .slice ia it.length ic] 26)
  obtain ⟨p0, p1, p2, p3, -⟩ := (Quad.new w (.int .i64 k) (.slice sa sh.length sc) (.slice na nu.length nc) (.slice ia it.length ic)).cells
  have hn0 := hn.below bw
  have hc0 := ArrsAt.below bw hc
  obtain ⟨w0, hw0⟩ : ∃ w0, w.alloc (.cells #[.int .i64 k, .slice sa sh.length sc, .slice na nu.length nc, .slice ia it.length ic] 26) = w0 := ⟨_, rfl⟩
  rw [hw0] at bw p0 p1 p2 p3 hn0 hc0
  obtain ⟨t, ht⟩ : ∃ t, Hid ((ctT (.mk k sh nu it))[i] = t) := ⟨_, Lib.hid rfl⟩
  rw [ht.out]
  by_cases hk3 : k = 3
  · subst hk3
    have e : ctT (.mk 3 sh nu it) = it.map boxS := by rw [ctT, if_neg (by decide), if_neg (by decide)]
    have hil : i < it.length := by rw [e, List.length_map] at hi; exact hi
    have et : t = boxS it[i] := by rw [← ht.out]; simp only [e, List.getElem_map]
    obtain ⟨d0, d1, d2, d3, ⟨m0, m1, m2, m3⟩, hA⟩ := ArrsAt.at hc0 hil
    have hix := items_at (ia := ia) (b := b) (off := off) (l := it) (ic := ic) rfl ha hil
    have hj2 := sumW_ge hil
    have hwj : wt it[i] ≤ 400 := by rw [if_pos rfl] at hwf; omega
    have hvj := V.items i hil
    have hlen := lit_len (rk it[i]) it[i] (Nat.le_refl _) hvj hwj
    have HL := litR (rk it[i]) it[i] (Nat.le_refl _) hvj hwj (reachL_at (reach_items hR) hil) _ _ hA
    have hsz : (litB it[i]).size ≤ 200000 := by unfold litB; have := wt_nn it[i]; simp [ByteArray.size]; omega
    have a1 := fun w => run_string_add_sum (P := Tryd.prog) w ⟨#[91]⟩ (litB it[i]) (by rw [fb91]; omega)
    have a2 := fun w => run_string_add_sum (P := Tryd.prog) w (⟨#[91]⟩ ++ litB it[i]) ⟨#[93]⟩ (by rw [ByteArray.size_append, fb91, fb93]; omega)
    rw [box_bytes] at a2
    rw [et]
    clear hlen hj2 ht et e
    generalize it[i] = B at *
    go_enter Tryd.func45, Tryd.ntmps45
    go_wp2_with (go_at_call 20; (with_reducible refine HL.mono ?_); rintro e w1 ⟨rfl, hb1⟩)
    go_ret
    exact ⟨rfl, Below.then bw hb1⟩
  · have hil : i < nu.length := by
      have := ctT_len hx
      rw [this, size12 (A := .mk k sh nu it) hk3 hk] at hi
      exact hi
    obtain ⟨bs, os, hix, hcell⟩ := hn0.at hil
    have hbx : -9223372036854775808 ≤ nu[i] ∧ nu[i] ≤ 9223372036854775807 := hn.2.2.1 _ (List.getElem_mem _)
    by_cases hk1 : k = 1
    · subst hk1
      have e : ctT (.mk 1 sh nu it) = nu.map shL := by rw [ctT, if_pos rfl]
      have et : t = shL nu[i] := by rw [← ht.out]; simp only [e, List.getElem_map]
      have SR := fun w => Num.showR nu[i] w hbx.1 hbx.2
      unfold shS at SR
      rw [← et] at SR
      clear et e ht
      generalize nu[i] = x at *
      go_enter Tryd.func45, Tryd.ntmps45
      go_wp2_with (go_at_call 59; (with_reducible refine (SR _).mono ?_); rintro e w1 ⟨rfl, hb1⟩)
      go_ret
      exact ⟨rfl, Below.then bw hb1⟩
    · obtain rfl : k = 2 := by omega
      have e : ctT (.mk 2 sh nu it) = nu.map visS := by rw [ctT, if_neg (by decide), if_pos rfl]
      have et : t = visS nu[i] := by rw [← ht.out]; simp only [e, List.getElem_map]
      obtain ⟨hx0, hx1⟩ := chars_bd V.elems nu[i] (List.getElem_mem _)
      clear e ht
      generalize nu[i] = x at *
      subst et
      by_cases ha : x < 32
      · have e : visS x = [63] := by rw [visS, if_pos (Or.inl ha)]
        rw [e]
        go_enter Tryd.func45, Tryd.ntmps45
        go_wp2_with fail
        go_ret
        exact ⟨rfl, bw⟩
      by_cases hb : 126 < x
      · have e : visS x = [63] := by rw [visS, if_pos (Or.inr hb)]
        rw [e]
        go_enter Tryd.func45, Tryd.ntmps45
        go_wp2_with fail
        go_ret
        exact ⟨rfl, bw⟩
      · have e : visS x = enc x := by rw [visS, if_neg (by omega)]
        rw [e]
        have hw : IntKind.i32.wrap x = x := by unfold IntKind.wrap; simp [IntKind.bits, IntKind.signed]; omega
        go_enter Tryd.func45, Tryd.ntmps45
        go_wp2_with fail
        go_ret
        exact ⟨rfl, bw⟩

/-- m blanks. -/
def blk (m : Nat) : ByteArray := ⟨(List.replicate m 32).toArray⟩
theorem blk_size (m : Nat) : (blk m).size = m := by simp [blk, ByteArray.size]
theorem blk_add (m n : Nat) : blk m ++ blk n = blk (m + n) := by
  apply ByteArray.ext
  simp [blk, List.replicate_append_replicate]
theorem blk_cut (m n : Nat) (h : n ≤ m) : (blk m).extract 0 n = blk n := by
  apply ByteArray.ext
  simp [blk, ByteArray.data_extract, Nat.min_eq_left h]
def szOf : Value → Nat
  | .string b => b.size
  | _ => 0
set_option maxRecDepth 100000 in
set_option maxHeartbeats 2000000 in
theorem blanksR (n : Int) (w : World) (h0 : -1000000 ≤ n) (h1 : n ≤ 1000000) :
    Calls Tryd.prog 46 #[.int .i64 n] w fun e w' => e = .returned (.string (blk n.toNat)) ∧ Below w.heap.size w w' := by
  have e1 : (ByteArray.mk #[32]) = blk 1 := rfl
  go_enter Tryd.func46, Tryd.ntmps46
  go_wp2_with fail
  go_loopw [3] (fun s wr => ∃ m : Nat, 0 < m ∧ m ≤ 3000000 ∧ s = .string (blk m) ∧ Below w.heap.size w wr) (fun s _ => 4000000 - szOf s)
  case atStart => exact ⟨1, by decide, by decide, rfl, Below.refl _ _⟩
  case round =>
    obtain ⟨m, hm0, hm, rfl, hb⟩ := hrel
    have hsz := blk_size m
    by_cases hlt : (m : Int) < n
    · have a1 := fun w => run_string_add_sum (P := Tryd.prog) w (blk m) (blk m) (by rw [hsz]; omega)
      rw [blk_add] at a1
      go_wp2_with fail
      go_roundw
      case rel => exact ⟨m + m, by omega, by omega, rfl, hb⟩
      case measure => simp [szOf, blk_size]; omega
    · have hcut : (blk m).extract 0 (max n 0).toNat = blk n.toNat := by
        rw [show (max n 0).toNat = n.toNat by omega]
        exact blk_cut _ _ (by omega)
      go_wp2_with fail
      go_ret
      exact ⟨rfl, hb⟩
end Go.Proofs.YtngcahaidlgkfaaDoor.Shape

namespace Go.Proofs.YtngcahaidlgkfaaDoor.Shape
open Go.RowKit Go.Proofs.YtngcahaidlgkfaaDoor.Num
set_option linter.unusedVariables false
set_option linter.unusedSimpArgs false

theorem ctT_bd2 {k : Int} {sh nu : List Int} {it : List Arr} (h : rightE (.mk k sh nu it) = 0) (hw : wt (.mk k sh nu it) ≤ 400) : ∀ t ∈ ctT (.mk k sh nu it), t.length ≤ 210000 := by
  have V := val_of h
  have hk := V.kind
  have hwf := wt_few hw
  have hsn := sumW_nn it
  intro t ht
  rw [ctT] at ht
  by_cases h1 : k = 1
  · subst h1
    rw [if_pos rfl] at ht
    obtain ⟨x, hx, rfl⟩ := List.mem_map.1 ht
    have he := V.elems x hx
    have := mem_tot _ _ ht
    have := ints_tot nu V.elems
    have hs : aSize (.mk 1 sh nu it) = nu.length := size12 (by simp [Arr.kind]) (by simp [Arr.kind])
    rw [if_neg (by decide)] at hwf
    omega
  · by_cases h2 : k = 2
    · subst h2
      rw [if_neg (by decide), if_pos rfl] at ht
      obtain ⟨x, _, rfl⟩ := List.mem_map.1 ht
      rw [visS]
      split
      · decide
      · have := enc_len x; omega
    · obtain rfl : k = 3 := by omega
      rw [if_neg (by decide), if_neg (by decide)] at ht
      obtain ⟨A, hA, rfl⟩ := List.mem_map.1 ht
      obtain ⟨j, hj, rfl⟩ := List.mem_iff_getElem.1 hA
      rw [if_pos rfl] at hwf
      have hj2 := sumW_ge hj
      have hlen := lit_len (rk it[j]) it[j] (Nat.le_refl _) (V.items j hj) (by omega)
      have hnn := wt_nn it[j]
      have : (litS it[j]).length ≤ 200000 := by omega
      rw [boxS, List.length_cons, List.length_append, List.length_singleton]
      omega
/-- The padded texts of a row: f: the first text's number. -/
def rowG (ws : List Int) (T : List (List UInt8)) (f : Nat) : List (List UInt8) := (List.range ws.length).map fun c => padS (ws.getD c 0).toNat (T.getD (f + c) [])
theorem joinTail_snoc (sep x : List UInt8) (r : List (List UInt8)) : Lib.joinTail sep (r ++ [x]) = Lib.joinTail sep r ++ (sep ++ x) := by simp [Lib.joinTail]
theorem join_snoc (sep x : List UInt8) : ∀ (l : List (List UInt8)), l ≠ [] → Lib.join (l ++ [x]) sep = Lib.join l sep ++ sep ++ x
  | [], h => absurd rfl h
  | y :: r, _ => by rw [List.cons_append, Lib.join_cons, Lib.join_cons, joinTail_snoc]; simp
theorem pad_bytes (x : Int) (t : List UInt8) : (blk (x - (t.length : Int)).toNat ++ ⟨t.toArray⟩ : ByteArray) = ⟨(padS x.toNat t).toArray⟩ := by
  have e : (x - (t.length : Int)).toNat = x.toNat - t.length := by omega
  unfold blk padS
  rw [e]
  apply ByteArray.ext
  simp
theorem pad_len (x : Int) (t : List UInt8) (m : Nat) (h1 : x ≤ m) (h2 : t.length ≤ m) : (padS x.toNat t).length ≤ m := by
  rw [padS, List.length_append, List.length_replicate]; omega
set_option maxRecDepth 100000 in
set_option maxHeartbeats 8000000 in
theorem rowR (A : Arr) (v : Value) (w : World) (h : ArrAt w v A) (hx : rightE A = 0) (hw : wt A ≤ 400) (hR : Reach A) (f : Nat) (ws : List Int) (wa : Option Addr) (wc : Nat) (hi : IntsAt w wa wc ws) (hb0 : ∀ x ∈ ws, 0 ≤ x ∧ x ≤ 210000) (hl : f + ws.length ≤ (ctT A).length) :
    Calls Tryd.prog 27 #[v, .int .i64 (f : Int), .slice wa ws.length wc] w fun e w' => e = .returned (.string ⟨(Lib.join (rowG ws (ctT A) f) (sepK A.kind)).toArray⟩) ∧ Below w.heap.size w w' := by
  obtain ⟨k, sh, nu, it⟩ := A
  have hbd := ctT_bd2 hx hw
  have hN := ctT_len hx
  have hwf := wt_few hw
  have hsn := sumW_nn it
  have hN4 : aSize (.mk k sh nu it) ≤ 400 := by
    split at hwf <;> omega
  have cC := fun (W : World) (g : ArrAt W v (.mk k sh nu it)) (i : Nat) (q : i < (ctT (.mk k sh nu it)).length) => cellTR _ v W g hx hw hR i q
  simp only [Arr.kind]
  have hA := h
  rw [ArrAt] at h
  obtain ⟨sa, sc, na, nc, ia, ic, rfl, -⟩ := h
  have bw := below_new w (.cells #[.int .i64 k, .slice sa sh.length sc, .slice na nu.length nc, .slice ia it.length ic] 26)
  have q0 := Quad.new w (.int .i64 k) (.slice sa sh.length sc) (.slice na nu.length nc) (.slice ia it.length ic)
  have hA0 := hA.below bw
  have hi0 := hi.below bw
  obtain ⟨w0, hw0⟩ : ∃ w0, w.alloc (.cells #[.int .i64 k, .slice sa sh.length sc, .slice na nu.length nc, .slice ia it.length ic] 26) = w0 := ⟨_, rfl⟩
  rw [hw0] at bw q0 hA0 hi0
  obtain ⟨T, hT⟩ : ∃ T, ctT (.mk k sh nu it) = T := ⟨_, rfl⟩
  rw [hT] at hbd hN cC hl ⊢
  obtain ⟨n, hn⟩ : ∃ n, ws.length = n := ⟨_, rfl⟩
  have Hn : Hid (ws.length = n) := hn
  have hix : ∀ (j : Nat) (hj : j < n), ∃ (b off : Nat) (x : Int), x ∈ ws ∧ ws.getD j 0 = x ∧ (∀ w' : World, (Instr.indexAt 23 (.slice wa n wc) (.int .i64 (j : Int))).run Tryd.prog w' = .ok (.pointer (some ⟨b, off + j, none⟩)) w') ∧ w0.cell? ⟨b, off + j, none⟩ = some (.int .i64 x) := fun j hj => by
    obtain ⟨b, off, h1, h2⟩ := hi0.at (k := j) (by omega)
    have h1' := h1
    rw [hn] at h1'
    exact ⟨b, off, ws[j], List.getElem_mem _, by rw [List.getD_eq_getElem?_getD, List.getElem?_eq_getElem (by omega)]; rfl, h1', h2⟩
  rw [hn] at hl ⊢
  have hrl : (rowG ws T f).length = n := by rw [rowG, List.length_map, List.length_range, hn]
  have hrb : ∀ x ∈ rowG ws T f, x.length ≤ 210000 := fun x hx => by
    rw [rowG] at hx
    obtain ⟨c, hc, rfl⟩ := List.mem_map.1 hx
    have hc2 := List.mem_range.1 hc
    refine pad_len _ _ 210000 ?_ ?_
    · rw [List.getD_eq_getElem?_getD, List.getElem?_eq_getElem hc2]; have := (hb0 ws[c] (List.getElem_mem _)).2; simpa using this
    · rw [List.getD_eq_getElem?_getD, List.getElem?_eq_getElem (by omega)]; exact hbd _ (List.getElem_mem _)
  have HLn : Hid (∀ j, (Lib.join ((rowG ws T f).take j) (sepK k)).length ≤ 90000000) := fun j => by
    have h1 := join_bd (sepK k) 210000 ((rowG ws T f).take j) (fun x hx => hrb x (List.mem_of_mem_take hx))
    have h2 := sepK_len k
    have h3 : ((rowG ws T f).take j).length ≤ 400 := by rw [List.length_take]; omega
    have h4 : ((rowG ws T f).take j).length * (210000 + (sepK k).length) ≤ 400 * 210010 := Nat.mul_le_mul h3 (by omega)
    omega
  have hat : ∀ j (hj : j < n), (rowG ws T f)[j]'(by omega) = padS (ws.getD j 0).toNat (T[f + j]'(by omega)) := fun j hj => by
    simp only [rowG, List.getElem_map, List.getElem_range]
    rw [List.getD_eq_getElem?_getD (l := T), List.getElem?_eq_getElem (by omega)]
    rfl
  have Hat := Lib.hid hat
  have hsnc : ∀ j (hj : j < n), Lib.join ((rowG ws T f).take (j + 1)) (sepK k) = Lib.join ((rowG ws T f).take j) (sepK k) ++ (if j = 0 then [] else sepK k) ++ (rowG ws T f)[j]'(by omega) := fun j hj => by
    rw [List.take_succ_eq_append_getElem (by omega)]
    by_cases h0 : j = 0
    · subst h0; simp [Lib.join_one, Lib.join_nil]
    · rw [if_neg h0, join_snoc _ _ _ (by
        intro e
        have := congrArg List.length e
        rw [List.length_take, hrl, List.length_nil] at this
        omega)]
  have hlit := OB.lit w0 #[] [] (by rfl) (by decide)
  have hbl := below_new w0 (.cells #[] 5)
  clear hwf hat
  go_enter Tryd.func27, Tryd.ntmps27
  go_wp2_with fail
  go_loopw [7, 8] (fun t i wr => ∃ (j : Nat) (L : List UInt8), j ≤ n ∧ i = .int .i64 j ∧ Hid (L = Lib.join ((rowG ws T f).take j) (sepK k)) ∧ OB wr w0.heap.size t L ∧ Below w0.heap.size w0 wr) (fun _ i _ => n - (intOf i).toNat)
  case atStart => exact ⟨0, [], Nat.zero_le _, rfl, rfl, hlit, hbl⟩
  case round =>
    clear hlit hbl
    obtain ⟨j, L, hj, rfl, hLj, hO, hb⟩ := hrel
    obtain ⟨p0, p1, p2, p3, -⟩ := (q0.below hb).cells
    have hLl : L.length ≤ 90000000 := by rw [hLj.out]; exact HLn.out j
    by_cases hlt : j < n
    · obtain ⟨bs, os, x, hxm, hxx, hixj, hcj⟩ := hix j hlt
      have hfl : f + j < T.length := by omega
      have hbx := hb0 _ hxm
      have hbt := hbd _ (List.getElem_mem hfl)
      have hpe := Hat.out j hlt
      have hsj := hsnc j hlt
      rw [hpe, hxx] at hsj
      have hcc := fun W g => cC W g (f + j) hfl
      obtain ⟨t, htt⟩ : ∃ t, T[f + j] = t := ⟨_, rfl⟩
      rw [htt] at hbt hsj hcc
      have hpl := pad_len x t 210000 hbx.2 hbt
      have hts : (ByteArray.mk t.toArray).size = t.length := by simp [ByteArray.size]
      have hbk := fun W => blanksR (x - (t.length : Int)) W (by omega) (by omega)
      have htn : (x - (t.length : Int)).toNat = x.toNat - t.length := by omega
      have a1 := fun w => run_string_add_sum (P := Tryd.prog) w (blk (x.toNat - t.length)) ⟨t.toArray⟩ (by rw [blk_size, hts]; omega)
      have hpb := pad_bytes x t
      rw [htn] at hpb hbk
      generalize hpp : padS x.toNat t = S at *
      have Hpb := Lib.hid hpb
      clear hpb htn
      have hfj : ((f + j : Nat) : Int) = (f : Int) + (j : Int) := by omega
      rw [hfj] at hcc
      clear hpe htt hxx hpp hxm
      by_cases h0 : j = 0
      · have hLs : Hid (L ++ S = Lib.join ((rowG ws T f).take (j + 1)) (sepK k)) := by
          unfold Hid
          rw [hsj, hLj.out, if_pos h0, List.append_nil]
        clear hsj hsnc
        subst h0
        have hi0 : ∀ W : World, (Instr.indexAt 23 (.slice wa n wc) (.int .i64 0)).run Tryd.prog W = .ok (.pointer (some ⟨bs, os, none⟩)) W := hixj
        have hcc0 : ∀ W (g : ArrAt W _ (.mk k sh nu it)), Calls Tryd.prog 45 #[_, .int .i64 (f : Int)] W fun e w' => e = .returned (.string ⟨t.toArray⟩) ∧ Below W.heap.size W w' := fun W g => by
          have := hcc W g
          rw [show ((f : Int) + ((0 : Nat) : Int)) = (f : Int) by omega] at this
          exact this
        rw [Nat.add_zero] at hcj
        clear hixj hcc
        go_wp2_with (first
          | (go_at_call 45; (with_reducible refine (hcc0 _ (hA0.below hb)).mono ?_); rintro e w3 ⟨rfl, hb3⟩; (have hcj3 := ((Below.then hb hb3).cell (cell_lt hcj)).trans hcj))
          | (go_at_call 46; (with_reducible refine (hbk _).mono ?_); rintro e w4 ⟨rfl, hb4⟩)
          | (at_builtin; refine wpList_ob_text rfl _ _ rfl w0 _ rfl L (OB.below (OB.below hO hb3) hb4) (Below.then (Below.then hb hb3) hb4) S _ Hpb.out rfl (by omega) ?_; intro v5 w5 hO5 hb5))
        go_roundw
        case rel => exact ⟨0 + 1, _, by omega, by go_num, hLs, hO5, hb5⟩
        case measure => simp [intOf]; omega
      · have hj0 : (0 : Int) < (j : Int) := by omega
        by_cases h2 : k = 2
        · have hLs : Hid (L ++ S = Lib.join ((rowG ws T f).take (j + 1)) (sepK k)) := by
            unfold Hid
            rw [hsj, hLj.out, if_neg h0]
            conv => rhs; rw [sepK, if_pos h2]
            simp [sepK, h2]
          clear hsj hsnc
          subst h2
          go_wp2_with (first
            | (go_at_call 45; (with_reducible refine (hcc _ (hA0.below hb)).mono ?_); rintro e w3 ⟨rfl, hb3⟩; (have hcj3 := ((Below.then hb hb3).cell (cell_lt hcj)).trans hcj))
            | (go_at_call 46; (with_reducible refine (hbk _).mono ?_); rintro e w4 ⟨rfl, hb4⟩)
            | (at_builtin; refine wpList_ob_text rfl _ _ rfl w0 _ rfl L (OB.below (OB.below hO hb3) hb4) (Below.then (Below.then hb hb3) hb4) S _ Hpb.out rfl (by omega) ?_; intro v5 w5 hO5 hb5))
          go_roundw
          case rel => exact ⟨j + 1, _, by omega, by go_num, hLs, hO5, hb5⟩
          case measure => simp [intOf]; omega
        · have hLs : Hid ((L ++ [32]) ++ S = Lib.join ((rowG ws T f).take (j + 1)) (sepK k)) := by
            unfold Hid
            rw [hsj, hLj.out, if_neg h0]
            simp [sepK, h2]
          have hk2 : (k != 2) = true := by simpa using h2
          clear hsj hsnc
          go_wp2_with (first
            | (at_builtin; refine wpList_append_byte rfl _ _ rfl w0 wr 32 rfl _ rfl L hO hb 32 (by decide) rfl (by omega) ?_; intro v2 w2 hO2 hb2; (obtain ⟨p0', p1', p2', p3', -⟩ := (q0.below hb2).cells))
            | (go_at_call 45; (with_reducible refine (hcc _ (hA0.below hb2)).mono ?_); rintro e w3 ⟨rfl, hb3⟩; (have hcj3 := ((Below.then hb2 hb3).cell (cell_lt hcj)).trans hcj))
            | (go_at_call 46; (with_reducible refine (hbk _).mono ?_); rintro e w4 ⟨rfl, hb4⟩)
            | (at_builtin; refine wpList_ob_text rfl _ _ rfl w0 _ rfl (L ++ [32]) (OB.below (OB.below hO2 hb3) hb4) (Below.then (Below.then hb2 hb3) hb4) S _ Hpb.out rfl (by simp only [List.length_append, List.length_cons, List.length_nil] at *; omega) ?_; intro v5 w5 hO5 hb5))
          go_roundw
          case rel => exact ⟨j + 1, _, by omega, by go_num, hLs, hO5, hb5⟩
          case measure => simp [intOf]; omega
    · obtain rfl : n = j := by omega
      have hq : Hid (L = Lib.join (rowG ws T f) (sepK k)) := by
        unfold Hid
        rw [hLj.out, List.take_of_length_le (by omega)]
      have hcv := conv_text hO
      go_wp2_with fail
      go_ret
      exact ⟨by rw [← hq.out]; rfl, Below.trans bw (hb.mono bw.size)⟩
end Go.Proofs.YtngcahaidlgkfaaDoor.Shape

namespace Go.Proofs.YtngcahaidlgkfaaDoor.Shape
open Go.RowKit Go.Proofs.YtngcahaidlgkfaaDoor.Num
set_option linter.unusedVariables false
set_option linter.unusedSimpArgs false

/-- The greatest length among the first i texts of column c. -/
def colMax (T : List (List UInt8)) (f C c : Nat) : Nat → Int
  | 0 => 0
  | i + 1 => max (colMax T f C c i) ((T.getD (f + i * C + c) []).length : Int)
def colW (T : List (List UInt8)) (f C R : Nat) : List Int := (List.range C).map fun c => colMax T f C c R
/-- The widths behind j columns and i texts of column j. -/
def wsL (T : List (List UInt8)) (f C R j i : Nat) : List Int := (List.range C).map fun c => if c < j then colMax T f C c R else if c = j then colMax T f C j i else 0
def matS (k : Int) (T : List (List UInt8)) (f R C : Nat) : List (List UInt8) := (List.range R).map fun r => Lib.join (rowG (colW T f C R) T (f + r * C)) (sepK k)
theorem colMax_bd (T : List (List UInt8)) (f C c K : Nat) (h : ∀ t ∈ T, t.length ≤ K) : ∀ i, 0 ≤ colMax T f C c i ∧ colMax T f C c i ≤ K
  | 0 => ⟨Int.le_refl _, by simp [colMax]⟩
  | i + 1 => by
    have ih := colMax_bd T f C c K h i
    have : (T.getD (f + i * C + c) []).length ≤ K := by
      by_cases hj : f + i * C + c < T.length
      · rw [List.getD_eq_getElem?_getD, List.getElem?_eq_getElem hj]; exact h _ (List.getElem_mem hj)
      · rw [List.getD_eq_getElem?_getD, List.getElem?_eq_none (by omega)]; simp
    rw [colMax]
    omega
theorem wsL_len (T : List (List UInt8)) (f C R j i : Nat) : (wsL T f C R j i).length = C := by simp [wsL]
theorem wsL_zero (T : List (List UInt8)) (f C R : Nat) : wsL T f C R 0 0 = List.replicate C 0 := by
  refine List.ext_getElem (by simp [wsL]) fun i h1 h2 => ?_
  simp [wsL, colMax]
theorem wsL_next (T : List (List UInt8)) (f C R j : Nat) : wsL T f C R j R = wsL T f C R (j + 1) 0 := by
  refine List.ext_getElem (by simp [wsL]) fun c h1 h2 => ?_
  simp only [wsL, List.getElem_map, List.getElem_range, colMax]
  by_cases h : c < j
  · rw [if_pos h, if_pos (by omega)]
  · by_cases h3 : c = j
    · subst h3; rw [if_neg h, if_pos rfl, if_pos (by omega)]
    · rw [if_neg h, if_neg h3, if_neg (by omega)]; split <;> rfl
theorem wsL_end (T : List (List UInt8)) (f C R : Nat) : wsL T f C R C 0 = colW T f C R := by
  refine List.ext_getElem (by simp [wsL, colW]) fun c h1 h2 => ?_
  simp only [wsL, colW, List.getElem_map, List.getElem_range]
  rw [if_pos (by simpa [wsL] using h1)]
theorem wsL_at (T : List (List UInt8)) (f C R j i : Nat) (h : j < C) : (wsL T f C R j i)[j]'(by rw [wsL_len]; exact h) = colMax T f C j i := by
  simp [wsL]
theorem wsL_set (T : List (List UInt8)) (f C R j i : Nat) (h : j < C) : (wsL T f C R j i).set j (colMax T f C j (i + 1)) = wsL T f C R j (i + 1) := by
  refine List.ext_getElem (by simp [wsL]) fun c h1 h2 => ?_
  rw [List.getElem_set]
  simp only [wsL, List.getElem_map, List.getElem_range]
  by_cases h3 : j = c
  · subst h3; simp
  · rw [if_neg h3]
    have h4 : ¬ c = j := fun e => h3 e.symm
    simp only [if_neg h4]
theorem IntB.ints {w : World} {g : Nat} {L : List Int} (h : IntB w g L) (hb : ∀ x ∈ L, -9223372036854775808 ≤ x ∧ x ≤ 9223372036854775807) (hl : L.length ≤ 9223372036854775807) : IntsAt w (some ⟨g, 0, none⟩) L.length L :=
  ⟨Nat.le_refl _, hl, hb, g, 0, fun _ => rfl, fun i hi => by rw [Nat.zero_add]; exact h.cell hi⟩
theorem one_str (wr : World) (L : List UInt8) : ∀ i (hi : i < [L].length), (wr.alloc (.cells #[.string ⟨L.toArray⟩] 9)).cell? ⟨wr.heap.size, i, none⟩ = some (sv [L][i]) := fun i hi => by
  obtain rfl : i = 0 := by simpa using hi
  have h1 := heap_alloc_new wr (.cells #[.string ⟨L.toArray⟩] 9)
  have h2 : (wr.alloc (.cells #[.string ⟨L.toArray⟩] 9)).cell? ⟨wr.heap.size, 0, none⟩ = some (.string ⟨L.toArray⟩) := by
    simp only [World.cell?]
    rw [h1]
    rfl
  exact h2
set_option maxRecDepth 100000 in
set_option maxHeartbeats 8000000 in
theorem matrixR (A : Arr) (v : Value) (w : World) (h : ArrAt w v A) (hx : rightE A = 0) (hw : wt A ≤ 400) (hR : Reach A) (f R C : Nat) (hC0 : 0 < C) (hR0 : 0 < R) (hl : f + R * C ≤ (ctT A).length) :
    Calls Tryd.prog 28 #[v, .int .i64 (f : Int), .int .i64 (R : Int), .int .i64 (C : Int)] w fun e w' => ∃ lv, e = .returned lv ∧ Lns w' w.heap.size lv (matS A.kind (ctT A) f R C) ∧ Below w.heap.size w w' := by
  obtain ⟨k, sh, nu, it⟩ := A
  have hbd := ctT_bd2 hx hw
  have hN := ctT_len hx
  have hwf := wt_few hw
  have hsn := sumW_nn it
  have hN4 : aSize (.mk k sh nu it) ≤ 400 := by
    split at hwf <;> omega
  have hRC : R * C ≤ 400 := by omega
  have hT4 : (ctT (.mk k sh nu it)).length ≤ 400 := by omega
  have hR4 : R ≤ 400 := Nat.le_trans (Nat.le_mul_of_pos_right R hC0) hRC
  have hC4 : C ≤ 400 := Nat.le_trans (Nat.le_mul_of_pos_left C hR0) hRC
  have cC := fun (W : World) (g : Below w.heap.size w W) (i : Nat) (q : i < (ctT (.mk k sh nu it)).length) => cellTR _ v W (h.below g) hx hw hR i q
  have cR := fun (W : World) (g : Below w.heap.size w W) (i : Nat) (ws : List Int) (wa : Option Addr) (wc : Nat) (hi : IntsAt W wa wc ws) (hb0 : ∀ x ∈ ws, 0 ≤ x ∧ x ≤ 210000) (hl : i + ws.length ≤ (ctT (.mk k sh nu it)).length) => rowR _ v W (h.below g) hx hw hR i ws wa wc hi hb0 hl
  simp only [Arr.kind] at cR ⊢
  rw [ArrAt] at h
  obtain ⟨sa, sc, na, nc, ia, ic, rfl, -⟩ := h
  have bw := below_new w (.cells #[.int .i64 k, .slice sa sh.length sc, .slice na nu.length nc, .slice ia it.length ic] 26)
  have q0 := Quad.new w (.int .i64 k) (.slice sa sh.length sc) (.slice na nu.length nc) (.slice ia it.length ic)
  have hs0 : w.heap.size < (w.alloc (.cells #[.int .i64 k, .slice sa sh.length sc, .slice na nu.length nc, .slice ia it.length ic] 26)).heap.size := by simp
  obtain ⟨w0, hw0⟩ : ∃ w0, w.alloc (.cells #[.int .i64 k, .slice sa sh.length sc, .slice na nu.length nc, .slice ia it.length ic] 26) = w0 := ⟨_, rfl⟩
  rw [hw0] at bw q0 hs0
  obtain ⟨T, hT⟩ : ∃ T, ctT (.mk k sh nu it) = T := ⟨_, rfl⟩
  rw [hT] at hbd hN hT4 cC cR hl ⊢
  generalize hcc0 : (Value.int .i64 k) = c0 at *
  generalize hcc1 : (Value.slice sa sh.length sc) = c1 at *
  generalize hcc2 : (Value.slice na nu.length nc) = c2 at *
  generalize hcc3 : (Value.slice ia it.length ic) = c3 at *
  clear hcc0 hcc1 hcc2 hcc3
  obtain ⟨cs, hcs⟩ : ∃ cs, Hid (((List.replicate C (0 : Int)).map (Value.int .i64)).toArray = cs) := ⟨_, Lib.hid rfl⟩
  have hmk := run_makeInts w0 C (by omega)
  rw [made_ints, hcs.out] at hmk
  have W1 : IntB (w0.alloc (.cells cs 3)) w0.heap.size (wsL T f C R 0 0) := by
    unfold IntB
    rw [wsL_zero, hcs.out]
    exact heap_alloc_new w0 _
  have B1 := below_new w0 (.cells cs 3)
  have q1 := q0.below B1
  have Bw1 := Below.then bw B1
  generalize hG : w0.heap.size = G at W1 hmk hs0
  have hGne : w.heap.size ≠ G := Nat.ne_of_lt hs0
  have hGle := Nat.le_of_lt hs0
  clear hN hwf hsn
  go_enter Tryd.func28, Tryd.ntmps28
  go_wp2_with fail
  go_loopw [10] (fun s wr => ∃ j : Nat, j ≤ C ∧ s = .int .i64 (j : Int) ∧ IntB wr G (wsL T f C R j 0) ∧ Quad wr w.heap.size c0 c1 c2 c3 ∧ Below w.heap.size w wr) (fun s _ => C - (intOf s).toNat)
  case atStart => exact ⟨0, Nat.zero_le _, rfl, W1, q1, Bw1⟩
  case round =>
    clear W1 q1 Bw1 hmk hcs B1 q0 bw
    obtain ⟨j, hj, rfl, W0, q, Bw⟩ := hrel
    by_cases hlt : j < C
    · have hlt' : (j : Int) < (C : Int) := by omega
      go_wp2_with fail
      go_loopw [11] (fun s wq => ∃ i : Nat, i ≤ R ∧ s = .int .i64 (i : Int) ∧ IntB wq G (wsL T f C R j i) ∧ Quad wq w.heap.size c0 c1 c2 c3 ∧ Below w.heap.size w wq) (fun s _ => R - (intOf s).toNat)
      case atStart => exact ⟨0, Nat.zero_le _, rfl, W0, q, Bw⟩
      case round =>
        clear W0 q Bw
        obtain ⟨i, hi, rfl, W0, q, Bw⟩ := hrel
        by_cases hlt2 : i < R
        · have hlt2' : (i : Int) < (R : Int) := by omega
          have hi1 : (i + 1) * C ≤ R * C := Nat.mul_le_mul_right C hlt2
          rw [Nat.succ_mul] at hi1
          have hpl : f + i * C + j < T.length := by omega
          have hcl := fun W g => cC W g (f + i * C + j) hpl
          have hbt := hbd _ (List.getElem_mem hpl)
          have hwl := wsL_len T f C R j i
          have hcw := W0.cell (j := j) (by rw [hwl]; exact hlt)
          rw [wsL_at T f C R j i hlt] at hcw
          have hst := wsL_set T f C R j i hlt
          have hgT : (T.getD (f + i * C + j) []) = T[f + i * C + j] := by rw [List.getD_eq_getElem?_getD, List.getElem?_eq_getElem hpl]; rfl
          rw [colMax, hgT] at hst
          have hxb := colMax_bd T f C j 210000 hbd i
          have hia := fun w' => ints_at w' G C C j hlt
          have hSet := fun W (V : IntB W G (wsL T f C R j i)) (y : Int) => IntB.set V j y
          have hFr := fun W (V : IntB W G (wsL T f C R j i)) => IntB.free V j
          have hCe := fun W (V : IntB W G (wsL T f C R j i)) => IntB.cell V (j := j) (by rw [hwl]; exact hlt)
          simp only [wsL_at T f C R j i hlt] at hCe
          have hx4 : f + i * C + j ≤ 400 := by omega
          generalize colMax T f C j i = x at *
          generalize T[f + i * C + j] = t at *
          have hts : (ByteArray.mk t.toArray).size = t.length := by simp [ByteArray.size]
          obtain ⟨tb, htbe⟩ : ∃ tb : ByteArray, ⟨t.toArray⟩ = tb := ⟨_, rfl⟩
          obtain ⟨n, hn⟩ : ∃ n, t.length = n := ⟨_, rfl⟩
          rw [htbe] at hts hcl
          rw [hn] at hst hts hbt
          obtain ⟨m, hm⟩ : ∃ m, i * C = m := ⟨_, rfl⟩
          have hm2 : (i : Int) * (C : Int) = (m : Int) := by rw [← hm]; simp
          rw [hm] at hx4 hcl
          have hwm : IntKind.i64.wrap ((i : Int) * (C : Int)) = (m : Int) := by rw [hm2]; exact IntWalk.i64_in _ (by omega)
          have hwm2 : IntKind.i64.wrap (m : Int) = (m : Int) := IntWalk.i64_in _ (by omega)
          have hwf : IntKind.i64.wrap ((f : Int) + (m : Int)) = (f : Int) + (m : Int) := IntWalk.i64_in _ (by omega)
          have hwj : IntKind.i64.wrap ((f : Int) + (m : Int) + (j : Int)) = (f : Int) + (m : Int) + (j : Int) := IntWalk.i64_in _ (by omega)
          have hpe : ((f + m + j : Nat) : Int) = (f : Int) + (m : Int) + (j : Int) := by omega
          rw [hpe] at hcl
          have Hst := Lib.hid hst
          generalize hLe : wsL T f C R j i = L at W0 hSet hFr hCe Hst
          have q' := q
          obtain ⟨p0, p1, p2, p3, -⟩ := q.cells
          have cc2 := fun W (h : Below wr.heap.size wr W) => hcl W (Bw.trans (h.mono Bw.size))
          clear hst hLe hwl hgT hpl hi1 hcl hn htbe hm hpe cR hl hbd cC
          go_wp2_with fail
          go_region_law ((first
            | (go_simp; go_at_call 45; (with_reducible refine (cc2 _ (by go_grown)).mono ?_); rintro e2 w2 ⟨rfl, b2⟩; (have E2 : Below wr.heap.size wr w2 := Below.then (by go_grown) b2); (have F2 : Below w.heap.size w w2 := Bw.trans (E2.mono Bw.size)); (have V2 := W0.below E2); (have x2 := hCe w2 V2); (have f2 := hFr w2 V2); (have Q2 := q'.below E2))))
          all_goals go_wp2_with fail
          all_goals go_roundw
          all_goals first
            | exact ⟨i + 1, by omega, by go_num, by rw [← Hst.out]; exact hSet w2 V2 _, Q2.keep (set_other _ _ _ _ _ hGne), F2.setCell hGle _⟩
            | exact ⟨i + 1, by omega, by go_num, by rw [← Hst.out]; exact (hSet w2 V2 _).below ((Below.refl _ _).drew), (Q2.keep (set_other _ _ _ _ _ hGne)).below ((Below.refl _ _).drew), (F2.setCell hGle _).drew⟩
            | (simp [intOf]; omega)
        · obtain rfl : i = R := by omega
          have hn0 : ¬ (i : Int) < (i : Int) := by omega
          rw [wsL_next] at W0
          go_wp2_with fail
          go_roundw
          case rel => exact ⟨j + 1, by omega, by go_num, W0, q, Bw⟩
          case measure => simp [intOf]; omega
    · obtain rfl : j = C := by omega
      have hn0 : ¬ (j : Int) < (j : Int) := by omega
      rw [wsL_end] at W0
      have hwl : (colW T f j R).length = j := by simp [colW]
      have hwb : ∀ x ∈ colW T f j R, 0 ≤ x ∧ x ≤ 210000 := fun x hx => by
        rw [colW] at hx
        obtain ⟨c, _, rfl⟩ := List.mem_map.1 hx
        exact colMax_bd T f j c 210000 hbd R
      have hml : Hid ((matS k T f R j).length = R) := by unfold Hid; simp [matS]
      have hat : Hid (∀ r (hr : r < R), (matS k T f R j)[r]'(by rw [hml.out]; exact hr) = Lib.join (rowG (colW T f j R) T (f + r * j)) (sepK k)) := fun r hr => by simp [matS]
      have hi0 := fun W (V : IntB W G (colW T f j R)) => V.ints (fun x hx => by have := hwb x hx; omega) (by omega)
      rw [hwl] at hi0
      have cRow := fun W g r (hr : f + r * j + (colW T f j R).length ≤ T.length) V => cR W g (f + r * j) (colW T f j R) _ _ (hi0 W V) hwb hr
      simp only [hwl] at cRow
      generalize hM : matS k T f R j = M at hml hat
      have HM := Lib.hid hM
      clear hM
      generalize colW T f j R = ws at *
      clear cR cC hi0 hbd
      obtain ⟨w1, rfl⟩ : ∃ w1, w1 = wr := ⟨_, rfl⟩
      go_wp2_with fail
      go_loopw [12, 13] (fun v i wr => ∃ r : Nat, r ≤ R ∧ i = .int .i64 (r : Int) ∧ Lns wr w1.heap.size v (M.take r) ∧ Below w1.heap.size w1 wr) (fun _ i _ => R - (intOf i).toNat)
      case atStart => exact ⟨0, Nat.zero_le _, rfl, Lns.nil _ _, Below.refl _ _⟩
      case round =>
        obtain ⟨r, hr, rfl, V, B1⟩ := hrel
        have W0 := W0.below B1
        have q := q.below B1
        have Bw' := Bw
        have Bw : Below w.heap.size w wr := Bw'.trans (B1.mono Bw'.size)
        by_cases hlt : r < R
        · have hlt' : (r : Int) < (R : Int) := by omega
          have hi1 : (r + 1) * j ≤ R * j := Nat.mul_le_mul_right j hlt
          rw [Nat.succ_mul] at hi1
          have hrl : f + r * j + j ≤ T.length := by omega
          have hMl : (M.take r).length = r := by rw [List.length_take, hml.out]; omega
          have hMs : M.take (r + 1) = M.take r ++ [Lib.join (rowG ws T (f + r * j)) (sepK k)] := by
            rw [List.take_succ_eq_append_getElem (by rw [hml.out]; exact hlt), hat.out r hlt]
          have cr := fun W g V => cRow W g r hrl V
          obtain ⟨p0, p1, p2, p3, -⟩ := q.cells
          have hT5 : f + r * j ≤ 400 := by omega
          generalize Lib.join (rowG ws T (f + r * j)) (sepK k) = LN at *
          obtain ⟨m, hm⟩ : ∃ m, r * j = m := ⟨_, rfl⟩
          have hm2 : (r : Int) * (j : Int) = (m : Int) := by rw [← hm]; simp
          rw [hm] at cr hT5
          have hpe : ((f + m : Nat) : Int) = (f : Int) + (m : Int) := by omega
          rw [hpe] at cr
          have HMs := Lib.hid hMs
          have hVl : (M.take r).length + 1 ≤ 100000 := by omega
          generalize M.take r = K at V hVl HMs
          clear hMs hMl hm hrl hi1 cRow hat hml hl hpe
          go_wp2_with (first
            | (go_at_call 27; (with_reducible refine (cr _ Bw W0).mono ?_); rintro e2 w2 ⟨rfl, b2⟩; (have V2 := V.below b2); (have W2 := W0.below b2); (have Q2 := q.below b2); (have F2 : Below w1.heap.size w1 w2 := B1.trans (b2.mono B1.size)); (have cn := one_str w2 LN); (have Vn : Lns (w2.alloc (.cells #[.string ⟨LN.toArray⟩] 9)) w1.heap.size _ K := V2.below (below_new _ _)); (have Bn : Below w1.heap.size w1 (w2.alloc (.cells #[.string ⟨LN.toArray⟩] 9)) := F2.alloc F2.size _))
            | (at_builtin; refine lns_push _ rfl _ _ rfl _ K rfl Vn [LN] w2.heap.size 1 1 rfl rfl cn hVl Bn.size ?_; intro a3 m3 k3 w3 V3 g3; have B3 := Bn.grown g3 Bn.size (fun k hk => Vn.block k hk)))
          go_roundw
          case rel => exact ⟨r + 1, by omega, by go_num, by rw [HMs.out]; exact V3, B3⟩
          case measure => simp [intOf]; omega
        · obtain rfl : r = R := by omega
          have hn0 : ¬ (r : Int) < (r : Int) := by omega
          rw [List.take_of_length_le (Nat.le_of_eq hml.out)] at V
          clear hat hml cRow
          go_wp2_with fail
          go_ret
          exact ⟨_, rfl, by rw [HM.out]; exact V.mono Bw'.size, Bw⟩
end Go.Proofs.YtngcahaidlgkfaaDoor.Shape

namespace Go.Proofs.YtngcahaidlgkfaaDoor.Shape
open Go.RowKit Go.Proofs.YtngcahaidlgkfaaDoor.Num
set_option linter.unusedVariables false
set_option linter.unusedSimpArgs false

def lastR (sh : List Int) : Nat := (sh.getD (sh.length - 2) 0).toNat
def lastC (sh : List Int) : Nat := (sh.getD (sh.length - 1) 0).toNat
/-- The matrices of an array, one behind the other. -/
def matsR (k : Int) (T : List (List UInt8)) (R C K : Nat) : List (List (List UInt8)) := (List.range K).map fun m => matS k T (m * (R * C)) R C
/-- The lines as the reference makes them. -/
def linR : Arr → List (List UInt8)
  | .mk k sh nu it => if rightE (.mk k sh nu it) ≠ 0 then [] else if sh.length < 2 then [Lib.join (rowG (List.replicate (aSize (.mk k sh nu it)) 0) (ctT (.mk k sh nu it)) 0) (sepK k)] else if aSize (.mk k sh nu it) = 0 then [] else
      joinS (matsR k (ctT (.mk k sh nu it)) (lastR sh) (lastC sh) (aSize (.mk k sh nu it) / (lastR sh * lastC sh)))
theorem prd_app : ∀ (a b : List Nat), prd (a ++ b) = prd a * prd b
  | [], b => by simp [prd]
  | x :: a, b => by rw [List.cons_append, prd, prd, prd_app a b, Nat.mul_assoc]
theorem two_last : ∀ (sh : List Int), 2 ≤ sh.length → ∃ a x y, sh = a ++ [x, y]
  | [x, y], _ => ⟨[], x, y, rfl⟩
  | x :: y :: z :: r, _ => by
    obtain ⟨a, u, v, e⟩ := two_last (y :: z :: r) (by simp)
    exact ⟨x :: a, u, v, by rw [e]; rfl⟩
theorem Lns.lit (w : World) (cs : Array Value) (L : List UInt8) (hc : cs = #[.string ⟨L.toArray⟩]) (B : Nat) (hB : B ≤ w.heap.size) : Lns (w.alloc (.cells cs 9)) B (.slice (some ⟨w.heap.size, 0, none⟩) 1 1) [L] := by
  subst hc
  refine Lns.of (L := [L]) (n := 1) ?_ rfl hB (by unfold maxLen; omega)
  exact Strs.new w [L]
set_option maxRecDepth 100000 in
set_option maxHeartbeats 8000000 in
theorem linesR0 (A : Arr) (v : Value) (w : World) (h : ArrAt w v A) (hx : rightE A ≠ 0) :
    Calls Tryd.prog 12 #[v] w fun e w' => ∃ lv, e = .returned lv ∧ Lns w' w.heap.size lv [] ∧ Below w.heap.size w w' := by
  have cR := fun W (g : ArrAt W v A) => rightR3 v A W g
  obtain ⟨c0, c1, c2, c3, rfl⟩ : ∃ c0 c1 c2 c3 : Value, v = .agg #[c0, c1, c2, c3] := by
    obtain ⟨k, sh, nu, it⟩ := A
    rw [ArrAt] at h
    obtain ⟨sa, sc, na, nc, ia, ic, rfl, -⟩ := h
    exact ⟨_, _, _, _, rfl⟩
  have bw := below_new w (.cells #[c0, c1, c2, c3] 26)
  obtain ⟨p0, p1, p2, p3, -⟩ := (Quad.new w c0 c1 c2 c3).cells
  have cR2 := cR _ (h.below bw)
  generalize rightE A = x at *
  have hb : (x != 0) = true := by simpa using hx
  clear h cR hx
  go_enter Tryd.func12, Tryd.ntmps12
  go_wp2_with (go_at_call 15; (with_reducible refine cR2.mono ?_); rintro e1 w1 ⟨rfl, b1⟩)
  go_ret
  exact ⟨_, rfl, Lns.nil _ _, Below.then bw b1⟩
set_option maxRecDepth 100000 in
set_option maxHeartbeats 8000000 in
theorem linesRn (k : Int) (sh nu : List Int) (it : List Arr) (v : Value) (w : World) (h : ArrAt w v (.mk k sh nu it)) (hx : rightE (.mk k sh nu it) = 0) (n : Nat) (hn : sh.length = n) (hn2 : 2 ≤ n) (hz : aSize (.mk k sh nu it) = 0) :
    Calls Tryd.prog 12 #[v] w fun e w' => ∃ lv, e = .returned lv ∧ Lns w' w.heap.size lv [] ∧ Below w.heap.size w w' := by
  have cR := fun v W (g : ArrAt W v (.mk k sh nu it)) => rightR3 v _ W g
  have cZ := fun v W (g : ArrAt W v (.mk k sh nu it)) => sizeR v _ W g
  rw [hx] at cR
  rw [hz] at cZ
  have hA := h
  rw [ArrAt] at h
  obtain ⟨sa, sc, na, nc, ia, ic, rfl, -⟩ := h
  rw [hn] at hA ⊢
  have hn3 : ¬ (n : Int) < 2 := by omega
  have bw := below_new w (.cells #[.int .i64 k, .slice sa n sc, .slice na nu.length nc, .slice ia it.length ic] 26)
  have q0 := Quad.new w (.int .i64 k) (.slice sa n sc) (.slice na nu.length nc) (.slice ia it.length ic)
  obtain ⟨p0, p1, p2, p3, -⟩ := q0.cells
  have hA1 := hA.below bw
  clear hx hz hn hA
  go_enter Tryd.func12, Tryd.ntmps12
  go_wp2_with (first
    | (go_at_call 15; (with_reducible refine (cR _ _ hA1).mono ?_); rintro e1 w1 ⟨rfl, b1⟩; have q1 := Quad.below b1 q0; obtain ⟨y0, y1, y2, y3, -⟩ := q1.cells; have hA2 := hA1.below b1)
    | (go_at_call 26; (with_reducible refine (cZ _ _ hA2).mono ?_); rintro e2 w2 ⟨rfl, b2⟩; obtain ⟨z0, z1, z2, z3, -⟩ := (Quad.below b2 q1).cells))
  go_ret
  exact ⟨_, rfl, Lns.nil _ _, Below.then (Below.then bw b1) b2⟩
set_option maxRecDepth 100000 in
set_option maxHeartbeats 8000000 in
theorem linesRl (k : Int) (sh nu : List Int) (it : List Arr) (v : Value) (w : World) (h : ArrAt w v (.mk k sh nu it)) (hx : rightE (.mk k sh nu it) = 0) (hw : wt (.mk k sh nu it) ≤ 400) (hR : Reach (.mk k sh nu it)) (n : Nat) (hn : sh.length = n) (hn2 : n < 2) :
    Calls Tryd.prog 12 #[v] w fun e w' => ∃ lv, e = .returned lv ∧ Lns w' w.heap.size lv [Lib.join (rowG (List.replicate (aSize (.mk k sh nu it)) 0) (ctT (.mk k sh nu it)) 0) (sepK k)] ∧ Below w.heap.size w w' := by
  have hN := ctT_len hx
  have hwf := wt_few hw
  have hsn := sumW_nn it
  have hN4 : aSize (.mk k sh nu it) ≤ 400 := by
    split at hwf <;> omega
  have cR := fun v W (g : ArrAt W v (.mk k sh nu it)) => rightR3 v _ W g
  have cZ := fun v W (g : ArrAt W v (.mk k sh nu it)) => sizeR v _ W g
  rw [hx] at cR
  obtain ⟨cs, hcs⟩ : ∃ cs, Hid (((List.replicate (aSize (.mk k sh nu it)) (0 : Int)).map (Value.int .i64)).toArray = cs) := ⟨_, Lib.hid rfl⟩
  have hI : ∀ W : World, IntB (W.alloc (.cells cs 3)) W.heap.size (List.replicate (aSize (.mk k sh nu it)) 0) := fun W => by
    unfold IntB
    rw [hcs.out]
    exact heap_alloc_new W _
  have cRow : ∀ W : World, Below w.heap.size w W → Calls Tryd.prog 27 #[v, .int .i64 0, .slice (some ⟨W.heap.size, 0, none⟩) (aSize (.mk k sh nu it)) (aSize (.mk k sh nu it))] (W.alloc (.cells cs 3)).drew fun e w' => e = .returned (.string ⟨(Lib.join (rowG (List.replicate (aSize (.mk k sh nu it)) 0) (ctT (.mk k sh nu it)) 0) (sepK k)).toArray⟩) ∧ Below w.heap.size w w' := fun W hW => by
    have hi := ((hI W).below ((Below.refl _ _).drew)).ints (fun x hx => by rw [List.eq_of_mem_replicate hx]; decide) (by rw [List.length_replicate]; omega)
    have hB : Below w.heap.size w (W.alloc (.cells cs 3)).drew := (hW.alloc hW.size _).drew
    have := rowR _ v (W.alloc (.cells cs 3)).drew (h.below hB) hx hw hR 0 _ _ _ hi (fun x hx => by rw [List.eq_of_mem_replicate hx]; decide) (by rw [List.length_replicate, hN]; omega)
    rw [List.length_replicate] at this
    refine this.mono ?_
    rintro e w' ⟨he, hb⟩
    exact ⟨he, hB.trans (hb.mono hB.size)⟩
  have hmk := fun W => run_makeInts W (aSize (.mk k sh nu it)) (by omega)
  simp only [made_ints, hcs.out] at hmk
  have hA := h
  rw [ArrAt] at h
  obtain ⟨sa, sc, na, nc, ia, ic, rfl, -⟩ := h
  rw [hn] at hA cRow ⊢
  have hn3 : (n : Int) < 2 := by omega
  have bw := below_new w (.cells #[.int .i64 k, .slice sa n sc, .slice na nu.length nc, .slice ia it.length ic] 26)
  have q0 := Quad.new w (.int .i64 k) (.slice sa n sc) (.slice na nu.length nc) (.slice ia it.length ic)
  obtain ⟨p0, p1, p2, p3, -⟩ := q0.cells
  have hA1 := hA.below bw
  generalize Lib.join (rowG (List.replicate (aSize (.mk k sh nu it)) 0) (ctT (.mk k sh nu it)) 0) (sepK k) = LN at *
  generalize aSize (.mk k sh nu it) = N at *
  clear hx hn hA hI hN hcs hwf hsn
  go_enter Tryd.func12, Tryd.ntmps12
  go_wp2_with (first
    | (go_at_call 15; (with_reducible refine (cR _ _ hA1).mono ?_); rintro e1 w1 ⟨rfl, b1⟩; have q1 := Quad.below b1 q0; obtain ⟨y0, y1, y2, y3, -⟩ := q1.cells; have hA2 := hA1.below b1)
    | (go_at_call 26; (with_reducible refine (cZ _ _ hA2).mono ?_); rintro e2 w2 ⟨rfl, b2⟩; obtain ⟨z0, z1, z2, z3, -⟩ := (Quad.below b2 q1).cells; have B2 := Below.then (Below.then bw b1) b2; obtain ⟨a0, a1, a2, a3, -⟩ := (Quad.below (below_new w2 (.cells cs 3)) (Quad.below b2 q1)).cells))
  go_region_law ((first
    | (go_simp; go_at_call 27; (with_reducible refine (cRow _ B2).mono ?_); rintro e3 w3 ⟨rfl, b3⟩)))
  all_goals go_wp2_with fail
  all_goals go_ret
  all_goals exact ⟨_, rfl, Lns.lit w3 _ LN rfl _ b3.size, b3.alloc b3.size _⟩
set_option maxRecDepth 100000 in
set_option maxHeartbeats 8000000 in
theorem linesRh (k : Int) (sh nu : List Int) (it : List Arr) (v : Value) (w : World) (h : ArrAt w v (.mk k sh nu it)) (hx : rightE (.mk k sh nu it) = 0) (hw : wt (.mk k sh nu it) ≤ 400) (hRe : Reach (.mk k sh nu it)) (n : Nat) (hn : sh.length = n) (hn2 : 2 ≤ n) (R C K : Nat) (hR : sh.getD (n - 2) 0 = (R : Int)) (hC : sh.getD (n - 1) 0 = (C : Int)) (hR0 : 0 < R) (hC0 : 0 < C) (hK : aSize (.mk k sh nu it) = K * (R * C)) (hK0 : 0 < K) :
    Calls Tryd.prog 12 #[v] w fun e w' => ∃ lv, e = .returned lv ∧ Lns w' w.heap.size lv (joinS (matsR k (ctT (.mk k sh nu it)) R C K)) ∧ Below w.heap.size w w' := by
  have hN := ctT_len hx
  have hwf := wt_few hw
  have hsn := sumW_nn it
  have hN4 : aSize (.mk k sh nu it) ≤ 400 := by
    split at hwf <;> omega
  have cR := fun v W (g : ArrAt W v (.mk k sh nu it)) => rightR3 v _ W g
  have cZ := fun v W (g : ArrAt W v (.mk k sh nu it)) => sizeR v _ W g
  rw [hx] at cR
  have hQ0 : 0 < R * C := Nat.mul_pos hR0 hC0
  have hQ4 : R * C ≤ 400 := by
    have := Nat.le_mul_of_pos_left (R * C) hK0
    omega
  have hR4 : R ≤ 400 := Nat.le_trans (Nat.le_mul_of_pos_right R hC0) hQ4
  have hC4 : C ≤ 400 := Nat.le_trans (Nat.le_mul_of_pos_left C hR0) hQ4
  have hK4 : K ≤ 400 := by
    have := Nat.le_mul_of_pos_right K hQ0
    omega
  have cM : ∀ W : World, Below w.heap.size w W → ∀ m, m < K → Calls Tryd.prog 28 #[v, .int .i64 ((m * (R * C) : Nat) : Int), .int .i64 (R : Int), .int .i64 (C : Int)] W fun e w' => ∃ lv, e = .returned lv ∧ Lns w' W.heap.size lv (matS k (ctT (.mk k sh nu it)) (m * (R * C)) R C) ∧ Below W.heap.size W w' := fun W hW m hm => by
    have h1 : (m + 1) * (R * C) ≤ K * (R * C) := Nat.mul_le_mul_right _ hm
    rw [Nat.succ_mul] at h1
    have := matrixR _ v W (h.below hW) hx hw hRe (m * (R * C)) R C hC0 hR0 (by rw [hN, hK]; omega)
    exact this
  have hLl : Hid ((matsR k (ctT (.mk k sh nu it)) R C K).length = K) := by unfold Hid; simp [matsR]
  have hLa : Hid (∀ m (hm : m < K), (matsR k (ctT (.mk k sh nu it)) R C K)[m]'(by rw [hLl.out]; exact hm) = matS k (ctT (.mk k sh nu it)) (m * (R * C)) R C) := fun m hm => by simp [matsR]
  have hMl : Hid (∀ f, (matS k (ctT (.mk k sh nu it)) f R C).length = R) := fun f => by simp [matS]
  have hA := h
  rw [ArrAt] at h
  obtain ⟨sa, sc, na, nc, ia, ic, rfl, -, hs, -⟩ := h
  obtain ⟨b1, o1, ix1, cx1⟩ := hs.at (k := n - 2) (by omega)
  obtain ⟨b2, o2, ix2, cx2⟩ := hs.at (k := n - 1) (by omega)
  have g1 : sh[n - 2]'(by omega) = (R : Int) := by rw [← hR, List.getD_eq_getElem?_getD, List.getElem?_eq_getElem (by omega)]; rfl
  have g2 : sh[n - 1]'(by omega) = (C : Int) := by rw [← hC, List.getD_eq_getElem?_getD, List.getElem?_eq_getElem (by omega)]; rfl
  rw [g1] at cx1
  rw [g2] at cx2
  rw [hn] at hA cM ix1 ix2 ⊢
  have hn3 : ¬ (n : Int) < 2 := by omega
  have bw := below_new w (.cells #[.int .i64 k, .slice sa n sc, .slice na nu.length nc, .slice ia it.length ic] 26)
  have q0 := Quad.new w (.int .i64 k) (.slice sa n sc) (.slice na nu.length nc) (.slice ia it.length ic)
  obtain ⟨p0, p1, p2, p3, -⟩ := q0.cells
  have hA1 := hA.below bw
  have hn9 : sh.length ≤ 9223372036854775807 := hs.len
  rw [hn] at hn9
  obtain ⟨i1, hi1⟩ : ∃ i1, n - 2 = i1 := ⟨_, rfl⟩
  obtain ⟨i2, hi2⟩ : ∃ i2, n - 1 = i2 := ⟨_, rfl⟩
  rw [hi1] at ix1 cx1
  rw [hi2] at ix2 cx2
  have e1 : (n : Int) - 2 = (i1 : Int) := by omega
  have e2 : (n : Int) - 1 = (i2 : Int) := by omega
  have hw1 : IntKind.i64.wrap (i1 : Int) = (i1 : Int) := IntWalk.i64_in _ (by omega)
  have hw2 : IntKind.i64.wrap (i2 : Int) = (i2 : Int) := IntWalk.i64_in _ (by omega)
  have HT : Hid (ctT (.mk k sh nu it) = ctT (.mk k sh nu it)) := Lib.hid rfl
  generalize hMM : matsR k (ctT (.mk k sh nu it)) R C K = Ls at hLl hLa ⊢
  clear hMM
  generalize ctT (.mk k sh nu it) = T at *
  obtain ⟨Q, hQ⟩ : ∃ Q, R * C = Q := ⟨_, rfl⟩
  have hRQ : R ≤ Q := by rw [← hQ]; exact Nat.le_mul_of_pos_right R hC0
  rw [hQ] at hK hQ0 hQ4 cM hLa
  have hQi : (R : Int) * (C : Int) = (Q : Int) := by rw [← hQ]; simp
  rw [hK] at cZ hN4
  have hz : ((K * Q : Nat) : Int) ≠ 0 := by have := Nat.mul_pos hK0 hQ0; omega
  have hz2 : (((K * Q : Nat) : Int) == 0) = false := by simpa using hz
  obtain ⟨N, hNe⟩ : ∃ N, K * Q = N := ⟨_, rfl⟩
  rw [hNe] at cZ hz hz2 hN4
  have HNe := Lib.hid hNe
  clear hNe hx hn hA hN hwf hsn hR hC g1 g2 hw HT hK hQ hs hi1 hi2 hz
  go_enter Tryd.func12, Tryd.ntmps12
  go_upto_region 9 with (first
    | (go_at_call 15; (with_reducible refine (cR _ _ hA1).mono ?_); rintro e1 w1 ⟨rfl, b1⟩; have q1 := Quad.below b1 q0; obtain ⟨y0, y1, y2, y3, -⟩ := q1.cells; have hA2 := hA1.below b1)
    | (go_at_call 26; (with_reducible refine (cZ _ _ hA2).mono ?_); rintro e2 w2 ⟨rfl, b2⟩; (have q2 := Quad.below b2 q1); obtain ⟨z0, z1, z2, z3, -⟩ := q2.cells; have B2 := Below.then (Below.then bw b1) b2; (have cy1 := (B2.cell (cell_lt cx1)).trans cx1); (have cy2 := (B2.cell (cell_lt cx2)).trans cx2)))
  go_region
  go_wp2_with fail
  go_loopw [7, 8] (fun s i wr => ∃ m : Nat, m ≤ K ∧ i = .int .i64 ((m * Q : Nat) : Int) ∧ Lns wr w2.heap.size s (joinS (Ls.take m)) ∧ Below w2.heap.size w2 wr) (fun _ i _ => N - (intOf i).toNat)
  case atStart => exact ⟨0, Nat.zero_le _, by simp, Lns.nil _ _, (Below.refl _ _).drew⟩
  case round =>
    obtain ⟨m, hm, rfl, V, B3⟩ := hrel
    have F3 : Below w.heap.size w wr := B2.trans (B3.mono B2.size)
    obtain ⟨d0, d1, d2, d3, -⟩ := (q2.below B3).cells
    have hNe := HNe.out
    by_cases hlt : m < K
    · have h1 : (m + 1) * Q ≤ K * Q := Nat.mul_le_mul_right _ hlt
      rw [Nat.succ_mul] at h1
      have hjl : m < Ls.length := by rw [hLl.out]; exact hlt
      have hst := joinS_step hjl
      have hLm := hLa.out m hlt
      rw [hLm] at hst
      have hMlen := hMl.out (m * Q)
      have hbd := joinS_bd (R + 1) (Ls.take m) (fun l hl => by
        obtain ⟨i, hi, rfl⟩ := List.getElem_of_mem (List.mem_of_mem_take hl)
        rw [hLa.out i (by rw [← hLl.out]; exact hi), hMl.out]
        exact Nat.le_refl _)
      have hbd2 : (joinS (Ls.take m)).length ≤ 800 := by
        have h5 : (Ls.take m).length * (R + 1) ≤ K * (R + 1) := Nat.mul_le_mul_right _ (by rw [List.length_take, hLl.out]; omega)
        have h6 : K * R ≤ K * Q := Nat.mul_le_mul_left K hRQ
        have h7 : K * (R + 1) = K * R + K := Nat.mul_succ _ _
        omega
      have cm := fun W g => cM W g m hlt
      have hnx : (((m + 1) * Q : Nat) : Int) = ((m * Q : Nat) : Int) + (Q : Int) := by rw [Nat.succ_mul]; omega
      have hm0 : m = 0 ↔ m * Q = 0 := by
        constructor
        · intro e; rw [e, Nat.zero_mul]
        · intro e; rcases Nat.mul_eq_zero.1 e with e | e <;> omega
      generalize matS k T (m * Q) R C = M at *
      have hne : M ≠ [] := fun e => by rw [e] at hMlen; simp at hMlen; omega
      obtain ⟨x, hxe⟩ : ∃ x, m * Q = x := ⟨_, rfl⟩
      rw [hxe] at h1 cm hnx hm0 ⊢
      have hltN : (x : Int) < (N : Int) := by omega
      have Hml := Lib.hid hMlen
      have Hst := Lib.hid hst
      have Hnx := Lib.hid hnx
      clear hst hLm hbd hxe hjl hnx cM hLa hLl hMl HNe hNe
      by_cases h0 : m = 0
      · have hx0 : ¬ (0 : Int) < (x : Int) := by have := hm0.1 h0; omega
        have e0 : joinS (Ls.take m) = [] := by rw [h0]; rfl
        rw [e0] at V
        have hs2 : Hid (joinS (Ls.take (m + 1)) = [] ++ M) := by unfold Hid; rw [Hst.out, e0, if_pos h0]; rfl
        have hMM : ([] : List (List UInt8)).length + R ≤ 100000 := by simp; omega
        clear hm0 h0 e0
        go_wp2_with (first
          | (go_at_call 28; (with_reducible refine (cm _ F3).mono ?_); rintro e5 w5 ⟨lv, rfl, V5, b5⟩; (obtain ⟨g5, c5, rfl, hg5, -, -, hc5⟩ := V5.cell hne); (have V6 := V.below b5); (have B5 : Below w2.heap.size w2 w5 := B3.trans (b5.mono B3.size)))
          | (at_builtin; refine lns_push _ rfl _ _ rfl _ [] rfl V6 M g5 R c5 Hml.out rfl hc5 hMM B5.size ?_; intro a4 m4 k4 w4 V4 g4; have B4 := B5.grown g4 B5.size (fun k hk => V6.block k hk)))
        go_roundw
        case rel => exact ⟨m + 1, by omega, by rw [Hnx.out], by rw [hs2.out]; exact V4, B4⟩
        case measure => simp [intOf]; omega
      · have hx0 : (0 : Int) < (x : Int) := by
          have : x ≠ 0 := fun e => h0 (hm0.2 e)
          omega
        have hs2 : Hid (joinS (Ls.take (m + 1)) = (joinS (Ls.take m) ++ [[]]) ++ M) := by unfold Hid; rw [Hst.out, if_neg h0]
        have hl1 : (joinS (Ls.take m)).length + 1 ≤ 100000 := by omega
        have hl2 : (joinS (Ls.take m) ++ [[]]).length + R ≤ 100000 := by rw [List.length_append]; simp; omega
        generalize joinS (Ls.take m) = Kk at *
        have Bn : Below w2.heap.size w2 (wr.alloc (.cells #[.string ⟨#[]⟩] 9)) := B3.alloc B3.size _
        have Vn : Lns (wr.alloc (.cells #[.string ⟨#[]⟩] 9)) w2.heap.size _ Kk := V.below (below_new _ _)
        have cn := one_str wr []
        clear hm0 h0 Hst
        go_wp2_with (first
          | (at_builtin; refine lns_push _ rfl _ _ rfl _ Kk rfl Vn [[]] wr.heap.size 1 1 rfl rfl cn hl1 Bn.size ?_; intro a3 m3 k3 w3 V3 g3; (have B4 := Bn.grown g3 Bn.size (fun k hk => Vn.block k hk)); (have F4 : Below w.heap.size w w3 := B2.trans (B4.mono B2.size)); (obtain ⟨e0, e1, e2, e3, -⟩ := (q2.below B4).cells))
          | (go_at_call 28; (with_reducible refine (cm _ F4).mono ?_); rintro e5 w5 ⟨lv, rfl, V5, b5⟩; (obtain ⟨g5, c5, rfl, hg5, -, -, hc5⟩ := V5.cell hne); (have V6 := V3.below b5); (have B5 : Below w2.heap.size w2 w5 := B4.trans (b5.mono B4.size)))
          | (at_builtin; refine lns_push _ rfl _ _ rfl _ _ rfl V6 M g5 R c5 Hml.out rfl hc5 hl2 B5.size ?_; intro a4 m4 k4 w4 V4 g4; have B6 := B5.grown g4 B5.size (fun k hk => V6.block k hk)))
        go_roundw
        case rel => exact ⟨m + 1, by omega, by rw [Hnx.out], by rw [hs2.out]; exact V4, B6⟩
        case measure => simp [intOf]; omega
    · obtain rfl : m = K := by omega
      have hn0 : ¬ ((m * Q : Nat) : Int) < (N : Int) := by omega
      rw [List.take_of_length_le (Nat.le_of_eq hLl.out)] at V
      generalize m * Q = x at *
      clear HNe hLl hLa hMl cM
      go_wp2_with fail
      go_ret
      exact ⟨_, rfl, V.mono B2.size, F3⟩
end Go.Proofs.YtngcahaidlgkfaaDoor.Shape

namespace Go.Proofs.YtngcahaidlgkfaaDoor.Shape
open Go.RowKit Go.Proofs.YtngcahaidlgkfaaDoor.Num
set_option linter.unusedVariables false
set_option linter.unusedSimpArgs false

/-- The widths behind i rows and c' texts of the next. -/
def colN (T : List (List UInt8)) (C i c' : Nat) : List Int := (List.range C).map fun c => if c < c' then colMax T 0 C c (i + 1) else colMax T 0 C c i
theorem colN_end (T : List (List UInt8)) (C i : Nat) : colN T C i C = colN T C (i + 1) 0 := by
  refine List.ext_getElem (by simp [colN]) fun c h1 h2 => ?_
  simp only [colN, List.getElem_map, List.getElem_range]
  rw [if_pos (by simpa [colN] using h1), if_neg (by omega)]
theorem colN_step (T : List (List UInt8)) (C i c' : Nat) (h : c' < C) : (colN T C i c').set c' (max ((colN T C i c').getD c' 0) ((T.getD (i * C + c') []).length : Int)) = colN T C i (c' + 1) := by
  have hl : (colN T C i c').length = C := by simp [colN]
  have e : (colN T C i c').getD c' 0 = colMax T 0 C c' i := by
    rw [List.getD_eq_getElem?_getD, List.getElem?_eq_getElem (by omega)]
    simp [colN]
  rw [e]
  refine List.ext_getElem (by simp [colN]) fun c h1 h2 => ?_
  rw [List.getElem_set]
  simp only [colN, List.getElem_map, List.getElem_range]
  by_cases h3 : c' = c
  · subst h3
    rw [if_pos rfl, if_pos (Nat.lt_succ_self _), colMax, Nat.zero_add]
  · rw [if_neg h3]
    by_cases h4 : c < c'
    · rw [if_pos h4, if_pos (by omega)]
    · rw [if_neg h4, if_neg (by omega)]
theorem wid_colN (T : List (List UInt8)) (C : Nat) (hC : 0 < C) : ∀ i c', c' ≤ C → widGo C T (i * C + c') = colN T C i c'
  | 0, 0, _ => by
    rw [Nat.zero_mul, widGo]
    refine List.ext_getElem (by simp [colN]) fun c h1 h2 => ?_
    simp [colN, colMax]
  | i + 1, 0, _ => by
    have := wid_colN T C hC i C (Nat.le_refl _)
    rw [Nat.add_zero, Nat.succ_mul, this, colN_end]
  | i, c' + 1, h => by
    have ih := wid_colN T C hC i c' (by omega)
    have hm : (i * C + c') % C = c' := by rw [Nat.mul_comm, Nat.mul_add_mod, Nat.mod_eq_of_lt (by omega)]
    rw [← Nat.add_assoc, widGo, hm, ih, colN_step T C i c' (by omega)]
theorem wid_col (T : List (List UInt8)) (R C : Nat) (hC : 0 < C) : widGo C T (R * C) = colW T 0 C R := by
  have := wid_colN T C hC R 0 (Nat.zero_le _)
  rw [Nat.add_zero] at this
  rw [this]
  simp [colN, colW]
theorem tab_mat (k : Int) (T : List (List UInt8)) (R C : Nat) (hC : 0 < C) (hT : T.length = R * C) : tabT R C T (sepK k) = matS k T 0 R C := by
  rw [tabT, hT, wid_col T R C hC, matS]
  apply List.map_congr_left
  intro r _
  have hl : (colW T 0 C R).length = C := by simp [colW]
  rw [rowT, rowG, hl]
  simp only [Nat.zero_add]
theorem part_getD (T : List (List UInt8)) (q i x : Nat) (hx : x < q) : (part T q i).getD x [] = T.getD (i * q + x) [] := by
  rw [List.getD_eq_getElem?_getD, List.getD_eq_getElem?_getD, part, List.getElem?_take_of_lt hx, List.getElem?_drop]
theorem col_part (T : List (List UInt8)) (q i f C c : Nat) : ∀ r, (∀ j, j < r → f + j * C + c < q) → colMax (part T q i) f C c r = colMax T (i * q + f) C c r
  | 0, _ => rfl
  | r + 1, h => by
    rw [colMax, colMax, col_part T q i f C c r (fun j hj => h j (by omega)), part_getD _ _ _ _ (h r (by omega)), show i * q + (f + r * C + c) = i * q + f + r * C + c by omega]
theorem mat_part (k : Int) (T : List (List UInt8)) (q i f R C : Nat) (h : f + R * C ≤ q) : matS k (part T q i) f R C = matS k T (i * q + f) R C := by
  have hrc : ∀ r c, r < R → c < C → f + r * C + c < q := fun r c hr hc => by
    have : (r + 1) * C ≤ R * C := Nat.mul_le_mul_right C hr
    rw [Nat.succ_mul] at this
    omega
  have hw : colW (part T q i) f C R = colW T (i * q + f) C R := by
    rw [colW, colW]
    apply List.map_congr_left
    intro c hc
    exact col_part T q i f C c R fun j hj => hrc j c hj (List.mem_range.1 hc)
  rw [matS, matS, hw]
  apply List.map_congr_left
  intro r hr
  have hl : (colW T (i * q + f) C R).length = C := by simp [colW]
  congr 1
  rw [rowG, rowG, hl]
  apply List.map_congr_left
  intro c hc
  rw [part_getD _ _ _ _ (hrc r c (List.mem_range.1 hr) (List.mem_range.1 hc)), show i * q + (f + r * C + c) = i * q + f + r * C + c by omega]
/-- Every list with an empty line ahead of it. -/
def jt (Ls : List (List (List UInt8))) : List (List UInt8) := (Ls.map fun l => [] :: l).flatten
theorem jt_app (a b : List (List (List UInt8))) : jt (a ++ b) = jt a ++ jt b := by simp [jt]
theorem joinS_cons (b : List (List UInt8)) (r : List (List (List UInt8))) : joinS (b :: r) = b ++ jt r := rfl
theorem jt_join : ∀ {l : List (List (List UInt8))}, l ≠ [] → [] :: joinS l = jt l
  | [], h => absurd rfl h
  | b :: r, _ => by rw [joinS_cons]; simp [jt]
theorem jt_all : ∀ (LL : List (List (List (List UInt8)))), (∀ l ∈ LL, l ≠ []) → jt (LL.map joinS) = jt LL.flatten
  | [], _ => rfl
  | l :: LL, h => by
    have ih := jt_all LL fun x hx => h x (by simp [hx])
    have h1 := jt_join (h l (by simp))
    rw [List.flatten_cons, jt_app, ← ih, ← h1]
    simp [jt]
theorem join_join : ∀ (LL : List (List (List (List UInt8)))), (∀ l ∈ LL, l ≠ []) → joinS (LL.map joinS) = joinS LL.flatten
  | [], _ => rfl
  | [] :: LL, h => absurd rfl (h [] (by simp))
  | (b :: r) :: LL, h => by
    have h1 := jt_all LL fun x hx => h x (by simp [hx])
    rw [List.map_cons, joinS_cons, h1, List.flatten_cons, List.cons_append, joinS_cons, joinS_cons, jt_app, List.append_assoc]
theorem range_mul {α : Type} (F : Nat → α) (K : Nat) : ∀ d, (List.range (d * K)).map F = ((List.range d).map fun i => (List.range K).map fun m => F (i * K + m)).flatten
  | 0 => by simp
  | d + 1 => by
    rw [Nat.succ_mul, List.range_add, List.map_append, range_mul F K d, List.range_succ, List.map_append, List.flatten_append]
    simp
theorem asmS_cons (sep : List UInt8) (d : Nat) : ∀ (s : List Nat), 2 ≤ s.length → ∀ T, asmS sep (d :: s) T = joinS ((List.range d).map fun i => asmS sep s (part T (T.length / d) i))
  | [e, f], _, T => by rw [asmS]
  | e :: f :: g :: r, _, T => by rw [asmS]
theorem asm_mats (k : Int) (R C : Nat) (hR : 0 < R) (hC : 0 < C) : ∀ (a : List Nat), (∀ x ∈ a, 0 < x) → ∀ T : List (List UInt8), T.length = prd a * (R * C) → asmS (sepK k) (a ++ [R, C]) T = joinS (matsR k T R C (prd a))
  | [], _, T, hT => by
    have hT' : T.length = R * C := by rw [hT, prd, Nat.one_mul]
    rw [List.nil_append, asmS, tab_mat k T R C hC hT', prd, matsR]
    simp [joinS]
  | d :: a, ha, T, hT => by
    have hd : 0 < d := ha d (by simp)
    have hq : T.length / d = prd a * (R * C) := by rw [hT, prd, Nat.mul_assoc, Nat.mul_div_cancel_left _ hd]
    have hTd : T.length = d * (prd a * (R * C)) := by rw [hT, prd, Nat.mul_assoc]
    have hKp : 0 < prd a := prd_pos fun x hx => ha x (by simp [hx])
    rw [List.cons_append, asmS_cons _ _ _ (by simp), hq]
    have e : ((List.range d).map fun i => asmS (sepK k) (a ++ [R, C]) (part T (prd a * (R * C)) i)) = ((List.range d).map fun i => (List.range (prd a)).map fun m => matS k T ((i * prd a + m) * (R * C)) R C).map joinS := by
      rw [List.map_map]
      apply List.map_congr_left
      intro i hi
      rw [asm_mats k R C hR hC a (fun x hx => ha x (by simp [hx])) (part T (prd a * (R * C)) i) (part_len hTd (List.mem_range.1 hi)), matsR]
      simp only [Function.comp]
      congr 1
      apply List.map_congr_left
      intro m hm
      have h1 : (m + 1) * (R * C) ≤ prd a * (R * C) := Nat.mul_le_mul_right _ (List.mem_range.1 hm)
      rw [Nat.succ_mul] at h1
      rw [mat_part k T _ i _ R C (by omega), Nat.add_mul, Nat.mul_assoc]
    rw [e, join_join _ (fun l hl => by
      obtain ⟨i, _, rfl⟩ := List.mem_map.1 hl
      intro q
      have := congrArg List.length q
      simp at this
      omega), ← range_mul (fun j => matS k T (j * (R * C)) R C) (prd a) d]
    rfl
theorem pad_low (n : Nat) (t : List UInt8) (h : n ≤ t.length) : padS n t = t := by
  rw [padS, Nat.sub_eq_zero_of_le h]; rfl
theorem low_row (k : Int) (T : List (List UInt8)) (C : Nat) (hT : T.length = C) (hC : 0 < C) : asmS (sepK k) [1, C] T = [Lib.join (rowG (List.replicate C 0) T 0) (sepK k)] := by
  have e : asmS (sepK k) [1, C] T = tabT 1 C T (sepK k) := rfl
  rw [e, tab_mat k T 1 C hC (by rw [hT, Nat.one_mul]), matS]
  have hl : (colW T 0 C 1).length = C := by simp [colW]
  have e2 : rowG (colW T 0 C 1) T (0 + 0 * C) = rowG (List.replicate C 0) T 0 := by
    rw [rowG, rowG, hl, List.length_replicate]
    apply List.map_congr_left
    intro c hc
    have hcl := List.mem_range.1 hc
    rw [Nat.zero_mul, pad_low, pad_low]
    · rw [List.getD_eq_getElem?_getD, List.getElem?_eq_getElem (by simpa using hcl)]; simp
    · rw [List.getD_eq_getElem?_getD (l := colW T 0 C 1), List.getElem?_eq_getElem (by omega)]
      simp [colW, colMax]
  rw [Nat.zero_mul, Nat.add_zero] at e2
  simp [e2]
theorem low_none (k : Int) : asmS (sepK k) [1, 0] [] = [Lib.join (rowG (List.replicate 0 0) [] 0) (sepK k)] := by
  simp [asmS, tabT, rowT, rowG]
structure High (sh : List Int) (N R C K : Nat) : Prop where
  r : sh.getD (sh.length - 2) 0 = (R : Int)
  c : sh.getD (sh.length - 1) 0 = (C : Int)
  r0 : 0 < R
  c0 : 0 < C
  k0 : 0 < K
  n : N = K * (R * C)
  sp : ∃ a : List Nat, (∀ x ∈ a, 0 < x) ∧ prd a = K ∧ shp sh = a ++ [R, C]
theorem high_of {sh : List Int} {N : Nat} (D : Dim sh N) (h2 : 2 ≤ sh.length) (hN : N ≠ 0) : High sh N (lastR sh) (lastC sh) (N / (lastR sh * lastC sh)) := by
  obtain ⟨a, x, y, rfl⟩ := two_last sh h2
  have hl : (a ++ [x, y]).length = a.length + 2 := by simp
  have g1 : (a ++ [x, y]).getD ((a ++ [x, y]).length - 2) 0 = x := by
    rw [hl, show a.length + 2 - 2 = a.length by omega, List.getD_eq_getElem?_getD, List.getElem?_append_right (Nat.le_refl _)]
    simp
  have g2 : (a ++ [x, y]).getD ((a ++ [x, y]).length - 1) 0 = y := by
    rw [hl, show a.length + 2 - 1 = a.length + 1 by omega, List.getD_eq_getElem?_getD, List.getElem?_append_right (by omega), show a.length + 1 - a.length = 1 by omega]
    rfl
  have hx := D.pos hN x (by simp)
  have hy := D.pos hN y (by simp)
  have hp : prd (a.map Int.toNat) * (x.toNat * y.toNat) = N := by
    rw [← D.all, List.map_append, prd_app]
    simp [prd]
  have hap : ∀ z ∈ a.map Int.toNat, 0 < z := fun z hz => by
    obtain ⟨u, hu, rfl⟩ := List.mem_map.1 hz
    have := D.pos hN u (by simp [hu])
    omega
  have eR : lastR (a ++ [x, y]) = x.toNat := by rw [lastR, g1]
  have eC : lastC (a ++ [x, y]) = y.toNat := by rw [lastC, g2]
  have hx0 : 0 < x.toNat := by omega
  have hy0 : 0 < y.toNat := by omega
  have hK : N / (x.toNat * y.toNat) = prd (a.map Int.toNat) := by rw [← hp, Nat.mul_div_cancel _ (Nat.mul_pos hx0 hy0)]
  rw [eR, eC, hK]
  refine ⟨by rw [g1]; omega, by rw [g2]; omega, hx0, hy0, prd_pos hap, hp.symm, _, hap, rfl, ?_⟩
  rw [shp, Nat.sub_eq_zero_of_le h2, List.map_append]
  rfl
/-- The reference's lines are the program's. -/
theorem lin_eq (A : Arr) : linR A = linS A := by
  obtain ⟨k, sh, nu, it⟩ := A
  rw [linR, linS]
  by_cases hx : rightE (.mk k sh nu it) = 0
  · have D := dim_of hx
    have hl := ctT_len hx
    rw [if_neg (by simp [hx])]
    by_cases h2 : sh.length < 2
    · rw [if_pos h2, if_neg (by rintro (q | q); exact q hx; omega)]
      have hsh : sh = [] ∨ ∃ x, sh = [x] := by
        match sh, h2 with
        | [], _ => exact .inl rfl
        | [x], _ => exact .inr ⟨x, rfl⟩
        | _ :: _ :: _, h2 => exact absurd h2 (by simp)
      obtain rfl | ⟨x, rfl⟩ := hsh
      · have hN := D.all
        simp only [List.map_nil, prd] at hN
        rw [← hN] at hl ⊢
        exact (low_row k _ 1 hl (by decide)).symm
      · have hN := D.all
        simp only [List.map_cons, List.map_nil, prd, Nat.mul_one] at hN
        have : shp [x] = [1, aSize (.mk k [x] nu it)] := by rw [← hN]; rfl
        rw [this]
        generalize aSize (.mk k [x] nu it) = N at *
        by_cases h0 : N = 0
        · subst h0
          rw [List.eq_nil_of_length_eq_zero hl]
          exact (low_none k).symm
        · exact (low_row k _ N hl (by omega)).symm
    · rw [if_neg h2]
      by_cases hz : aSize (.mk k sh nu it) = 0
      · rw [if_pos hz, if_pos (.inr ⟨by omega, hz⟩)]
      · rw [if_neg hz, if_neg (by rintro (q | q); exact q hx; exact hz q.2)]
        have H := high_of D (by omega) hz
        obtain ⟨a, ha, hK, hs⟩ := H.sp
        rw [hs, asm_mats k _ _ H.r0 H.c0 a ha _ (by rw [hl, hK]; exact H.n), hK]
  · rw [if_pos hx, if_pos (.inl hx)]
set_option maxHeartbeats 4000000 in
/-- The reference's Lines of an array of few elements. -/
theorem LinesRef {A : Arr} {v : Value} {w : World} (h : ArrAt w v A) (hw : wt A ≤ 400) (hR : Reach A) :
    Calls Tryd.prog 12 #[v] w fun e w' => ∃ lv, e = .returned lv ∧ Lns w' w.heap.size lv (linS A) ∧ Below w.heap.size w w' := by
  rw [← lin_eq]
  by_cases hxn : rightE A ≠ 0
  · have e : linR A = [] := by obtain ⟨k, sh, nu, it⟩ := A; rw [linR, if_pos hxn]
    rw [e]
    exact linesR0 A v w h hxn
  have hx : rightE A = 0 := Classical.byContradiction hxn
  obtain ⟨k, sh, nu, it⟩ := A
  rw [linR, if_neg (by simp [hx])]
  by_cases h2 : sh.length < 2
  · rw [if_pos h2]
    exact linesRl k sh nu it v w h hx hw hR sh.length rfl h2
  · rw [if_neg h2]
    by_cases hz : aSize (.mk k sh nu it) = 0
    · rw [if_pos hz]
      exact linesRn k sh nu it v w h hx sh.length rfl (by omega) hz
    · rw [if_neg hz]
      have H := high_of (dim_of hx) (by omega) hz
      exact linesRh k sh nu it v w h hx hw hR sh.length rfl (by omega) _ _ _ H.r H.c H.r0 H.c0 H.n H.k0
end Go.Proofs.YtngcahaidlgkfaaDoor.Shape

namespace Go.Proofs.YtngcahaidlgkfaaDoor.Shape
open Go.RowKit Go.Proofs.YtngcahaidlgkfaaDoor.Num
set_option linter.unusedVariables false
set_option linter.unusedSimpArgs false

/-- The lines with their ends. -/
def ends (L : List (List UInt8)) : List UInt8 := (L.map (· ++ [10])).flatten
theorem ends_app (a b : List (List UInt8)) : ends (a ++ b) = ends a ++ ends b := by simp [ends]
theorem ends_cons (a : List UInt8) (b : List (List UInt8)) : ends (a :: b) = a ++ [10] ++ ends b := by simp [ends]
theorem ends_bd2 (m : Nat) : ∀ (L : List (List UInt8)), (∀ x ∈ L, x.length ≤ m) → (ends L).length ≤ L.length * (m + 1)
  | [], _ => by simp [ends]
  | x :: r, h => by
    have h1 := ends_bd2 m r fun y hy => h y (List.mem_cons_of_mem _ hy)
    have h2 := h x (by simp)
    rw [ends_cons, List.length_append, List.length_append, List.length_cons, List.length_cons, List.length_nil, Nat.succ_mul]
    omega
theorem ends_take (L : List (List UInt8)) (j : Nat) : (ends (L.take j)).length ≤ (ends L).length := by
  conv => rhs; rw [← List.take_append_drop j L, ends_app, List.length_append]
  omega
theorem ends_join (m : Nat) : ∀ (Ls : List (List (List UInt8))), (∀ l ∈ Ls, (ends l).length ≤ m) → (ends (joinS Ls)).length ≤ Ls.length * (m + 1)
  | [], _ => by simp [joinS, ends]
  | b :: r, h => by
    have e : ∀ r : List (List (List UInt8)), (∀ l ∈ r, (ends l).length ≤ m) → (ends (jt r)).length ≤ r.length * (m + 1) := fun r hr => by
      induction r with
      | nil => simp [jt, ends]
      | cons x r ih =>
        have h1 := ih fun y hy => hr y (List.mem_cons_of_mem _ hy)
        have h2 := hr x (by simp)
        have e2 : jt (x :: r) = [] :: (x ++ jt r) := by simp [jt]
        have e3 : (x :: r).length * (m + 1) = r.length * (m + 1) + (m + 1) := by rw [List.length_cons, Nat.succ_mul]
        rw [e2, ends_cons, ends_app, e3]
        simp only [List.length_append, List.length_nil, List.length_cons]
        omega
    have h1 := e r fun y hy => h y (List.mem_cons_of_mem _ hy)
    have h2 := h b (by simp)
    rw [joinS_cons, ends_app, List.length_append, List.length_cons, Nat.succ_mul]
    omega
theorem sepK_one (k : Int) : (sepK k).length ≤ 1 := by unfold sepK; split <;> decide
theorem rowG_bd (k : Int) (T : List (List UInt8)) (f m : Nat) (ws : List Int) (hw : ∀ x ∈ ws, x ≤ m) (hT : ∀ t ∈ T, t.length ≤ m) : (Lib.join (rowG ws T f) (sepK k)).length ≤ ws.length * (m + 1) := by
  have h1 := join_bd (sepK k) m (rowG ws T f) (fun x hx => by
    rw [rowG] at hx
    obtain ⟨c, hc, rfl⟩ := List.mem_map.1 hx
    have hc2 := List.mem_range.1 hc
    refine pad_len _ _ m ?_ ?_
    · rw [List.getD_eq_getElem?_getD, List.getElem?_eq_getElem hc2]; exact hw ws[c] (List.getElem_mem _)
    · by_cases hj : f + c < T.length
      · rw [List.getD_eq_getElem?_getD, List.getElem?_eq_getElem hj]; exact hT _ (List.getElem_mem hj)
      · rw [List.getD_eq_getElem?_getD, List.getElem?_eq_none (by omega)]; simp)
  have h2 : (rowG ws T f).length = ws.length := by simp [rowG]
  rw [h2] at h1
  have h3 := sepK_one k
  have h4 : ws.length * (m + (sepK k).length) ≤ ws.length * (m + 1) := Nat.mul_le_mul_left _ (by omega)
  omega
theorem mat_ends (k : Int) (T : List (List UInt8)) (f R C m : Nat) (hT : ∀ t ∈ T, t.length ≤ m) : (ends (matS k T f R C)).length ≤ R * (C * (m + 1) + 1) := by
  have h1 := ends_bd2 (C * (m + 1)) (matS k T f R C) (fun x hx => by
    rw [matS] at hx
    obtain ⟨r, _, rfl⟩ := List.mem_map.1 hx
    have h1 := rowG_bd k T (f + r * C) m (colW T f C R) (fun x hx => by
      rw [colW] at hx
      obtain ⟨c, _, rfl⟩ := List.mem_map.1 hx
      exact (colMax_bd T f C c m hT R).2) hT
    have h2 : (colW T f C R).length = C := by simp [colW]
    rw [h2] at h1
    exact h1)
  have h2 : (matS k T f R C).length = R := by simp [matS]
  rw [h2] at h1
  exact h1
theorem lin_bd (A : Arr) (hw : wt A ≤ 400) : (ends (linS A)).length ≤ 90000000 ∧ (linS A).length ≤ 1000 := by
  rw [← lin_eq]
  obtain ⟨k, sh, nu, it⟩ := A
  rw [linR]
  by_cases hx : rightE (.mk k sh nu it) = 0
  · have D := dim_of hx
    have hl := ctT_len hx
    have hbd := ctT_bd2 hx hw
    have hwf := wt_few hw
    have hsn := sumW_nn it
    have hN4 : aSize (.mk k sh nu it) ≤ 400 := by
      split at hwf <;> omega
    rw [if_neg (by simp [hx])]
    by_cases h2 : sh.length < 2
    · rw [if_pos h2]
      have h1 := rowG_bd k (ctT (.mk k sh nu it)) 0 210000 (List.replicate (aSize (.mk k sh nu it)) 0) (fun x hx => by rw [List.eq_of_mem_replicate hx]; decide) hbd
      rw [List.length_replicate] at h1
      have h3 : aSize (.mk k sh nu it) * (210000 + 1) ≤ 400 * 210001 := Nat.mul_le_mul_right _ hN4
      rw [ends_cons, List.length_append, List.length_append]
      simp [ends]
      omega
    · rw [if_neg h2]
      by_cases hz : aSize (.mk k sh nu it) = 0
      · rw [if_pos hz]; simp [ends]
      · rw [if_neg hz]
        have H := high_of D (by omega) hz
        generalize hRe : lastR sh = R at *
        generalize hCe : lastC sh = C at *
        generalize hKe : aSize (.mk k sh nu it) / (R * C) = K at *
        have hn := H.n
        have hr0 := H.r0
        have hc0 := H.c0
        have hlen : (matsR k (ctT (.mk k sh nu it)) R C K).length = K := by simp [matsR]
        have h1 := ends_join (R * (C * 210001 + 1)) (matsR k (ctT (.mk k sh nu it)) R C K) (fun l hl => by
          rw [matsR] at hl
          obtain ⟨m, _, rfl⟩ := List.mem_map.1 hl
          exact mat_ends k _ _ R C 210000 hbd)
        have h5 := joinS_bd (R + 1) (matsR k (ctT (.mk k sh nu it)) R C K) (fun l hl => by
          rw [matsR] at hl
          obtain ⟨m, _, rfl⟩ := List.mem_map.1 hl
          have : (matS k (ctT (.mk k sh nu it)) (m * (R * C)) R C).length = R := by simp [matS]
          omega)
        rw [hlen] at h1 h5
        have e1 : K * (R * (C * 210001 + 1) + 1) = K * (R * C) * 210001 + K * R + K := by
          rw [Nat.mul_add, Nat.mul_add, Nat.mul_add, Nat.mul_one, Nat.mul_one, ← Nat.mul_assoc R C, ← Nat.mul_assoc K (R * C)]
        have e2 : K * (R + 1) = K * R + K := Nat.mul_succ _ _
        have h6 : K * R ≤ K * (R * C) := Nat.mul_le_mul_left K (Nat.le_mul_of_pos_right R hc0)
        have h7 : K * 1 ≤ K * R := Nat.mul_le_mul_left K hr0
        rw [← hn] at e1 h6
        have h8 : aSize (.mk k sh nu it) * 210001 ≤ 400 * 210001 := Nat.mul_le_mul_right _ hN4
        omega
  · rw [if_pos hx]; simp [ends]
theorem Lns.form {w : World} {B : Nat} {v : Value} {L : List (List UInt8)} (h : Lns w B v L) : ∃ (ad : Option Addr) (c : Nat), v = .slice ad L.length c ∧ ∀ j (hj : j < L.length), ∃ g : Nat, (∀ w' : World, (Instr.indexAt 30 (.slice ad L.length c) (.int .i64 (j : Int))).run Tryd.prog w' = .ok (.pointer (some ⟨g, j, none⟩)) w') ∧ w.cell? ⟨g, j, none⟩ = some (sv L[j]) := by
  by_cases hL : L = []
  · subst hL
    rcases h.2 with ⟨rfl, h0⟩ | ⟨g, cap, cur, rfl, -⟩
    · exact ⟨none, 0, rfl, fun j hj => absurd hj (by simp)⟩
    · exact ⟨_, cap, rfl, fun j hj => absurd hj (by simp)⟩
  · obtain ⟨g, cap, rfl, hg, _, _, hcell⟩ := h.cell hL
    exact ⟨_, cap, rfl, fun j hj => ⟨g, fun w' => by have := strs_at3 w' g 0 L.length cap j hj; rw [Nat.zero_add] at this; exact this, hcell j hj⟩⟩
/-- The lines L as a slice that is only read. -/
def Rd (w : World) (ad : Option Addr) (n c : Nat) (L : List (List UInt8)) : Prop := ∀ j, j < n → ∃ g : Nat, (∀ w' : World, (Instr.indexAt 30 (.slice ad n c) (.int .i64 (j : Int))).run Tryd.prog w' = .ok (.pointer (some ⟨g, j, none⟩)) w') ∧ w.cell? ⟨g, j, none⟩ = some (.string ⟨(L.getD j []).toArray⟩)
theorem Rd.below {w w' : World} {ad : Option Addr} {n c : Nat} {L : List (List UInt8)} (h : Rd w ad n c L) (hb : Below w.heap.size w w') : Rd w' ad n c L := fun j hj => by
  obtain ⟨g, h1, h2⟩ := h j hj
  exact ⟨g, h1, (hb.cell (cell_lt h2)).trans h2⟩
theorem Lns.rd {w : World} {B : Nat} {v : Value} {L : List (List UInt8)} (h : Lns w B v L) {n : Nat} (hn : L.length = n) : ∃ (ad : Option Addr) (c : Nat), v = .slice ad n c ∧ Rd w ad n c L := by
  subst hn
  obtain ⟨ad, c, rfl, hf⟩ := h.form
  refine ⟨ad, c, rfl, fun j hj => ?_⟩
  obtain ⟨g, h1, h2⟩ := hf j hj
  refine ⟨g, h1, ?_⟩
  rw [h2, List.getD_eq_getElem?_getD, List.getElem?_eq_getElem hj]
  rfl
theorem keepL {w w' : World} {B B' : Nat} {v lv : Value} {S : List UInt8} {L : List (List UInt8)} (hO : OB w B v S) (hg : w.grownBy w' v.ownBlock) (hL : Lns w B' lv L) : Lns w' B' lv L := by
  obtain ⟨h1, h2⟩ := hL
  refine ⟨h1, ?_⟩
  rcases h2 with h2 | ⟨g, cap, cur, rfl, hg', hh, h3⟩
  · exact .inl h2
  · refine .inr ⟨g, cap, cur, rfl, hg', ?_, h3⟩
    rw [hg.block g (Array.getElem?_eq_some_iff.1 hh).1 ?_]
    · exact hh
    · intro e
      rcases hO.2 with ⟨rfl, -⟩ | ⟨k, cap2, cur2, rfl, -, hk, -⟩
      · simp [Value.ownBlock] at e
      · simp [Value.ownBlock] at e
        subst e
        rw [hh] at hk
        simp at hk
theorem wpList_ob_text2 {ops : Array Oper} {rest : List Oper} {o : Oper} {a : Act} {w : World} {Q : Exit → Act → World → Prop} (hgd : o.guard = none) (s x : Operand)
    (ho : o.op = .call { callee := .builtin .append, args := #[s, x], argTypes := #[44, 9] }) (w0 : World)
    (v : Value) (hs : a.eval s = v) (L : List UInt8) (hown : OB w w0.heap.size v L) (hbel : Below w0.heap.size w0 w) {B : Nat} {lv : Value} {Ls : List (List UInt8)} (hL : Lns w B lv Ls)
    (S : List UInt8) (s' : ByteArray) (hS : s' = ⟨S.toArray⟩) (hx : a.eval x = .string s') (hl : L.length + S.length ≤ 100000000)
    (h : ∀ v' w', OB w' w0.heap.size v' (L ++ S) → Below w0.heap.size w0 w' → Lns w' B lv Ls → wpList Tryd.prog ops Q rest (a.put o.dst v') w') :
    wpList Tryd.prog ops Q (o :: rest) a w := by
  subst hS
  obtain ⟨i0, hi, hz0, hz1, hz2⟩ := info_parts byteInfo
  have hsz := hbel.size
  have e : (ByteArray.mk S.toArray).size = S.length := by simp [ByteArray.size]
  refine Go.Lib.wpList_append_own_string (P := Tryd.prog) w hgd _ _ 44 9 ho w0.heap.size 5 i0 Tryd.underlying44 Tryd.underlying9 hi hz0 hz1 hz2 v L.length (bc L) hs hown ⟨S.toArray⟩ hx (by rw [e]; unfold maxLen; omega) (by rw [e]; omega) hsz ?_
  intro v' w' hown' hgrow _
  refine h v' w' ?_ (hbel.grown hgrow hsz (fun j hj => (hown.lt j hj).1)) (keepL hown hgrow hL)
  rw [e, cells_bc] at hown'
  unfold OB
  have e2 : bc (L ++ S) = bc L ++ bc S := by simp [bc]
  rw [List.length_append, e2]
  exact hown'
theorem wpList_append_byte2 {ops : Array Oper} {rest : List Oper} {o : Oper} {a : Act} {w : World} {Q : Exit → Act → World → Prop} (hgd : o.guard = none) (s x : Operand)
    (ho : o.op = .call { callee := .builtin .append, args := #[s, x], argTypes := #[44, 44] }) (w0 W : World) (c : Int) (hw : w = W.alloc (.cells #[.int .u8 c] 5))
    (v : Value) (hs : a.eval s = v) (L : List UInt8) (hown : OB W w0.heap.size v L) (hbel : Below w0.heap.size w0 W) {B : Nat} {lv : Value} {Ls : List (List UInt8)} (hL : Lns W B lv Ls)
    (b : UInt8) (hc : c = b.toNat) (hx : a.eval x = .slice (some ⟨W.heap.size, 0, none⟩) 1 1) (hl : L.length ≤ 100000000)
    (h : ∀ v' w', OB w' w0.heap.size v' (L ++ [b]) → Below w0.heap.size w0 w' → Lns w' B lv Ls → wpList Tryd.prog ops Q rest (a.put o.dst v') w') :
    wpList Tryd.prog ops Q (o :: rest) a w := by
  subst hw; subst hc
  obtain ⟨i0, hi, hz0, hz1, hz2⟩ := info_parts byteInfo
  have hsz := hbel.size
  have hOa : OB (W.alloc (.cells #[.int .u8 (b.toNat : Int)] 5)) w0.heap.size v L := hown.below (below_new _ _)
  have hLa : Lns (W.alloc (.cells #[.int .u8 (b.toNat : Int)] 5)) B lv Ls := hL.below (below_new _ _)
  refine wpList_append_own _ hgd _ _ 44 ho w0.heap.size 5 i0 (.int .u8 0) 1 1 Tryd.underlying44 hi hz0 hz1 hz2 rfl (by decide) v L.length (bc L) hs hOa ⟨W.heap.size, 0, none⟩ 1 1 [.int .u8 (b.toNat : Int)] hx rfl ?_ ?_ (by unfold maxLen; omega) (by omega) (by simp; omega) ?_
  · intro j u hj
    match j, hj with
    | 0, hj => simp at hj; subst hj; simp [Addr.add]
  · intro u hu; simp at hu; subst hu; rfl
  · intro v' w' hown' hgrow _
    refine h v' w' ?_ ((hbel.alloc hbel.size _).grown hgrow (by simp; omega) (fun j hj => (hOa.lt j hj).1)) (keepL hOa hgrow hLa)
    have e1 : (L ++ [b]).length = L.length + 1 := by simp
    have e2 : bc (L ++ [b]) = bc L ++ [.int .u8 (b.toNat : Int)] := by simp [bc]
    unfold OB
    rw [e1, e2]; exact hown'
set_option maxRecDepth 100000 in
set_option maxHeartbeats 8000000 in
/-- The reference's Show of an array of few elements. -/
theorem ShowRef {A : Arr} {v : Value} {w : World} (h : ArrAt w v A) (hw : wt A ≤ 400) (hR : Reach A) :
    Calls Tryd.prog 14 #[v] w fun e w' => e = .returned (.string ⟨(ends (linS A)).toArray⟩) ∧ Below w.heap.size w w' := by
  obtain ⟨hb1, hb2⟩ := lin_bd A hw
  have cL := fun W (g : Below w.heap.size w W) => LinesRef (h.below g) hw hR
  obtain ⟨c0, c1, c2, c3, rfl⟩ : ∃ c0 c1 c2 c3 : Value, v = .agg #[c0, c1, c2, c3] := by
    obtain ⟨k, sh, nu, it⟩ := A
    rw [ArrAt] at h
    obtain ⟨sa, sc, na, nc, ia, ic, rfl, -⟩ := h
    exact ⟨_, _, _, _, rfl⟩
  have bw := below_new w (.cells #[c0, c1, c2, c3] 26)
  have q0 := Quad.new w c0 c1 c2 c3
  obtain ⟨w0, hw0⟩ : ∃ w0, w.alloc (.cells #[c0, c1, c2, c3] 26) = w0 := ⟨_, rfl⟩
  rw [hw0] at bw q0
  have q1 := q0.below (below_new w0 (.cells #[] 5))
  obtain ⟨p0, p1, p2, p3, -⟩ := q1.cells
  have b1 := Below.then bw (below_new w0 (.cells #[] 5))
  have hlit := OB.lit w0 #[] [] (by rfl) (by decide)
  have hbl := below_new w0 (.cells #[] 5)
  obtain ⟨L, hL⟩ : ∃ L, Hid (linS A = L) := ⟨_, Lib.hid rfl⟩
  rw [hL.out] at hb1 hb2 cL
  obtain ⟨n, hn⟩ : ∃ n, L.length = n := ⟨_, rfl⟩
  have Hn : Hid (L.length = n) := hn
  rw [hL.out]
  clear h
  have cL2 : ∀ W, Below w.heap.size w W → Calls Tryd.prog 12 #[.agg #[c0, c1, c2, c3]] W fun e w' => ∃ ad c, e = .returned (.slice ad n c) ∧ Lns w' W.heap.size (.slice ad n c) L ∧ Below W.heap.size W w' := fun W hW => (cL W hW).mono (by
    rintro e w' ⟨lv, rfl, V, b⟩
    obtain ⟨ad, c, rfl, hr⟩ := V.rd hn
    exact ⟨ad, c, rfl, V, b⟩)
  clear cL
  go_enter Tryd.func14, Tryd.ntmps14
  go_wp2_with (go_at_call 12; (with_reducible refine (cL2 _ b1).mono ?_); rintro e2 w2 ⟨ad, cc, rfl, V, b2⟩; (have O2 := OB.below hlit b2); (have B2 : Below w0.heap.size w0 w2 := Below.trans hbl (b2.mono hbl.size)))
  go_loopw [3, 5] (fun t i wr => ∃ (j : Nat) (S : List UInt8), j ≤ n ∧ i = .int .i64 (j : Int) ∧ Hid (S = ends (L.take j)) ∧ OB wr w0.heap.size t S ∧ Below w0.heap.size w0 wr ∧ Lns wr (w0.alloc (.cells #[] 5)).heap.size (.slice ad n cc) L) (fun _ i _ => n - (intOf i).toNat)
  case atStart => exact ⟨0, [], Nat.zero_le _, rfl, rfl, O2, B2, V⟩
  case round =>
    obtain ⟨j, S, hj, rfl, hS, hO, hb, VV⟩ := hrel
    have hSl : S.length ≤ 90000000 := by rw [hS.out]; exact Nat.le_trans (ends_take L j) hb1
    by_cases hlt : j < n
    · obtain ⟨ad', cc', e', hr⟩ := VV.rd hn
      cases e'
      obtain ⟨g, ix, cx⟩ := hr j hlt
      have hjl : j < L.length := by omega
      have hSl2 : (S ++ L[j]).length ≤ 90000000 := by
        have h1 := ends_take L (j + 1)
        rw [List.take_succ_eq_append_getElem hjl, ends_app, List.length_append, ← hS.out] at h1
        have h2 : (ends [L[j]]).length = L[j].length + 1 := by simp [ends]
        rw [List.length_append]
        omega
      have hLs : Hid ((S ++ L[j]) ++ [10] = ends (L.take (j + 1))) := by
        unfold Hid
        rw [List.take_succ_eq_append_getElem hjl, ends_app, ← hS.out]
        simp [ends]
      rw [List.getD_eq_getElem?_getD, List.getElem?_eq_getElem hjl, Option.getD_some] at cx
      generalize L[j] = x at *
      rw [List.length_append] at hSl2
      have hSl3 : (S ++ x).length ≤ 100000000 := by rw [List.length_append]; omega
      obtain ⟨xb, hxb⟩ : ∃ xb : ByteArray, xb = ⟨x.toArray⟩ := ⟨_, rfl⟩
      have Hxb := Lib.hid hxb
      rw [← hxb] at cx
      clear hS hxb hr hjl V O2 B2
      go_wp2_with (first
        | (at_builtin; refine wpList_ob_text2 rfl _ _ rfl w0 _ rfl S hO hb VV x _ Hxb.out rfl (by omega) ?_; intro v3 w3 hO3 hb3 V3)
        | (at_builtin; refine wpList_append_byte2 rfl _ _ rfl w0 w3 10 rfl _ rfl (S ++ x) hO3 hb3 V3 10 (by decide) rfl hSl3 ?_; intro v4 w4 hO4 hb4 V4))
      go_roundw
      case rel => exact ⟨j + 1, _, by omega, by go_num, hLs, hO4, hb4, V4⟩
      case measure => simp [intOf]; omega
    · obtain rfl : n = j := by omega
      have hq : Hid (S = ends L) := by
        unfold Hid
        rw [hS.out, List.take_of_length_le (by rw [Hn.out]; exact Nat.le_refl _)]
      have hcv := conv_text hO
      have hn0 : ¬ (n : Int) < (n : Int) := by omega
      clear V VV
      go_wp2_with fail
      go_ret
      exact ⟨by rw [← hq.out]; rfl, Below.trans bw (hb.mono bw.size)⟩
end Go.Proofs.YtngcahaidlgkfaaDoor.Shape

namespace Go.Proofs.YtngcahaidlgkfaaDoor.Shape
open Go.Shelf Go.RowKit Go.Lib
set_option linter.unusedVariables false
set_option maxRecDepth 100000

def Tabs5 (w : World) : Prop := Tok.TZ w ∧ 3 < w.heap.size
theorem cardOwn : ownKnob Tryd.prog.godebug = none := by kernel_rfl
def dbTab : List Int := [0, 1, 56, 2, 57, 49, 28, 3, 61, 58, 42, 50, 38, 29, 17, 4, 62, 47, 59, 36, 45, 43, 51, 22, 53, 39, 33, 30, 24, 18, 12, 5, 63, 55, 48, 27, 60, 41, 37, 16, 46, 35, 44, 21, 52, 32, 23, 11, 54, 26, 40, 15, 34, 20, 31, 10, 25, 14, 19, 9, 13, 8, 7, 6]
theorem db_eq : (Rows.laid_math_bits_deBruijn64tab : DataW Unit) = Lib.tabData .u8 dbTab := by kernel_rfl
theorem tz_of {w : World} (h : VarReads Tryd.prog w "math/bits.deBruijn64tab" (Lib.tabData .u8 dbTab)) : Tok.TZ w := by
  obtain ⟨g, t, cs, fuel, p, hg, hty, hvar, hd⟩ := h
  obtain rfl := Option.some.inj ((show Tryd.prog.globalNamed "math/bits.deBruijn64tab" = some 3 by kernel_rfl).symm.trans hg)
  obtain rfl := Option.some.inj ((show (Tryd.prog.globals[3]?).map (·.type) = some 113 by kernel_rfl).symm.trans hty)
  have hcs := cells_of_tab Tryd.underlying113 Tryd.underlying5 (by kernel_rfl) (by kernel_rfl) hd
  have := World.var?_cell hg hvar 15
  rw [Tok.TZ, this]
  have e : cs[15]? = (dbTab.map fun z => Value.int .u8 z)[15]? := by rw [← hcs, Array.getElem?_toList]
  rw [e]
  rfl
/-- A settled world, the listed variables holding what their initialisers lay. -/
noncomputable def laidWorld (os : Os) : World :=
  let w0 := World.holding Tryd.prog os ⟨#[], #[], []⟩
  let put (h : Array Obj) (g : Nat) (cs : Array Value) : Array Obj := h.modify g fun
    | .cells _ t frozen => .cells cs t frozen
    | o => o
  let h4 := put w0.heap 1 (((List.range 20).map fun i => Value.int .u64 ((10 ^ i : Nat) : Int))).toArray
  let h5 := put h4 2 (([0, 1, 28, 2, 29, 14, 24, 3, 30, 22, 20, 15, 25, 17, 4, 8, 31, 27, 13, 23, 21, 19, 16, 7, 26, 12, 18, 6, 11, 5, 10, 9] : List Int).map fun z => Value.int .u8 z).toArray
  let h6 := put h5 3 (dbTab.map fun z => Value.int .u8 z).toArray
  { w0 with heap := h6 }
theorem laid_met (os : Os) (args : Array Value) : laidMet Tryd.prog Rows.formatLiteralsRow.laid ((laidWorld os).forCall (fun _ _ => 0) ⟨#[], args, []⟩).memory :=
  (LaidIn.of_run (l := Rows.formatLiteralsRow.laid) [2, 3, 1] 8 (by kernel_rfl) (by kernel_rfl) (by kernel_rfl) (by kernel_rfl)).met
theorem tabs_of {W : World} (hL : laidMetH Tryd.prog Rows.formatLiteralsRow.laid W) : Tabs5 W := by
  have h5 := Lib.laidMet.reads (d := (Rows.laid_math_bits_deBruijn64tab : DataW Unit)) hL (.tail _ (.head _))
  rw [db_eq] at h5
  have hz := tz_of h5
  refine ⟨hz, ?_⟩
  rw [Tok.TZ] at hz
  exact World.block_lt_of_cell? W _ hz
set_option maxHeartbeats 4000000 in
theorem fewR5 {v : Value} {A : Arr} {w : World} (h : ArrAt w v A) : Calls Tryd.prog 7 #[v] w fun e w' => e = .returned (.bool (decide (wt A ≤ 400))) ∧ Below w.heap.size w w' := by
  obtain ⟨c0, c1, c2, c3, rfl⟩ : ∃ c0 c1 c2 c3 : Value, v = .agg #[c0, c1, c2, c3] := by
    obtain ⟨k, sh, nu, it⟩ := A
    rw [ArrAt] at h
    obtain ⟨sa, sc, na, nc, ia, ic, rfl, -⟩ := h
    exact ⟨_, _, _, _, rfl⟩
  have bw := below_new w (.cells #[c0, c1, c2, c3] 26)
  have q0 := Quad.new w c0 c1 c2 c3
  obtain ⟨p0, p1, p2, p3, -⟩ := q0.cells
  have cW := weightR _ _ _ (h.below bw)
  generalize wt A = x at *
  clear h
  go_enter Tryd.func7, Tryd.ntmps7
  go_wp2_with (go_at_call 17; (with_reducible refine cW.mono ?_); rintro e1 w1 ⟨rfl, b1⟩)
  go_ret
  exact ⟨rfl, Below.then bw b1⟩
end Go.Proofs.YtngcahaidlgkfaaDoor.Shape

namespace Go.Proofs.YtngcahaidlgkfaaDoor.Shape
open Go.RowKit Go.Proofs.YtngcahaidlgkfaaDoor.Num
set_option linter.unusedVariables false
set_option linter.unusedSimpArgs false

set_option maxRecDepth 100000 in
set_option maxHeartbeats 16000000 in
theorem linesLaw {A : Arr} {v : Value} {w : World} (h : ArrAt w v A) (hR : Reach A) (hT : Tok.TZ w) (hg : 3 < w.heap.size) :
    Calls Tryd.prog 4 #[v] w fun e w' => e = .returned (.bool true) ∧ Below w.heap.size w w' := by
  have tz : ∀ W, Below w.heap.size w W → Tok.TZ W := fun W h => Tok.TZ.below hT h
  have gz : ∀ W, Below w.heap.size w W → 3 < W.heap.size := fun W h => Nat.lt_of_lt_of_le hg h.size
  obtain ⟨c0, c1, c2, c3, rfl⟩ : ∃ c0 c1 c2 c3 : Value, v = .agg #[c0, c1, c2, c3] := by
    obtain ⟨k, sh, nu, it⟩ := A
    rw [ArrAt] at h
    obtain ⟨sa, sc, na, nc, ia, ic, rfl, -⟩ := h
    exact ⟨_, _, _, _, rfl⟩
  have bw := below_new w (.cells #[c0, c1, c2, c3] 26)
  have q0 := Quad.new w c0 c1 c2 c3
  obtain ⟨p0, p1, p2, p3, -⟩ := q0.cells
  have cF := fewR5 (h.below bw)
  by_cases hw : wt A ≤ 400
  · rw [decide_eq_true hw] at cF
    obtain ⟨n, hn⟩ : ∃ n, (linS A).length = n := ⟨_, rfl⟩
    obtain ⟨hb1, hb2⟩ := lin_bd A hw
    have cP : ∀ W, Below w.heap.size w W → Calls Tryd.prog 11 #[.agg #[c0, c1, c2, c3]] W fun e w' => ∃ ad c, e = .returned (.slice ad n c) ∧ Rd w' ad n c (linS A) ∧ Below W.heap.size W w' := fun W hW => (linesP (h.below hW) hw (tz W hW) (gz W hW)).mono (by
      rintro e w' ⟨lv, rfl, V, b⟩
      obtain ⟨ad, c, rfl, hr⟩ := V.rd hn
      exact ⟨ad, c, rfl, hr, b⟩)
    have cR : ∀ W, Below w.heap.size w W → Calls Tryd.prog 12 #[.agg #[c0, c1, c2, c3]] W fun e w' => ∃ ad c, e = .returned (.slice ad n c) ∧ Rd w' ad n c (linS A) ∧ Below W.heap.size W w' := fun W hW => (LinesRef (h.below hW) hw hR).mono (by
      rintro e w' ⟨lv, rfl, V, b⟩
      obtain ⟨ad, c, rfl, hr⟩ := V.rd hn
      exact ⟨ad, c, rfl, hr, b⟩)
    obtain ⟨sb, hsb⟩ : ∃ sb : ByteArray, sb = ⟨(ends (linS A)).toArray⟩ := ⟨_, rfl⟩
    have cS : ∀ W, Below w.heap.size w W → Calls Tryd.prog 13 #[.agg #[c0, c1, c2, c3]] W fun e w' => e = .returned (.string sb) ∧ Below W.heap.size W w' := fun W hW => by
      have := showQ_of (linS A) _ A W (h.below hW) (by omega) (by rw [join_ends]; exact Nat.le_trans hb1 (by decide)) (fun W2 h2 => (linesP (h.below (Below.then hW h2)) hw (tz W2 (Below.then hW h2)) (gz W2 (Below.then hW h2))).mono (by
        rintro e w' ⟨lv, rfl, V, b⟩
        exact ⟨_, rfl, V.mono h2.size, b⟩))
      rw [join_ends] at this
      rw [hsb]
      exact this
    have cT : ∀ W, Below w.heap.size w W → Calls Tryd.prog 14 #[.agg #[c0, c1, c2, c3]] W fun e w' => e = .returned (.string sb) ∧ Below W.heap.size W w' := fun W hW => by
      rw [hsb]
      exact ShowRef (h.below hW) hw hR
    generalize linS A = L at *
    have hn1000 : n ≤ 1000 := by omega
    clear h hT hg hsb hR hw hb1 hb2 hn
    go_enter Tryd.func4, Tryd.ntmps4
    go_wp2_with (go_at_call 7; (with_reducible refine cF.mono ?_); rintro e1 w1 ⟨rfl, b1⟩; (have L1 := Below.then bw b1); (have H0 : ∀ w', Below w1.heap.size w1 w' → (w'.cell? ⟨w.heap.size, 0, none⟩ = some c0 ∧ w'.cell? ⟨w.heap.size, 1, none⟩ = some c1 ∧ w'.cell? ⟨w.heap.size, 2, none⟩ = some c2 ∧ w'.cell? ⟨w.heap.size, 3, none⟩ = some c3) ∧ Below w1.heap.size w1 w' := fun w' h => by obtain ⟨y0, y1, y2, y3, -⟩ := ((q0.below b1).below h).cells; exact ⟨⟨y0, y1, y2, y3⟩, h⟩))
    go_region_held3 (fun w' => (w'.cell? ⟨w.heap.size, 0, none⟩ = some c0 ∧ w'.cell? ⟨w.heap.size, 1, none⟩ = some c1 ∧ w'.cell? ⟨w.heap.size, 2, none⟩ = some c2 ∧ w'.cell? ⟨w.heap.size, 3, none⟩ = some c3) ∧ Below w1.heap.size w1 w')
      (first | exact H0 _ B3 | exact H0 _ B2 | exact H0 _ (Below.refl _ _).drew | go_keep)
      ((first
        | (go_at_call 11; (with_reducible refine (cP _ (Below.then L1 (by go_grown))).mono ?_); rintro e2 w2 ⟨ad2, k2, rfl, V2, b2⟩; (have B2 : Below w1.heap.size w1 w2 := Below.then (by go_grown) b2))
        | (go_at_call 12; (with_reducible refine (cR _ (Below.then L1 B2)).mono ?_); rintro e3 w3 ⟨ad3, k3, rfl, V3, b3⟩; (have B3 : Below w1.heap.size w1 w3 := Below.then B2 b3); (have U3 := V2.below b3))))
    all_goals go_wp2_with fail
    go_loopw [5] (fun i wr => ∃ j : Nat, j ≤ n ∧ i = .int .i64 (j : Int) ∧ Below w3.heap.size w3 wr) (fun i _ => n - (intOf i).toNat)
    case atStart => exact ⟨0, Nat.zero_le _, rfl, by first | exact Below.refl _ _ | exact (Below.refl _ _).drew⟩
    case round =>
      obtain ⟨j, hj, rfl, Bw⟩ := hrel
      by_cases hlt : j < n
      · obtain ⟨g, ix, cx⟩ := V3.below Bw j hlt
        obtain ⟨g2, ix2, cx2⟩ := U3.below Bw j hlt
        have hlt' : (j : Int) < (n : Int) := by omega
        generalize (⟨(L.getD j []).toArray⟩ : ByteArray) = t at *
        clear cP cR cS cT V3 U3 V2
        go_wp2_with fail
        go_region
        all_goals go_wp2_with fail
        all_goals go_roundw
        case rel => exact ⟨j + 1, by omega, by go_num, by first | exact Bw.drew | exact Bw⟩
        case measure => simp [intOf]; omega
      · obtain rfl : n = j := by omega
        have hn0 : ¬ (n : Int) < (n : Int) := by omega
        have L3 : Below w.heap.size w w3 := Below.then L1 B3
        have L4 : Below w.heap.size w wr := Below.then L3 Bw
        have H4 : ∀ w', Below wr.heap.size wr w' → (w'.cell? ⟨w.heap.size, 0, none⟩ = some c0 ∧ w'.cell? ⟨w.heap.size, 1, none⟩ = some c1 ∧ w'.cell? ⟨w.heap.size, 2, none⟩ = some c2 ∧ w'.cell? ⟨w.heap.size, 3, none⟩ = some c3) ∧ Below wr.heap.size wr w' := fun w' h => ⟨(H0 _ (Below.then (Below.then B3 Bw) h)).1, h⟩
        clear cP cR V3 U3 V2 H0
        go_wp2_with fail
        go_region_held3 (fun w' => (w'.cell? ⟨w.heap.size, 0, none⟩ = some c0 ∧ w'.cell? ⟨w.heap.size, 1, none⟩ = some c1 ∧ w'.cell? ⟨w.heap.size, 2, none⟩ = some c2 ∧ w'.cell? ⟨w.heap.size, 3, none⟩ = some c3) ∧ Below wr.heap.size wr w')
          (first | exact H4 _ B6 | exact H4 _ B5 | exact H4 _ (Below.refl _ _).drew | go_keep)
          ((first
            | (go_at_call 13; (with_reducible refine (cS _ (Below.then L4 (by go_grown))).mono ?_); rintro e5 w5 ⟨rfl, b5⟩; (have B5 : Below wr.heap.size wr w5 := Below.then (by go_grown) b5))
            | (go_at_call 14; (with_reducible refine (cT _ (Below.then L4 B5)).mono ?_); rintro e6 w6 ⟨rfl, b6⟩; (have B6 : Below wr.heap.size wr w6 := Below.then B5 b6))
            | (go_at_call 8; (with_reducible refine (knowsQ _ (tz _ (Below.then L4 B6)) (gz _ (Below.then L4 B6))).mono ?_); rintro e7 w7 ⟨rfl, b7⟩; (have B7 : Below wr.heap.size wr w7 := Below.then B6 b7))))
        all_goals go_wp2_with fail
        all_goals go_ret
        all_goals exact ⟨rfl, Below.then L4 B7⟩
  · rw [decide_eq_false hw] at cF
    clear h hR hT hg
    go_enter Tryd.func4, Tryd.ntmps4
    go_wp2_with (first
      | (go_at_call 7; (with_reducible refine cF.mono ?_); rintro e1 w1 ⟨rfl, b1⟩; (have L1 := Below.then bw b1))
      | (go_at_call 8; (with_reducible refine (knowsQ _ (tz _ L1) (gz _ L1)).mono ?_); rintro e4 w4 ⟨rfl, b4⟩; (have L4 := Below.then L1 b4)))
    go_ret
    exact ⟨rfl, L4⟩
end Go.Proofs.YtngcahaidlgkfaaDoor.Shape
