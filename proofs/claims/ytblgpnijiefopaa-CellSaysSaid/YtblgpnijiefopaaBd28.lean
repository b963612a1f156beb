/-
  Layer 4: small things for the reference's Cells.
  Layer 4: the reference's Cells.
-/
import Derived.Test.YtblgpnijiefopaaBd18
import Derived.Test.YtblgpnijiefopaaBd27
import Derived.Deep.RegionHeldLaw
import Derived.Deep.RegionLaw
import Derived.Deep.DeepCutAuto
import Derived.Deep.AppendLies
import Derived.Handy
namespace Go.Proofs.Ytblgpnijiefopaa.Shape
open Go.RowKit
set_option linter.unusedVariables false

theorem ints_set4x {w : World} {a : Option Addr} {c B n X l : Nat} {xs : List Int} {z0 z1 z2 z3 : Value} (hl : l = xs.length) (ho : w.ownsRow B 3 1 (.slice a l c) n (xs.map (Value.int .i64))) (q : Quad w X z0 z1 z2 z3) (hb : ∀ x ∈ xs, -9223372036854775808 ≤ x ∧ x ≤ 9223372036854775807) (c0 c1 c2 c3 : Value) :
    IntsOn (fun g => B ≤ g ∧ g ≠ X) ((((w.setCell ⟨X, 0, none⟩ c0).setCell ⟨X, 1, none⟩ c1).setCell ⟨X, 2, none⟩ c2).setCell ⟨X, 3, none⟩ c3) a c xs := by
  subst hl
  have hn : n = xs.length := by
    rcases ho.2 with ⟨hv, h0⟩ | ⟨g, cap, cur, hv, -⟩
    · simp only [Value.slice.injEq] at hv
      rw [hv.2.1, h0]
    · simp only [Value.slice.injEq] at hv
      exact hv.2.1.symm
  obtain ⟨a', c', hv, hi⟩ := row_ints hn ho q hb
  simp only [Value.slice.injEq, true_and] at hv
  obtain ⟨rfl, rfl⟩ := hv
  exact (hi.keep (R := fun g => B ≤ g ∧ g ≠ X) fun g hg _ => ⟨hg, fun o => World.cell?_of_block ((set4 q c0 c1 c2 c3).2 g hg.2)⟩)
/-- A number appended to the row in the third cell of the block R0. -/
theorem appN {R : Nat} {w0 W : World} {B n R0 : Nat} {V v : Value} {qs qs2 : List Value} {c0 c1 c3 : Value} {o : Obj} (P : PutS R w0 W B 3 1 V v n qs) (Q0 : Quad W R0 c0 c1 v c3) (hv : v.ownBlock ≠ some R0) (hB : B ≤ w0.heap.size) (hX : R0 = R ∨ w0.heap.size ≤ R0) (hBR : B ≤ R0) :
    ∀ (g cap : Nat) (w5 : World), w5.ownsRow B 3 1 (.slice (some ⟨g, 0, none⟩) (n + 1) cap) (n + 1) qs2 → (W.alloc o).drew.grownBy w5 v.ownBlock → (v.ownBlock = some g ∨ g = W.heap.size + 1) →
      PutS R w0 (w5.setCell ⟨R0, 2, none⟩ (.slice (some ⟨g, 0, none⟩) (n + 1) cap)) B 3 1 V (.slice (some ⟨g, 0, none⟩) (n + 1) cap) (n + 1) qs2 ∧ Quad w5 R0 c0 c1 v c3 ∧ Quad (w5.setCell ⟨R0, 2, none⟩ (.slice (some ⟨g, 0, none⟩) (n + 1) cap)) R0 c0 c1 (.slice (some ⟨g, 0, none⟩) (n + 1) cap) c3 := by
  intro g cap w5 h1 h2d h3
  have h2 : (W.alloc o).grownBy w5 v.ownBlock := ⟨h2d.os, h2d.tape, h2d.output, h2d.size, h2d.block⟩
  have bl := below_new W o
  have h3' : v.ownBlock = some g ∨ W.heap.size ≤ g := h3.imp id fun h => by omega
  obtain ⟨x1, x2⟩ := grow_other bl h2 (b := R0) Q0.lt hv h3'
  have hne : (Value.slice (some ⟨g, 0, none⟩) (n + 1) cap).ownBlock ≠ some R0 := by simpa [Value.ownBlock] using x2
  exact ⟨(P.grow bl hB h1 h2 h3').set hX hBR hne _, Q0.keep x1, ((Q0.keep x1).set _).2.2.1⟩
theorem RowI.below_base {w w1 : World} (h : RowI w w (.slice none 0 0) []) (hb : Below w.heap.size w w1) : RowI w w1 (.slice none 0 0) [] := h.below hb
/-- Sums of the inner loop. -/
theorem cell_nums {j s cnt q : Nat} (hj : j < cnt) (hc : cnt ≤ 65536) (hs : s ≤ 65536) (hcs : cnt * s ≤ 65536) (hq : j * s = q) : ∃ Q2 : Nat, Hid (Q2 = q + s) ∧ (j : Int) * (s : Int) = (q : Int) ∧ (q : Int) + (s : Int) = (Q2 : Int) ∧ q ≤ 65536 ∧ Q2 ≤ 65536 := by
  have h1 : (j + 1) * s ≤ cnt * s := Nat.mul_le_mul_right _ hj
  rw [Nat.succ_mul] at h1
  refine ⟨q + s, rfl, by rw [← hq]; simp, by simp, by omega, by omega⟩
theorem take_succB {α : Type} {l : List α} {m : Nat} (h : m < l.length) : l.take (m + 1) = l.take m ++ [l[m]] := by
  rw [List.take_add_one]; simp [h]
theorem blk_at {α : Type} {l : List α} {i s m p : Nat} (hp : p = i * s + m) (hm : m < s) (h : (i + 1) * s ≤ l.length) : ∃ (h1 : m < (blk l i s).length) (h2 : p < l.length), (blk l i s)[m] = l[p] := by
  have hl := blk_len h
  have h3 := h
  rw [Nat.succ_mul] at h3
  refine ⟨by omega, by omega, ?_⟩
  simp only [blk, List.getElem_take, List.getElem_drop]
  congr 1
  omega
end Go.Proofs.Ytblgpnijiefopaa.Shape

namespace Go.Proofs.Ytblgpnijiefopaa.Shape
open Go.RowKit
set_option linter.unusedVariables false

set_option maxRecDepth 100000 in
set_option maxHeartbeats 4000000 in
theorem cellsR (v : Value) (A : Arr) (k : Int) (w : World) (h : ArrAt w v A) (hr : Reach A) (hk : -9223372036854775808 ≤ k ∧ k ≤ 9223372036854775807) :
    Calls Try.prog 22 #[v, .int .i64 k] w fun e w' => ∃ a' c' b', e = .returned (.slice a' (cellsS A k).length c') ∧ (cellsS A k).length ≤ c' ∧ c' ≤ 9223372036854775807 ∧ (cellsS A k ≠ [] → a' = some ⟨b', 0, none⟩) ∧ ArrsAt w' b' 0 (cellsS A k) ∧ Below w.heap.size w w' := by
  have h0 := h
  have hr0 := hr
  obtain ⟨kk, sh, nu, it⟩ := A
  rw [ArrAt] at h
  obtain ⟨sa, sc, na, nc, ia, ic, rfl, hkd, hs, hn, h1, h2, b, off, ha, hc⟩ := h
  rw [Reach] at hr
  obtain ⟨r1, r2, r3, r4⟩ := hr
  have bw := below_new w (.cells #[.int .i64 kk, .slice sa sh.length sc, .slice na nu.length nc, .slice ia it.length ic] 26)
  have q0 := Quad.new w (.int .i64 kk) (.slice sa sh.length sc) (.slice na nu.length nc) (.slice ia it.length ic)
  have hA := h0.below bw
  obtain ⟨x, hx⟩ : ∃ x, rightE (.mk kk sh nu it) = x := ⟨_, rfl⟩
  have R := fun v' w' (g : ArrAt w' v' (.mk kk sh nu it)) => rightR3 v' (.mk kk sh nu it) w' g
  rw [hx] at R
  by_cases hx0 : x = 0
  · subst hx0
    have hrs : rightB sh = true := right_short hx
    obtain ⟨L1, L2, L3, L4, -, -⟩ := right_lens hx
    have hF := frN_le (.mk kk sh nu it) k
    have hE : cellsS (.mk kk sh nu it) k = (List.range (prN (sh.take (frN (.mk kk sh nu it) k)))).map (cellA (.mk kk sh nu it) (frN (.mk kk sh nu it) k)) := by rw [cellsS, if_pos hx]; rfl
    rw [hE]
    clear hE
    have h00 := h0
    obtain ⟨cR, hcR, hsub, hc0, hc1⟩ := frN_int (.mk kk sh nu it) k
    have hlsh := hs.len
    have R2 := fun W => rankR k (sh.length : Int) W hk (by omega)
    rw [show rankS k (sh.length : Int) = cR from hcR] at R2
    have hsub' : (sh.length : Int) - cR = (frN (.mk kk sh nu it) k : Int) := hsub
    clear hsub hcR hc0 hc1
    generalize frN (.mk kk sh nu it) k = r at *
    have hF' : r ≤ sh.length := hF
    obtain ⟨cnt, hcnt⟩ : ∃ c, prN (sh.take r) = c := ⟨_, rfl⟩
    obtain ⟨s, hs'⟩ : ∃ s, prN (sh.drop r) = s := ⟨_, rfl⟩
    have hsp : prN sh = cnt * s := by
      have := prN_append (a := sh.take r) (b := sh.drop r) (right_def.1 (right_take hrs)).2.1 (right_def.1 (right_drop hrs)).2.1
      rw [List.take_append_drop] at this
      rw [this, hcnt, hs']
    have hcs6 : cnt * s ≤ 65536 := by rw [← hsp]; exact prN_le hrs
    have hc6 : cnt ≤ 65536 := by rw [← hcnt]; exact prN_le (right_take hrs)
    have hs6 : s ≤ 65536 := by rw [← hs']; exact prN_le (right_drop hrs)
    have HCS : Hid (cnt * s ≤ 65536) := hcs6
    clear hcs6
    have h8 := (right_def.1 hrs).1
    rw [hcnt]
    obtain ⟨i2, s2⟩ := hs.from r hF'
    obtain ⟨i3, s3⟩ := hs.cut r hF'
    have lT : (sh.take r).length = r := by rw [List.length_take]; omega
    have SF1 := fun W (g : IntsAt W (cutAt sa sc) sc (sh.take r)) => refSizeR (cutAt sa sc) sc (sh.take r) W g
    have SF2 := fun W (g : IntsAt W (fromAt sa sc r) (sc - r) (sh.drop r)) => refSizeR (fromAt sa sc r) (sc - r) (sh.drop r) W g
    rw [size_prN (right_take hrs), hcnt, lT] at SF1
    rw [size_prN (right_drop hrs), hs'] at SF2
    have L3' : kk ≠ 3 → nu.length = cnt * s ∧ it = [] := fun h => ⟨(L3 h).1.trans hsp, (L3 h).2⟩
    have L4' : kk = 3 → it.length = cnt * s ∧ nu = [] := fun h => ⟨(L4 h).1.trans hsp, (L4 h).2⟩
    have hcell : ∀ i, cellA (.mk kk sh nu it) r i = .mk kk (sh.drop r) (blk nu i s) (blk it i s) := fun i => by rw [← hs']; rfl
    have hreach : ∀ X ∈ it, Reach X := fun X hX => reach_mem r4 X hX
    have bt : ∀ x ∈ sh.drop r, -9223372036854775808 ≤ x ∧ x ≤ 9223372036854775807 := i2.2.2.1
    have lD : (sh.drop r).length ≤ 8 := by rw [List.length_drop]; omega
    have h8r : (0 + (sh.drop r).length) * 8 ≤ 140737488351232 := by rw [Nat.zero_add]; exact Nat.le_trans (Nat.mul_le_mul_right 8 lD) (by decide)
    have ew : IntKind.i64.wrap (r : Int) = (r : Int) := by
      have hn8 : (r : Int) ≤ 8 := by omega
      simp only [IntKind.wrap, IntKind.bits]
      first | (go_num; done) | (simp; omega)
    obtain ⟨i0, hi0, hz0, hz1, hz2⟩ := info_parts infoArr
    obtain ⟨j0, hj0, jz0, jz1, jz2⟩ := info_parts infoInt
    obtain ⟨l1, hl1⟩ : ∃ n, (sh.drop r).length = n := ⟨_, rfl⟩
    rw [hl1] at s2 SF2
    have HL1 : Hid ((sh.drop r).length = l1) := hl1
    clear hl1 L1 L2 L3 L4 hx hF hsp hcnt hs' hr0 h0 lD
    go_enter Try.func22, Try.ntmps22
    go_wp2_with (go_at_call 28; refine (R _ _ hA).mono ?_; rintro e w1 ⟨rfl, hb1⟩; (obtain ⟨x0, x1, x2, x3, -⟩ := (q0.below hb1).cells))
    go_region_held3 (fun W => W.cell? ⟨w.heap.size, 1, none⟩ = some (.slice sa sh.length sc))
      (first | exact x1 | assumption)
      (first | (go_at_call 14; refine (R2 _).mono ?_; rintro e w2 ⟨rfl, rfl⟩))
    have hb2 := (Below.then bw hb1).drew
    have Q2 := (q0.below hb1).below (below_drew w1)
    obtain ⟨y0, y1, y2, y3, -⟩ := Q2.cells
    have i2' := i2.below hb2
    have i3' := i3.below hb2
    clear x0 x1 x2 x3 q0 R R2 hA bw hb1 i3
    generalize w1.drew = W1 at *
    go_wp2_with (first
      | (go_at_call 50; (with_reducible refine (SF1 _ i3').mono ?_); rintro e w3 ⟨rfl, rfl⟩)
      | (go_at_call 50; (with_reducible refine (SF2 _ i2').mono ?_); rintro e w3 ⟨rfl, rfl⟩))
    have hrow : RowI w W1 (.slice none 0 0) [] := (row_nil w).below_base hb2
    have hq4 : Hid (Quad W1 w.heap.size (.int .i64 kk) (.slice sa sh.length sc) (.slice na nu.length nc) (.slice ia it.length ic)) := Q2
    clear y0 y1 y2 y3 Q2
    go_loopw [8, 9] (fun v i wr => ∃ j : Nat, j ≤ cnt ∧ i = .int .i64 j ∧ RowI w wr v ((List.range j).map (cellA (.mk kk sh nu it) r)) ∧ Quad wr w.heap.size (.int .i64 kk) (.slice sa sh.length sc) (.slice na nu.length nc) (.slice ia it.length ic)) (fun _ i _ => cnt - (intOf i).toNat)
    case atStart => exact ⟨0, Nat.zero_le _, rfl, hrow, hq4.out⟩
    case round =>
      clear hrow hq4 hb2 i2' i3' SF1 SF2 s3
      obtain ⟨j, hj, rfl, hI, hqw⟩ := hrel
      obtain ⟨p0, p1, p2, p3, -⟩ := hqw.cells
      have hLen : ((List.range j).map (cellA (.mk kk sh nu it) r)).length = j := by simp
      by_cases hlt : j < cnt
      · have hSn : Hid ((List.range (j + 1)).map (cellA (.mk kk sh nu it) r) = (List.range j).map (cellA (.mk kk sh nu it) r) ++ [cellA (.mk kk sh nu it) r j]) := by unfold Hid; rw [List.range_succ, List.map_append]; rfl
        have HCJ : Hid (cellA (.mk kk sh nu it) r j = .mk kk (sh.drop r) (blk nu j s) (blk it j s)) := hcell j
        have H00 : Hid (ArrAt w (.agg #[.int .i64 kk, .slice sa sh.length sc, .slice na nu.length nc, .slice ia it.length ic]) (.mk kk sh nu it)) := h00
        generalize (List.range j).map (cellA (.mk kk sh nu it) r) = LJ at *
        generalize cellA (.mk kk sh nu it) r j = CJ at *
        obtain ⟨⟨qs, ho, hq⟩, hbel⟩ := hI
        rw [hLen] at ho
        have iS := i2.below hbel
        have hwlt := hqw.lt
        have hB1 := hbel.size
        clear hcell
        generalize hwo : wr = wo at *
        clear hwo
        have H0 : ∀ w', Below wo.heap.size wo w' → (w'.cell? ⟨w.heap.size, 0, none⟩ = some (.int .i64 kk) ∧ w'.cell? ⟨w.heap.size, 1, none⟩ = some (.slice sa sh.length sc)) ∧ Below wo.heap.size wo w' := by
          intro w' hb
          obtain ⟨a0, a1, a2, a3, -⟩ := (hqw.below hb).cells
          exact ⟨⟨a0, a1⟩, hb⟩
        have t1 := rowlitB wo wo.heap.size (Nat.le_refl _)
        have t2 := rowlitB (wo.alloc (.cells #[.int .i64 0, .slice none 0 0, .slice none 0 0, .slice none 0 0] 26)) wo.heap.size (by rw [alloc_sizeP]; exact Nat.le_succ _)
        have t3 := t1.alloc (.cells #[.int .i64 0, .slice none 0 0, .slice none 0 0, .slice none 0 0] 26)
        rw [alloc_sizeP] at t2
        go_wp2_with fail
        go_cut [10] (fun v10 wx => ∃ (X : Nat) (va : Option Addr) (vc : Nat), v10 = .pointer (some ⟨X, 0, none⟩) ∧ Quad wx X (.int .i64 kk) (.slice va l1 vc) (.slice none 0 0) (.slice none 0 0) ∧ IntsOn (fun g => wo.heap.size ≤ g ∧ g ≠ X) wx va vc (sh.drop r) ∧ wo.heap.size ≤ X ∧ Below wo.heap.size wo wx)
        case first =>
          go_region_held_law (fun w' => (w'.cell? ⟨w.heap.size, 0, none⟩ = some (.int .i64 kk) ∧ w'.cell? ⟨w.heap.size, 1, none⟩ = some (.slice sa sh.length sc)) ∧ Below wo.heap.size wo w')
            (first
              | exact H0 _ (by go_grown)
              | exact H0 _ (Below.setCell (Below.setCell (Below.setCell (Below.setCell (by go_grown) (by first | exact Nat.le_refl _ | assumption | omega) _) (by first | exact Nat.le_refl _ | assumption | omega) _) (by first | exact Nat.le_refl _ | assumption | omega) _) (by first | exact Nat.le_refl _ | assumption | omega) _))
            (((first
              | (refine step_ints_own rfl _ _ rfl wo.heap.size 0 (.slice (some ⟨wo.heap.size, 0, none⟩) 0 0) [] (by rfl) (by first | exact t1 | exact t3) (by simp <;> omega) _ _ _ (sh.drop r) (by rfl) HL1.out.symm (iS.below (by go_grown)) h8r ?_; intro v2 w3 ho2 hg2; (have bg : Below wo.heap.size wo w3 := Below.grown (by go_grown) hg2 (by simp <;> omega) (fun q hq => by have e := Option.some.inj hq; rw [← e]; first | exact Nat.le_refl _ | exact Nat.le_succ _)); (simp only [Nat.zero_add, List.nil_append] at ho2); (obtain ⟨va, vc, hv2, hi⟩ := ints_of_row rfl ho2 bt); (rw [HL1.out] at hv2); (subst hv2); (have S3 := bg.size); (first | (have qX := Quad.keep (Quad.new (wo.alloc (.cells #[] 3)) (.int .i64 0) (.slice none 0 0) (.slice none 0 0) (.slice none 0 0)) (hg2.block (wo.alloc (.cells #[] 3)).heap.size (by simp <;> omega) (by simp [Value.ownBlock])); (rw [alloc_sizeP] at qX); (obtain ⟨x0, x1, x2, x3, x4, x5, x6, x7⟩ := qX.cells)) | skip))
              | (refine step_ints_own rfl _ _ rfl wo.heap.size 0 (.slice (some ⟨wo.heap.size + 1, 0, none⟩) 0 0) [] (by rfl) (by exact t2) (by simp <;> omega) _ _ _ (sh.drop r) (by rfl) HL1.out.symm (iS.below (by go_grown)) h8r ?_; intro v2 w3 ho2 hg2; (have bg : Below wo.heap.size wo w3 := Below.grown (by go_grown) hg2 (by simp <;> omega) (fun q hq => by have e := Option.some.inj hq; rw [← e]; first | exact Nat.le_refl _ | exact Nat.le_succ _)); (simp only [Nat.zero_add, List.nil_append] at ho2); (obtain ⟨va, vc, hv2, hi⟩ := ints_of_row rfl ho2 bt); (rw [HL1.out] at hv2); (subst hv2); (have S3 := bg.size); (have qX := Quad.keep (Quad.below (below_new _ (.cells #[] 3)) (Quad.new wo (.int .i64 0) (.slice none 0 0) (.slice none 0 0) (.slice none 0 0))) (hg2.block wo.heap.size (by simp <;> omega) (by simp [Value.ownBlock])); (obtain ⟨x0, x1, x2, x3, x4, x5, x6, x7⟩ := qX.cells))))))
          all_goals go_wp2_with fail
          all_goals go_meet
          all_goals first
            | exact ⟨_, va, vc, rfl, Quad.new _ _ _ _ _, (hi.below (below_new _ _)).mono (fun g hg => ⟨hg.1, Nat.ne_of_lt hg.2⟩), S3, Below.then bg (below_new _ _)⟩
            | exact ⟨_, va, vc, rfl, (set4 qX _ _ _ _).1, ints_set4x HL1.out.symm ho2 qX bt _ _ _ _, by first | exact Nat.le_refl _ | exact Nat.le_succ _, bg.trans (set4_below (by first | exact Nat.le_refl _ | exact Nat.le_succ _) _ _ _ _)⟩
        case rest =>
          obtain ⟨X, va, vc, rfl, qX, hV, hXg, hbx⟩ := hcut
          clear t1 t2 t3 H0 p0 p1 p2 p3 h8r bt iS
          have e1 : (Value.slice none 0 0).ownBlock = none := by simp [Value.ownBlock]
          have hqx := hqw.below hbx
          have hbw := Below.then hbel hbx
          have HX0 : Hid (X ≠ w.heap.size) := Nat.ne_of_gt (Nat.lt_of_lt_of_le hwlt hXg)
          have hBx := hbx.size
          obtain ⟨q, hqj⟩ : ∃ q, j * s = q := ⟨_, rfl⟩
          obtain ⟨Q2, HQ2, e5, e6, hq6, hQ26⟩ := cell_nums hlt hc6 hs6 HCS.out hqj
          have HQJ : Hid (j * s = q) := hqj
          have hjs : (j + 1) * s ≤ cnt * s := Nat.mul_le_mul_right _ hlt
          have HJS : Hid ((j + 1) * s ≤ cnt * s) := hjs
          clear hqj hjs
          have hVW : IntsOn (fun g => ((Value.slice none 0 0).ownBlock ≠ some g ∧ g ≠ X) ∧ wo.heap.size ≤ g) wc va vc (sh.drop r) := hV.mono fun g hg => ⟨⟨by rw [e1]; simp, hg.2⟩, hg.1⟩
          by_cases k3 : kk = 3
          · have HG : Hid (it.length = cnt * s ∧ nu = []) := L4' k3
            have kb : (kk == 3) = true := by rw [k3]; rfl
            clear k3
            have HBL : Hid ((blk it j s).length = s) := blk_len (by rw [HG.out.1]; exact HJS.out)
            have hAon : ArrOn (fun g => (Value.slice none 0 0).ownBlock ≠ some g ∧ g ≠ X) wc (.agg #[.int .i64 kk, .slice sa sh.length sc, .slice na nu.length nc, .slice ia it.length ic]) (.mk kk sh nu it) := h00.on.keep fun g hg _ => ⟨⟨by rw [e1]; simp, Nat.ne_of_lt (Nat.lt_trans hg (Nat.lt_of_lt_of_le hwlt hXg))⟩, fun o => hbw.cell hg⟩
            have hil : it.length ≤ 65536 := by rw [HG.out.1]; exact HCS.out
            clear L3' L4' h00
            go_wp2_with fail
            go_loopw [11] (fun i wq => ∃ (m p : Nat) (a' : Option Addr) (l' c' : Nat) (qs' : List Value), m ≤ s ∧ i = .int .i64 (p : Int) ∧ Hid (p = q + m) ∧ PutS X wc wq wo.heap.size 26 4 (.slice none 0 0) (.slice a' l' c') m qs' ∧ Quads (fun g => (Value.slice a' l' c').ownBlock ≠ some g ∧ wo.heap.size ≤ g ∧ g ≠ X) wq qs' ((blk it j s).take m) ∧ Quad wq X (.int .i64 kk) (.slice va l1 vc) (.slice none 0 0) (.slice a' l' c') ∧ (Value.slice a' l' c').ownBlock ≠ some X) (fun i _ => (q + s) - (intOf i).toNat)
            case atStart => exact ⟨0, q, none, 0, 0, [], Nat.zero_le _, rfl, rfl, PutS.refl (World.ownsRow_nil _ _ _ _), by rw [List.take_zero, Quads]; trivial, qX, by rw [e1]; simp⟩
            case round =>
              obtain ⟨m, p, a', l', c', qs', hm, rfl, hp, hP, hqq, hQ, hnX⟩ := hrel
              have QA := hP.quad hqx (Ne.symm HX0.out) (by rw [e1]; simp)
              obtain ⟨pA0, pA1, pA2, pA3, -⟩ := QA.cells
              obtain ⟨c0, c1, c2, c3, c4, c5, c6, c7⟩ := hQ.cells
              have hqs := HQ2.out
              have hps := hp.out
              by_cases h2 : m < s
              · have hplt : p < Q2 := by omega
                obtain ⟨hx1, hx2, hxe⟩ := blk_at (l := it) (i := j) (s := s) (m := m) (p := p) (by rw [hps, HQJ.out]) h2 (by rw [HG.out.1]; exact HJS.out)
                have hTk : Hid ((blk it j s).take (m + 1) = (blk it j s).take m ++ [it[p]]) := by unfold Hid; rw [take_succB hx1, hxe]
                have hAq := (hP.arr hAon).at
                obtain ⟨ib, io, y0, y1, y2, y3, hix, ⟨g0, g1, g2, g3⟩, hI'⟩ := items_ix hAq (k := p) hx2
                have hRi := hreach _ (List.getElem_mem hx2)
                have hI2 : ArrAt wr (.agg #[y0, y1, y2, y3]) it[p] := hI'
                obtain ⟨IT, hIT⟩ : ∃ IT, it[p] = IT := ⟨_, rfl⟩
                rw [hIT] at hI2 hRi hTk
                have K := cloneR _ _ wr.drew (hI2.below (below_drew wr)) hRi
                have hBW : wo.heap.size ≤ wr.heap.size := Nat.le_trans hBx hP.bel.size
                have HXB := fun (w2 : World) (A1 : Arr) (e0 e1 e2 e3 : Value) (b1 : Below wr.heap.size wr w2) (hN : ArrOn (fun g => wr.heap.size ≤ g) w2 (.agg #[e0, e1, e2, e3]) A1) => appB hP hQ hnX hBx (Or.inl rfl) hXg b1 hqq (fun g hg => Nat.le_trans hBW hg) hN
                have ho2 := hP.own
                have HR0 := hQ
                clear hAq hAon QA hx1 hxe hIT hI' hI2 hnX hqs hps hV hVW hreach hP hQ hqq hRi
                go_wp2_with fail
                go_region_law ((first
                  | (refine step_append_lies _ (by rfl) _ _ _ (by rfl) wo.heap.size 26 i0 _ 4 80 Try.underlying24 hi0 hz0 hz1 hz2 rfl (by omega) (.slice a' l' c') m qs' (by rfl) (own_alloc ho2 b2 _) ⟨w2.heap.size, 0, none⟩ 1 1 [e0', e1', e2', e3'] (by rfl) (by rfl) (World.news_of_block (cs := #[e0', e1', e2', e3']) (t := 26) (fr := (0, 0)) (heap_alloc_new w2 _)) oc (by omega) (by unfold maxLen; omega) (by omega) (by have := b2.size; rw [alloc_sizeP]; omega) (w2.heap.size + 1) (by rw [alloc_sizeP]) ?_; intro gg cap w5 hown hgrow hat' hl5; (obtain ⟨P5, Q5, Q6, ne0, hq5⟩ := HXB w2 _ e0' e1' e2' e3' b2 hN2 gg cap w5 hown hgrow hat'); (obtain ⟨v0, v1, v2, v3, v4, v5, v6, v7⟩ := Q5.cells))
                  | (go_simp; refine K.mono ?_; rintro e w2 ⟨e0', e1', e2', e3', rfl, oc, hN2, b1⟩; (have b2 : Below wr.heap.size wr w2 := Below.trans (Below.refl _ _).drew b1); (obtain ⟨u0', u1', u2', u3', u4', u5', u6', u7'⟩ := (HR0.below b2).cells); (have u9' : (w2.alloc (.cells #[e0', e1', e2', e3'] 26)).cell? ⟨X, 3, none⟩ = some (.slice a' l' c') := by rw [World.cell?_alloc_past _ _ _ (cell_lt u3')]; exact u3'))))
                all_goals (go_wp2_with fail; go_roundw)
                all_goals first
                  | exact ⟨m + 1, p + 1, _, _, _, _, h2, by go_num, (by have := hp.out; unfold Hid; omega), P5, by rw [hTk.out]; exact hq5, Q6, ne0⟩
                  | (have := HQ2.out; simp [intOf]; omega)
              · obtain rfl : m = s := by omega
                obtain rfl : p = Q2 := by omega
                have htk : (blk it j m).take m = blk it j m := List.take_of_length_le (by rw [HBL.out]; exact Nat.le_refl _)
                rw [htk] at hqq
                obtain ⟨rb, rfl, m1, m2, m3, m4⟩ := row_arrs (Pb := fun g => wo.heap.size ≤ g) HBL.out.symm hP.own (hqq.keep fun g hg _ => ⟨hg.2.1, fun _ => rfl⟩) (fun g hg => hg)
                have hVq : IntsOn (fun g => wo.heap.size ≤ g) wr va vc (sh.drop r) := hVW.keep fun g hg hl => ⟨hg.2, fun o => World.cell?_of_block (hP.far g hl hg.1.2 hg.1.1).1⟩
                have HVQ : Hid (IntsOn (fun g => wo.heap.size ≤ g) wr va vc (sh.drop r)) := hVq
                have hAo : ArrOn (fun g => wo.heap.size ≤ g) wr (.agg #[.int .i64 kk, .slice va l1 vc, .slice none 0 0, .slice a' (blk it j m).length c']) CJ := by
                  rw [HCJ.out, HG.out.2, ArrOn, ← HL1.out]
                  have eb : blk ([] : List Int) j m = [] := by simp [blk]
                  rw [eb]
                  exact ⟨va, vc, none, 0, a', c', rfl, hkd, HVQ.out, ⟨ints_nil _, fun g => absurd rfl g⟩, m1, m2, rb, 0, m3, m4⟩
                have hbq : Below wo.heap.size wo wr := hbx.trans hP.bel
                have ho' := own_belowC ho hbq
                have hBq := hbq.size
                have oc : ∀ u ∈ [Value.int .i64 kk, .slice va l1 vc, .slice none 0 0, .slice a' (blk it j m).length c'], Value.oneCell' u = true := by simp [Value.oneCell']
                clear hP hqq hVq hAon hV hVW hqs hps hnX m1 m2 m3 m4
                go_wp2_with (at_builtin; (refine wpList_append_lies _ rfl _ _ 24 rfl (w.heap.size + 1) 26 i0 _ 4 80 Try.underlying24 hi0 hz0 hz1 hz2 rfl (by decide) _ j qs rfl (own_alloc ho' (Below.refl wr.heap.size wr) _) ⟨wr.heap.size, 0, none⟩ 1 1 [.int .i64 kk, .slice va l1 vc, .slice none 0 0, .slice a' (blk it j m).length c'] rfl rfl (World.news_of_block (cs := #[.int .i64 kk, .slice va l1 vc, .slice none 0 0, .slice a' (blk it j m).length c']) (t := 26) (fr := (0, 0)) (heap_alloc_new wr _)) oc (by decide) (by unfold maxLen; omega) (by omega) (by simp; omega) (wr.heap.size + 1) (by simp) ?_; intro gg cap w2' hown hgrow hat hl2))
                go_roundw
                case rel => exact ⟨j + 1, by omega, by go_num, by rw [hSn.out]; exact row_step1 (by rw [hLen]) hbel (by rw [hLen]; exact ho) hq hbq hAo hown hgrow hat, hqw.keep (row_old ho hbq hgrow (Nat.le_refl _) hwlt)⟩
                case measure => simp [intOf]; omega
          · have HG : Hid (nu.length = cnt * s ∧ it = []) := L3' k3
            have kb : (kk == 3) = false := by simpa using k3
            have HBL : Hid ((blk nu j s).length = s) := blk_len (by rw [HG.out.1]; exact HJS.out)
            have iNon : IntsOn (fun g => (Value.slice none 0 0).ownBlock ≠ some g ∧ g ≠ X) wc na nc nu := (ints_onlt hn).keep fun g hg _ => ⟨⟨by rw [e1]; simp, Nat.ne_of_lt (Nat.lt_trans hg (Nat.lt_of_lt_of_le hwlt hXg))⟩, fun o => hbw.cell hg⟩
            have hnb := hn.2.2.1
            clear L3' L4' h00 hreach
            go_wp2_with fail
            go_loopw [11] (fun i wq => ∃ (m p : Nat) (a' : Option Addr) (l' c' : Nat), m ≤ s ∧ i = .int .i64 (p : Int) ∧ Hid (p = q + m) ∧ PutS X wc wq wo.heap.size 3 1 (.slice none 0 0) (.slice a' l' c') m (((blk nu j s).take m).map (Value.int .i64)) ∧ Quad wq X (.int .i64 kk) (.slice va l1 vc) (.slice a' l' c') (.slice none 0 0)) (fun i _ => (q + s) - (intOf i).toNat)
            case atStart => exact ⟨0, q, none, 0, 0, Nat.zero_le _, rfl, rfl, by simpa using PutS.refl (World.ownsRow_nil _ _ _ _), qX⟩
            case round =>
              obtain ⟨m, p, a', l', c', hm, rfl, hp, hP, hQ⟩ := hrel
              have QA := hP.quad hqx (Ne.symm HX0.out) (by rw [e1]; simp)
              obtain ⟨pA0, pA1, pA2, pA3, -⟩ := QA.cells
              obtain ⟨c0, c1, c2, c3, c4, c5, c6, c7⟩ := hQ.cells
              have hqs := HQ2.out
              have hps := hp.out
              have hnX := row_not_quad hP.own hQ
              by_cases h2 : m < s
              · have hplt : p < Q2 := by omega
                obtain ⟨hx1, hx2, hxe⟩ := blk_at (l := nu) (i := j) (s := s) (m := m) (p := p) (by rw [hps, HQJ.out]) h2 (by rw [HG.out.1]; exact HJS.out)
                have hTk : Hid (((blk nu j s).take (m + 1)).map (Value.int .i64) = ((blk nu j s).take m).map (Value.int .i64) ++ [.int .i64 nu[p]]) := by unfold Hid; rw [take_succB hx1, List.map_append, hxe]; rfl
                have hNq := (hP.ints iNon).1
                obtain ⟨nb, no, hix, hcl⟩ := hNq.at hx2
                have hxb := hnb _ (List.getElem_mem hx2)
                obtain ⟨y, hy⟩ : ∃ y, nu[p] = y := ⟨_, rfl⟩
                rw [hy] at hcl hxb hTk
                have bl := below_new wr (.cells #[.int .i64 y] 3)
                obtain ⟨m0, m1, m2, m3, m4, m5, m6, m7⟩ := (hQ.below bl).cells
                have pA2' : (wr.alloc (.cells #[.int .i64 y] 3)).cell? ⟨w.heap.size, 2, none⟩ = some (.slice na nu.length nc) := (bl.cell (cell_lt pA2)).trans pA2
                have hcl' := (bl.cell (cell_lt hcl)).trans hcl
                have hsW : (wr.alloc (.cells #[.int .i64 y] 3)).heap.size = wr.heap.size + 1 := by simp
                have hBW : wo.heap.size ≤ wr.heap.size := Nat.le_trans hBx hP.bel.size
                have HXN := fun (g cap : Nat) (w5 : World) h1 h2 h3 => appN (qs2 := ((blk nu j s).take m).map (Value.int .i64) ++ [.int .i64 y]) (o := .cells #[.int .i64 y] 3) hP hQ hnX hBx (Or.inl rfl) hXg g cap w5 h1 h2 h3
                have own1 := own_alloc hP.own (Below.refl wr.heap.size wr) (.cells #[.int .i64 y] 3)
                have hnews : ∀ j' u, [Value.int .i64 y][j']? = some u → (wr.alloc (.cells #[.int .i64 y] 3)).cell? ((⟨wr.heap.size, 0, none⟩ : Addr).add j') = some u := World.news_of_block (cs := #[.int .i64 y]) (t := 3) (fr := (0, 0)) (heap_alloc_new wr _)
                have hbase : wo.heap.size ≤ (wr.alloc (.cells #[.int .i64 y] 3)).heap.size := by omega
                clear hNq iNon QA hx1 hxe hy hnX hnb hqs hps hV hVW
                go_wp2_with fail
                go_region_law ((first
                  | (refine step_append_lies _ (by rfl) _ _ _ (by rfl) wo.heap.size 3 j0 _ 1 8 Try.underlying23 hj0 jz0 jz1 jz2 rfl (by omega) (.slice a' l' c') m (((blk nu j s).take m).map (Value.int .i64)) (by rfl) own1 ⟨wr.heap.size, 0, none⟩ 1 1 [.int .i64 y] (by rfl) (by rfl) hnews (by intro u hu; simp at hu; subst hu; rfl) (by omega) (by unfold maxLen; omega) (by omega) hbase (wr.heap.size + 1) hsW ?_; intro gg cap w5 hown hgrow hat' hl5; (obtain ⟨P5, Q5, Q6⟩ := HXN gg cap w5 hown hgrow hat'); (obtain ⟨v0, v1, v2, v3, v4, v5, v6, v7⟩ := Q5.cells))))
                all_goals (go_wp2_with fail; go_roundw)
                all_goals first
                  | exact ⟨m + 1, p + 1, _, _, _, h2, by go_num, (by have := hp.out; unfold Hid; omega), by rw [hTk.out]; exact P5, Q6⟩
                  | (have := HQ2.out; simp [intOf]; omega)
              · obtain rfl : m = s := by omega
                obtain rfl : p = Q2 := by omega
                have htk : (blk nu j m).take m = blk nu j m := List.take_of_length_le (by rw [HBL.out]; exact Nat.le_refl _)
                rw [htk] at hP
                obtain ⟨ra, rc, hv, hi⟩ := ints_of_own HBL.out.symm hP.own (fun x hx => hnb x (blk_mem hx))
                simp only [Value.slice.injEq] at hv
                obtain ⟨rfl, rfl, rfl⟩ := hv
                have hVq : IntsOn (fun g => wo.heap.size ≤ g) wr va vc (sh.drop r) := hVW.keep fun g hg hl => ⟨hg.2, fun o => World.cell?_of_block (hP.far g hl hg.1.2 hg.1.1).1⟩
                have HVQ : Hid (IntsOn (fun g => wo.heap.size ≤ g) wr va vc (sh.drop r)) := hVq
                have hAo : ArrOn (fun g => wo.heap.size ≤ g) wr (.agg #[.int .i64 kk, .slice va l1 vc, .slice a' (blk nu j m).length c', .slice none 0 0]) CJ := by
                  rw [HCJ.out, HG.out.2, ArrOn, ← HL1.out]
                  have eb : blk ([] : List Arr) j m = [] := by simp [blk]
                  rw [eb]
                  exact ⟨va, vc, a', c', none, 0, rfl, hkd, HVQ.out, hi, Nat.le_refl _, by decide, 0, 0, fun g => absurd rfl g, by rw [ArrsOn]; trivial⟩
                have hbq : Below wo.heap.size wo wr := hbx.trans hP.bel
                have ho' := own_belowC ho hbq
                have hq2 : Quad wo w.heap.size (.int .i64 kk) (.slice sa sh.length sc) (.slice na nu.length nc) (.slice ia it.length ic) := hqw
                have hBq := hbq.size
                have oc : ∀ u ∈ [Value.int .i64 kk, .slice va l1 vc, .slice a' (blk nu j m).length c', .slice none 0 0], Value.oneCell' u = true := by simp [Value.oneCell']
                clear hP hi hVq iNon hV hVW hqs hps hnX
                go_wp2_with (at_builtin; (refine wpList_append_lies _ rfl _ _ 24 rfl (w.heap.size + 1) 26 i0 _ 4 80 Try.underlying24 hi0 hz0 hz1 hz2 rfl (by decide) _ j qs rfl (own_alloc ho' (Below.refl wr.heap.size wr) _) ⟨wr.heap.size, 0, none⟩ 1 1 [.int .i64 kk, .slice va l1 vc, .slice a' (blk nu j m).length c', .slice none 0 0] rfl rfl (World.news_of_block (cs := #[.int .i64 kk, .slice va l1 vc, .slice a' (blk nu j m).length c', .slice none 0 0]) (t := 26) (fr := (0, 0)) (heap_alloc_new wr _)) oc (by decide) (by unfold maxLen; omega) (by omega) (by simp; omega) (wr.heap.size + 1) (by simp) ?_; intro gg cap w2' hown hgrow hat hl2))
                go_roundw
                case rel => exact ⟨j + 1, by omega, by go_num, by rw [hSn.out]; exact row_step1 (by rw [hLen]) hbel (by rw [hLen]; exact ho) hq hbq hAo hown hgrow hat, hq2.keep (row_old ho hbq hgrow (Nat.le_refl _) hwlt)⟩
                case measure => simp [intOf]; omega
      · obtain rfl : j = cnt := by omega
        obtain ⟨ra, rc, rb, rfl, m1, m2, m3, m4⟩ := row_end hI
        rw [hLen] at m1 ⊢
        have hbel := hI.bel
        clear hcell hreach
        go_wp2_with fail
        go_ret
        exact ⟨ra, rc, rb, by rw [hLen]; rfl, by rw [hLen]; exact m1, m2, m3, m4, hbel⟩
  · have e : cellsS (.mk kk sh nu it) k = [] := by rw [cellsS, if_neg (by rw [hx]; exact hx0)]
    rw [e]
    have e2 : (x != 0) = true := by simpa using hx0
    clear hx hx0 e
    go_enter Try.func22, Try.ntmps22
    go_wp2_with (go_at_call 28; refine (R _ _ hA).mono ?_; rintro e w1 ⟨rfl, hb1⟩)
    go_ret
    exact ⟨none, 0, 0, rfl, Nat.le_refl _, by decide, fun g => absurd rfl g, by rw [ArrsAt]; trivial, Below.then bw hb1⟩
end Go.Proofs.Ytblgpnijiefopaa.Shape
