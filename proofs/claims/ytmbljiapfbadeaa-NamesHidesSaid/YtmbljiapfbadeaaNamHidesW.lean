/-
  Layer 11: the law of names that hide others, walked.
-/
import Derived.Test.YtmbljiapfbadeaaNamHides
namespace Go.Proofs.Ytmbljiapfbadeaa.Nam
open Go.RowKit Go.Maps
set_option linter.unusedVariables false

theorem addD_len (ds : List Def) (s : ByteArray) (c : Int) : (addD ds s c).length ≤ ds.length + 1 := by
  unfold addD
  split
  · simp
  · omega
theorem PFam.named {w : World} {L : List Scp} {pb mb : Nat → Nat} (h : PFam w L pb mb) {pb' mb' : Nat → Nat} (h1 : ∀ i, i < L.length → pb i = pb' i) (h2 : ∀ i, i < L.length → mb i = mb' i) (hW : Wf L) : PFam w L pb' mb' :=
  ⟨fun i hi => by
    rw [← h1 i hi, ← h2 i hi]
    have := h.sc i hi
    have e : L[i].out.map pb' = L[i].out.map pb := by
      cases ho : L[i].out with
      | none => rfl
      | some j => simp [h1 j (Nat.lt_trans (hW.outs hi j ho) hi)]
    rw [e]
    exact this, fun i j hi hj e => h.inj i j hi hj (by rw [h2 i hi, h2 j hj]; exact e)⟩
def three (a b c : Nat) : Nat → Nat := fun k => match k with | 0 => a | 1 => b | _ => c
theorem three0 (a b c : Nat) : three a b c 0 = a := rfl
theorem three1 (a b c : Nat) : three a b c 1 = b := rfl
theorem three2 (a b c : Nat) : three a b c 2 = c := rfl
theorem namesB {w : World} {L : List Scp} {pb mb : Nat → Nat} (h : PFam w L pb mb) {i b : Nat} (hi : i < L.length) (hb : pb i = b) (N : List ByteArray) (hN : namesOf (scp L i).ds = N) (hl : N.length ≤ 1000) (n : Nat) (hn : N.length = n) :
    Calls Try.prog 18 #[.pointer (some ⟨b, 0, none⟩)] w fun e w' => e = .returned (.slice (some ⟨w.heap.size, 0, none⟩) n n) ∧ Strs w' w.heap.size N ∧ Below w.heap.size w w' := by
  subst hb hN hn
  have e : (namesOf (scp L i).ds).length = (scp L i).ds.length := by simp [namesOf]
  rw [e] at hl ⊢
  exact namesF h hi hl
/-- The law's own list of two names. -/
theorem same2 {w : World} {g : Nat} {s t : ByteArray} (h : Strs w g [s, t]) :
    Calls Try.prog 17 #[.slice (some ⟨g, 0, none⟩) 2 2, .slice (some ⟨w.heap.size, 0, none⟩) 2 2] (w.alloc (.cells #[.string s, .string t] 9)) fun e w' => e = .returned (.bool true) ∧ Below (w.alloc (.cells #[.string s, .string t] 9)).heap.size (w.alloc (.cells #[.string s, .string t] 9)) w' := by
  have h1 : SAt (w.alloc (.cells #[.string s, .string t] 9)) (.slice (some ⟨g, 0, none⟩) 2 2) [s, t] := Strs.sat (h.below (below_new _ _)) 2 (by show 2 ≤ _; decide)
  have h2 : SAt (w.alloc (.cells #[.string s, .string t] 9)) (.slice (some ⟨w.heap.size, 0, none⟩) 2 2) [s, t] := Strs.sat (L := [s, t]) (Strs.new w [s, t]) 2 (by show 2 ≤ _; decide)
  have := sameQ h1 h2
  rw [decide_eq_true (rfl : [s, t] = [s, t])] at this
  exact this
set_option maxRecDepth 100000 in
set_option maxHeartbeats 32000000 in
theorem hidesW (w : World) (name other : ByteArray) (hn : name.size ≤ 9223372036854775807) (ho : other.size ≤ 9223372036854775807) (c d : Int) :
    Calls Try.prog 4 #[.string name, .string other, .int .i64 c, .int .i64 d] w fun e w' => e = .returned (.bool true) ∧ Below w.heap.size w w' := by
  by_cases hb1 : name.size ≤ 200
  case neg =>
    have hx : (200 : Int) < (name.size : Int) := by omega
    go_enter Try.func4, Try.ntmps4
    go_wp2_with (go_at_call 6; (with_reducible refine (awakeL w).mono ?_); rintro e1 w1 ⟨rfl, b1⟩)
    go_ret
    exact ⟨rfl, b1⟩
  by_cases hb2 : other.size ≤ 200
  case neg =>
    have hx : (200 : Int) < (other.size : Int) := by omega
    have hx1 : ¬ (200 : Int) < (name.size : Int) := by omega
    go_enter Try.func4, Try.ntmps4
    go_wp2_with (go_at_call 6; (with_reducible refine (awakeL w).mono ?_); rintro e1 w1 ⟨rfl, b1⟩)
    go_ret
    exact ⟨rfl, b1⟩
  have hx : ¬ (200 : Int) < (other.size : Int) := by omega
  have hx1 : ¬ (200 : Int) < (name.size : Int) := by omega
  have sn : name.size ≤ maxLen := hn
  have so : other.size ≤ maxLen := ho
  obtain ⟨e, he⟩ : ∃ e, errD [] name c = e := ⟨_, rfl⟩
  obtain ⟨f, hf⟩ : ∃ e, errD [] name d = e := ⟨_, rfl⟩
  obtain ⟨g, hg⟩ : ∃ e, errD (addD [] name d) other d = e := ⟨_, rfl⟩
  obtain ⟨D0, hD0⟩ : ∃ D, addD [] name c = D := ⟨_, rfl⟩
  obtain ⟨D1, hD1⟩ : ∃ D, addD (addD [] name d) other d = D := ⟨_, rfl⟩
  obtain ⟨x, i1, hfx⟩ : ∃ x i, findS (H5 D0 D1) (0 + 1) (some 0) name = (x, i) := ⟨_, _, rfl⟩
  obtain ⟨y, i2, hfy⟩ : ∃ x i, findS (H5 D0 D1) (1 + 1) (some 1) name = (x, i) := ⟨_, _, rfl⟩
  obtain ⟨z, i3, hfz⟩ : ∃ x i, findS (H5 D0 D1) (2 + 1) (some 2) name = (x, i) := ⟨_, _, rfl⟩
  obtain ⟨v, no, hfo⟩ : ∃ x i, findS (H5 D0 D1) (0 + 1) (some 0) other = (x, i) := ⟨_, _, rfl⟩
  have HM := Lib.hid (hides_math name other c d e f g x y z i1 i2 i3 no D0 D1 he hf hg hD0.symm hD1.symm hfx hfy hfz (by rw [hfo]))
  have k1 : errD (scp A0 0).ds name c = e := he
  have k2 : errD (scp (H5 D0 []) 1).ds name d = f := hf
  have k3 : errD (scp (H5 D0 (addD [] name d)) 1).ds other d = g := hg
  have l1 : (scp A0 0).ds.length ≤ 1000 := by decide +kernel
  have l2 : (scp (H5 D0 []) 1).ds.length ≤ 1000 := Nat.zero_le _
  have l3 : (scp (H5 D0 (addD [] name d)) 1).ds.length ≤ 1000 := by show (addD [] name d).length ≤ 1000; have := addD_len [] name d; simp at this; omega
  have u1 : 1 < (H5 D0 []).length := by show 1 < 3; decide
  have u2 : 1 < (H5 D0 (addD [] name d)).length := by show 1 < 3; decide
  have u3 : 0 < (H5 D0 D1).length := by show 0 < 3; decide
  have u4 : 1 < (H5 D0 D1).length := by show 1 < 3; decide
  have u5 : 2 < (H5 D0 D1).length := by show 2 < 3; decide
  have y1 : Wf [⟨none, 0, D0⟩] := fun i h => by
    obtain rfl : i = 0 := by simpa using h
    rfl
  have y2 : Wf [⟨none, 0, D0⟩, ⟨some 0, 1, []⟩] := fun i h => by
    match i, h with
    | 0, _ => rfl
    | 1, _ => exact ⟨by decide, rfl⟩
  have nl3 : [name, other].length = 2 := rfl
  have nl2 : [name, other].length ≤ 1000 := by show 2 ≤ 1000; decide
  have o1 : [(⟨none, 0, D0⟩ : Scp)].length ≤ 1000 := by show 1 ≤ 1000; decide
  have o2 : 0 < [(⟨none, 0, D0⟩ : Scp)].length := by show 0 < 1; decide
  have o3 : [(⟨none, 0, D0⟩ : Scp), ⟨some 0, 1, []⟩].length ≤ 1000 := by show 2 ≤ 1000; decide
  have o4 : 0 < [(⟨none, 0, D0⟩ : Scp), ⟨some 0, 1, []⟩].length := by show 0 < 2; decide
  have n3 : ∀ a b : Nat, ∀ i, i < [(⟨none, 0, D0⟩ : Scp), ⟨some 0, 1, []⟩].length → upd (fun _ => a) 1 b i = three a b 0 i := fun a b i h => by
    match i, h with
    | 0, _ => rfl
    | 1, _ => rfl
  have n4 : ∀ a b c : Nat, ∀ i, i < (H5 D0 []).length → upd (three a b 0) 2 c i = three a b c i := fun a b c i h => by
    match i, h with
    | 0, _ => rfl
    | 1, _ => rfl
    | 2, _ => rfl
  have hD0' := Lib.hid hD0
  have hD1' := Lib.hid hD1
  have hfx' := Lib.hid hfx
  have hfy' := Lib.hid hfy
  have hfz' := Lib.hid hfz
  have hfo' := Lib.hid hfo
  have hlD : D1.length ≤ 2 := by
    have h1 := addD_len (addD [] name d) other d
    have h2 := addD_len [] name d
    rw [hD1] at h1
    simp at h2
    omega
  clear he hf hg hD0 hD1 hfx hfy hfz hfo
  have HO := HM.out
  clear HM
  obtain ⟨m1, m2, m3, m4, m5, m6⟩ := HO
  by_cases qe : e = 0
  · obtain ⟨rfl, rfl, rfl, rfl⟩ := m1 qe
    have m4' := fun h => m4 h qe
    subst qe
    by_cases qf : f = 0
    · obtain ⟨rfl, rfl⟩ := m3 qf
      by_cases qo : other = name
      · obtain rfl := m6 qf qo
        subst qf
        obtain rfl := qo.symm
        clear m1 m2 m3 m4 m5 m6 m4'
        go_enter Try.func4, Try.ntmps4
        go_wp2_with (first
            | (go_at_call 7; (with_reducible refine (newP w).mono ?_); rintro e1 w1 ⟨rfl, hs1, h1, b1⟩; have F1 : PFam w1 A0 _ _ := fam_one h1)
            | (go_at_call 11; (with_reducible refine (defineB F1 (i := 0) (m := w.heap.size) (by decide) rfl rfl _ sn _ _ l1 k1).mono ?_); rintro e2 w2 ⟨rfl, F2a, b2⟩; have F2 : PFam w2 [⟨none, 0, addD [] name c⟩] _ _ := F2a; rw [hD0'.out] at F2; have B1 : Below w.heap.size w w1 := b1; have B2 := But.below b2 (Nat.le_refl _) (Nat.le_refl _) B1)
            | (go_at_call 9; (with_reducible refine (openB F2 y1 o1 (i := 0) o2 rfl).mono ?_); rintro e3 w3 ⟨rfl, F3a, b3⟩; have F3 : PFam w3 [⟨none, 0, D0⟩, ⟨some 0, 1, []⟩] _ _ := F3a; have B3 := B2.trans (b3.mono B2.size); have F3b : PFam w3 [⟨none, 0, D0⟩, ⟨some 0, 1, []⟩] (three (w.heap.size + 1) (w2.heap.size + 1) 0) (three w.heap.size w2.heap.size 0) := PFam.named F3 (n3 _ _) (n3 _ _) y2)
            | (go_at_call 9; ((with_reducible refine (openB F3b y2 o3 (i := 0) o4 (three0 _ _ _)).mono ?_); rintro e4 w4 ⟨rfl, F4a, b4⟩; have F4 : PFam w4 (H5 D0 []) _ _ := F4a; have B4 := B3.trans (b4.mono B3.size); have F4b : PFam w4 (H5 D0 []) (three (w.heap.size + 1) (w2.heap.size + 1) (w3.heap.size + 1)) (three w.heap.size w2.heap.size w3.heap.size) := PFam.named F4 (n4 _ _ _) (n4 _ _ _) (wfH D0 [])))
            | (go_at_call 11; (with_reducible refine (defineB F4b (i := 1) u1 (three1 _ _ _) (three1 _ _ _) _ sn _ _ l2 k2).mono ?_); rintro e5 w5 ⟨rfl, F5a, b5⟩; have F5 : PFam w5 (H5 D0 (addD [] name d)) _ _ := F5a; have B5 := But.below b5 B2.size (Nat.le_refl _) B4)
            | (go_at_call 11; (with_reducible refine (defineB F5 (i := 1) u2 (three1 _ _ _) (three1 _ _ _) _ so _ _ l3 k3).mono ?_); rintro e6 w6 ⟨rfl, F6a, b6⟩; have F6 : PFam w6 (H5 D0 (addD (addD [] name d) name d)) _ _ := F6a; rw [hD1'.out] at F6; have B6 := But.below b6 B2.size (Nat.le_refl _) B5)
            | (go_at_call 13; (with_reducible refine (findB F6 (wfH D0 D1) (i := 0) u3 (three0 _ _ _) _ sn _ _ hfx'.out).mono ?_); rintro e7 w7 ⟨rfl, b7⟩; have F7 := F6.below b7; have B7 := B6.trans (b7.mono B6.size))
            | (go_at_call 13; (with_reducible refine (findB F7 (wfH D0 D1) (i := 1) u4 (three1 _ _ _) _ sn _ _ hfy'.out).mono ?_); rintro e8 w8 ⟨rfl, b8⟩; have F8 := F7.below b8; have B8 := B7.trans (b8.mono B7.size))
            | (go_at_call 13; (with_reducible refine (findB F8 (wfH D0 D1) (i := 2) u5 (three2 _ _ _) _ sn _ _ hfz'.out).mono ?_); rintro e9 w9 ⟨rfl, b9⟩; have F9 := F8.below b9; have B9 := B8.trans (b9.mono B8.size))
            | (go_at_call 13; (with_reducible refine (findB F9 (wfH D0 D1) (i := 0) u3 (three0 _ _ _) _ so _ _ hfo'.out).mono ?_); rintro e10 w10 ⟨rfl, b10⟩; have F10 := F9.below b10; have B10 := B9.trans (b10.mono B9.size))
            | (go_at_call 18; (with_reducible refine (namesB F10 (i := 1) u4 (three1 _ _ _) [name, name] NM' nl2 2 nl3).mono ?_); rintro e11 w11 ⟨rfl, S11, b11⟩; have B11 := B10.trans (b11.mono B10.size))
            | (go_at_call 17; ((with_reducible refine (same2 S11).mono ?_); rintro e12 w12 ⟨rfl, b12⟩; have B12 := B11.trans ((Below.then (below_new _ _) b12).mono B11.size)))
            | (go_at_call 6; (with_reducible refine (awakeL _).mono ?_); rintro e13 w13 ⟨rfl, b13⟩)
            )
        go_ret
        exact ⟨rfl, B10.trans (b13.mono B10.size)⟩
      · have t5 : (other.toList == name.toList) = false := str_ne qo
        by_cases qg : g = 0
        · obtain ⟨rfl, NM⟩ := m5 qf qg qo
          have NM' : namesOf (scp (H5 D0 D1) 1).ds = [name, other] := NM
          subst qf qg
          clear m1 m2 m3 m4 m5 m6 m4'
          go_enter Try.func4, Try.ntmps4
          go_wp2_with (first
              | (go_at_call 7; (with_reducible refine (newP w).mono ?_); rintro e1 w1 ⟨rfl, hs1, h1, b1⟩; have F1 : PFam w1 A0 _ _ := fam_one h1)
              | (go_at_call 11; (with_reducible refine (defineB F1 (i := 0) (m := w.heap.size) (by decide) rfl rfl _ sn _ _ l1 k1).mono ?_); rintro e2 w2 ⟨rfl, F2a, b2⟩; have F2 : PFam w2 [⟨none, 0, addD [] name c⟩] _ _ := F2a; rw [hD0'.out] at F2; have B1 : Below w.heap.size w w1 := b1; have B2 := But.below b2 (Nat.le_refl _) (Nat.le_refl _) B1)
              | (go_at_call 9; (with_reducible refine (openB F2 y1 o1 (i := 0) o2 rfl).mono ?_); rintro e3 w3 ⟨rfl, F3a, b3⟩; have F3 : PFam w3 [⟨none, 0, D0⟩, ⟨some 0, 1, []⟩] _ _ := F3a; have B3 := B2.trans (b3.mono B2.size); have F3b : PFam w3 [⟨none, 0, D0⟩, ⟨some 0, 1, []⟩] (three (w.heap.size + 1) (w2.heap.size + 1) 0) (three w.heap.size w2.heap.size 0) := PFam.named F3 (n3 _ _) (n3 _ _) y2)
              | (go_at_call 9; ((with_reducible refine (openB F3b y2 o3 (i := 0) o4 (three0 _ _ _)).mono ?_); rintro e4 w4 ⟨rfl, F4a, b4⟩; have F4 : PFam w4 (H5 D0 []) _ _ := F4a; have B4 := B3.trans (b4.mono B3.size); have F4b : PFam w4 (H5 D0 []) (three (w.heap.size + 1) (w2.heap.size + 1) (w3.heap.size + 1)) (three w.heap.size w2.heap.size w3.heap.size) := PFam.named F4 (n4 _ _ _) (n4 _ _ _) (wfH D0 [])))
              | (go_at_call 11; (with_reducible refine (defineB F4b (i := 1) u1 (three1 _ _ _) (three1 _ _ _) _ sn _ _ l2 k2).mono ?_); rintro e5 w5 ⟨rfl, F5a, b5⟩; have F5 : PFam w5 (H5 D0 (addD [] name d)) _ _ := F5a; have B5 := But.below b5 B2.size (Nat.le_refl _) B4)
              | (go_at_call 11; (with_reducible refine (defineB F5 (i := 1) u2 (three1 _ _ _) (three1 _ _ _) _ so _ _ l3 k3).mono ?_); rintro e6 w6 ⟨rfl, F6a, b6⟩; have F6 : PFam w6 (H5 D0 (addD (addD [] name d) other d)) _ _ := F6a; rw [hD1'.out] at F6; have B6 := But.below b6 B2.size (Nat.le_refl _) B5)
              | (go_at_call 13; (with_reducible refine (findB F6 (wfH D0 D1) (i := 0) u3 (three0 _ _ _) _ sn _ _ hfx'.out).mono ?_); rintro e7 w7 ⟨rfl, b7⟩; have F7 := F6.below b7; have B7 := B6.trans (b7.mono B6.size))
              | (go_at_call 13; (with_reducible refine (findB F7 (wfH D0 D1) (i := 1) u4 (three1 _ _ _) _ sn _ _ hfy'.out).mono ?_); rintro e8 w8 ⟨rfl, b8⟩; have F8 := F7.below b8; have B8 := B7.trans (b8.mono B7.size))
              | (go_at_call 13; (with_reducible refine (findB F8 (wfH D0 D1) (i := 2) u5 (three2 _ _ _) _ sn _ _ hfz'.out).mono ?_); rintro e9 w9 ⟨rfl, b9⟩; have F9 := F8.below b9; have B9 := B8.trans (b9.mono B8.size))
              | (go_at_call 13; (with_reducible refine (findB F9 (wfH D0 D1) (i := 0) u3 (three0 _ _ _) _ so _ _ hfo'.out).mono ?_); rintro e10 w10 ⟨rfl, b10⟩; have F10 := F9.below b10; have B10 := B9.trans (b10.mono B9.size))
              | (go_at_call 18; (with_reducible refine (namesB F10 (i := 1) u4 (three1 _ _ _) [name, other] NM' nl2 2 nl3).mono ?_); rintro e11 w11 ⟨rfl, S11, b11⟩; have B11 := B10.trans (b11.mono B10.size))
              | (go_at_call 17; ((with_reducible refine (same2 S11).mono ?_); rintro e12 w12 ⟨rfl, b12⟩; have B12 := B11.trans ((Below.then (below_new _ _) b12).mono B11.size)))
              | (go_at_call 6; (with_reducible refine (awakeL _).mono ?_); rintro e13 w13 ⟨rfl, b13⟩)
              )
          go_ret
          exact ⟨rfl, B12.trans (b13.mono B12.size)⟩
        · have t6 : (g == 0) = false := by simpa using qg
          subst qf
          clear m1 m2 m3 m4 m5 m6 qg m4'
          go_enter Try.func4, Try.ntmps4
          go_wp2_with (first
              | (go_at_call 7; (with_reducible refine (newP w).mono ?_); rintro e1 w1 ⟨rfl, hs1, h1, b1⟩; have F1 : PFam w1 A0 _ _ := fam_one h1)
              | (go_at_call 11; (with_reducible refine (defineB F1 (i := 0) (m := w.heap.size) (by decide) rfl rfl _ sn _ _ l1 k1).mono ?_); rintro e2 w2 ⟨rfl, F2a, b2⟩; have F2 : PFam w2 [⟨none, 0, addD [] name c⟩] _ _ := F2a; rw [hD0'.out] at F2; have B1 : Below w.heap.size w w1 := b1; have B2 := But.below b2 (Nat.le_refl _) (Nat.le_refl _) B1)
              | (go_at_call 9; (with_reducible refine (openB F2 y1 o1 (i := 0) o2 rfl).mono ?_); rintro e3 w3 ⟨rfl, F3a, b3⟩; have F3 : PFam w3 [⟨none, 0, D0⟩, ⟨some 0, 1, []⟩] _ _ := F3a; have B3 := B2.trans (b3.mono B2.size); have F3b : PFam w3 [⟨none, 0, D0⟩, ⟨some 0, 1, []⟩] (three (w.heap.size + 1) (w2.heap.size + 1) 0) (three w.heap.size w2.heap.size 0) := PFam.named F3 (n3 _ _) (n3 _ _) y2)
              | (go_at_call 9; ((with_reducible refine (openB F3b y2 o3 (i := 0) o4 (three0 _ _ _)).mono ?_); rintro e4 w4 ⟨rfl, F4a, b4⟩; have F4 : PFam w4 (H5 D0 []) _ _ := F4a; have B4 := B3.trans (b4.mono B3.size); have F4b : PFam w4 (H5 D0 []) (three (w.heap.size + 1) (w2.heap.size + 1) (w3.heap.size + 1)) (three w.heap.size w2.heap.size w3.heap.size) := PFam.named F4 (n4 _ _ _) (n4 _ _ _) (wfH D0 [])))
              | (go_at_call 11; (with_reducible refine (defineB F4b (i := 1) u1 (three1 _ _ _) (three1 _ _ _) _ sn _ _ l2 k2).mono ?_); rintro e5 w5 ⟨rfl, F5a, b5⟩; have F5 : PFam w5 (H5 D0 (addD [] name d)) _ _ := F5a; have B5 := But.below b5 B2.size (Nat.le_refl _) B4)
              | (go_at_call 11; (with_reducible refine (defineB F5 (i := 1) u2 (three1 _ _ _) (three1 _ _ _) _ so _ _ l3 k3).mono ?_); rintro e6 w6 ⟨rfl, F6a, b6⟩; have F6 : PFam w6 (H5 D0 (addD (addD [] name d) other d)) _ _ := F6a; rw [hD1'.out] at F6; have B6 := But.below b6 B2.size (Nat.le_refl _) B5)
              | (go_at_call 13; (with_reducible refine (findB F6 (wfH D0 D1) (i := 0) u3 (three0 _ _ _) _ sn _ _ hfx'.out).mono ?_); rintro e7 w7 ⟨rfl, b7⟩; have F7 := F6.below b7; have B7 := B6.trans (b7.mono B6.size))
              | (go_at_call 13; (with_reducible refine (findB F7 (wfH D0 D1) (i := 1) u4 (three1 _ _ _) _ sn _ _ hfy'.out).mono ?_); rintro e8 w8 ⟨rfl, b8⟩; have F8 := F7.below b8; have B8 := B7.trans (b8.mono B7.size))
              | (go_at_call 13; (with_reducible refine (findB F8 (wfH D0 D1) (i := 2) u5 (three2 _ _ _) _ sn _ _ hfz'.out).mono ?_); rintro e9 w9 ⟨rfl, b9⟩; have F9 := F8.below b9; have B9 := B8.trans (b9.mono B8.size))
              | (go_at_call 13; (with_reducible refine (findB F9 (wfH D0 D1) (i := 0) u3 (three0 _ _ _) _ so _ _ hfo'.out).mono ?_); rintro e10 w10 ⟨rfl, b10⟩; have F10 := F9.below b10; have B10 := B9.trans (b10.mono B9.size))
              | (go_at_call 18; (with_reducible refine (namesB F10 (i := 1) u4 (three1 _ _ _) [name, other] NM' nl2 2 nl3).mono ?_); rintro e11 w11 ⟨rfl, S11, b11⟩; have B11 := B10.trans (b11.mono B10.size))
              | (go_at_call 17; ((with_reducible refine (same2 S11).mono ?_); rintro e12 w12 ⟨rfl, b12⟩; have B12 := B11.trans ((Below.then (below_new _ _) b12).mono B11.size)))
              | (go_at_call 6; (with_reducible refine (awakeL _).mono ?_); rintro e13 w13 ⟨rfl, b13⟩)
              )
          go_ret
          exact ⟨rfl, B10.trans (b13.mono B10.size)⟩
    · have t3 : (f == 0) = false := by simpa using qf
      have t4 : (f != 0) = true := by simpa using qf
      obtain rfl := m4' qf
      clear m1 m2 m3 m4 m5 m6 qf m4'
      go_enter Try.func4, Try.ntmps4
      go_wp2_with (first
          | (go_at_call 7; (with_reducible refine (newP w).mono ?_); rintro e1 w1 ⟨rfl, hs1, h1, b1⟩; have F1 : PFam w1 A0 _ _ := fam_one h1)
          | (go_at_call 11; (with_reducible refine (defineB F1 (i := 0) (m := w.heap.size) (by decide) rfl rfl _ sn _ _ l1 k1).mono ?_); rintro e2 w2 ⟨rfl, F2a, b2⟩; have F2 : PFam w2 [⟨none, 0, addD [] name c⟩] _ _ := F2a; rw [hD0'.out] at F2; have B1 : Below w.heap.size w w1 := b1; have B2 := But.below b2 (Nat.le_refl _) (Nat.le_refl _) B1)
          | (go_at_call 9; (with_reducible refine (openB F2 y1 o1 (i := 0) o2 rfl).mono ?_); rintro e3 w3 ⟨rfl, F3a, b3⟩; have F3 : PFam w3 [⟨none, 0, D0⟩, ⟨some 0, 1, []⟩] _ _ := F3a; have B3 := B2.trans (b3.mono B2.size); have F3b : PFam w3 [⟨none, 0, D0⟩, ⟨some 0, 1, []⟩] (three (w.heap.size + 1) (w2.heap.size + 1) 0) (three w.heap.size w2.heap.size 0) := PFam.named F3 (n3 _ _) (n3 _ _) y2)
          | (go_at_call 9; ((with_reducible refine (openB F3b y2 o3 (i := 0) o4 (three0 _ _ _)).mono ?_); rintro e4 w4 ⟨rfl, F4a, b4⟩; have F4 : PFam w4 (H5 D0 []) _ _ := F4a; have B4 := B3.trans (b4.mono B3.size); have F4b : PFam w4 (H5 D0 []) (three (w.heap.size + 1) (w2.heap.size + 1) (w3.heap.size + 1)) (three w.heap.size w2.heap.size w3.heap.size) := PFam.named F4 (n4 _ _ _) (n4 _ _ _) (wfH D0 [])))
          | (go_at_call 11; (with_reducible refine (defineB F4b (i := 1) u1 (three1 _ _ _) (three1 _ _ _) _ sn _ _ l2 k2).mono ?_); rintro e5 w5 ⟨rfl, F5a, b5⟩; have F5 : PFam w5 (H5 D0 (addD [] name d)) _ _ := F5a; have B5 := But.below b5 B2.size (Nat.le_refl _) B4)
          | (go_at_call 11; (with_reducible refine (defineB F5 (i := 1) u2 (three1 _ _ _) (three1 _ _ _) _ so _ _ l3 k3).mono ?_); rintro e6 w6 ⟨rfl, F6a, b6⟩; have F6 : PFam w6 (H5 D0 (addD (addD [] name d) other d)) _ _ := F6a; rw [hD1'.out] at F6; have B6 := But.below b6 B2.size (Nat.le_refl _) B5)
          | (go_at_call 13; (with_reducible refine (findB F6 (wfH D0 D1) (i := 0) u3 (three0 _ _ _) _ sn _ _ hfx'.out).mono ?_); rintro e7 w7 ⟨rfl, b7⟩; have F7 := F6.below b7; have B7 := B6.trans (b7.mono B6.size))
          | (go_at_call 13; (with_reducible refine (findB F7 (wfH D0 D1) (i := 1) u4 (three1 _ _ _) _ sn _ _ hfy'.out).mono ?_); rintro e8 w8 ⟨rfl, b8⟩; have F8 := F7.below b8; have B8 := B7.trans (b8.mono B7.size))
          | (go_at_call 13; (with_reducible refine (findB F8 (wfH D0 D1) (i := 2) u5 (three2 _ _ _) _ sn _ _ hfz'.out).mono ?_); rintro e9 w9 ⟨rfl, b9⟩; have F9 := F8.below b9; have B9 := B8.trans (b9.mono B8.size))
          | (go_at_call 13; (with_reducible refine (findB F9 (wfH D0 D1) (i := 0) u3 (three0 _ _ _) _ so _ _ hfo'.out).mono ?_); rintro e10 w10 ⟨rfl, b10⟩; have F10 := F9.below b10; have B10 := B9.trans (b10.mono B9.size))
          | (go_at_call 18; (with_reducible refine (namesB F10 (i := 1) u4 (three1 _ _ _) [name, other] NM' nl2 2 nl3).mono ?_); rintro e11 w11 ⟨rfl, S11, b11⟩; have B11 := B10.trans (b11.mono B10.size))
          | (go_at_call 17; ((with_reducible refine (same2 S11).mono ?_); rintro e12 w12 ⟨rfl, b12⟩; have B12 := B11.trans ((Below.then (below_new _ _) b12).mono B11.size)))
          | (go_at_call 6; (with_reducible refine (awakeL _).mono ?_); rintro e13 w13 ⟨rfl, b13⟩)
          )
      go_ret
      exact ⟨rfl, B10.trans (b13.mono B10.size)⟩
  · obtain ⟨rfl, rfl⟩ := m2 qe
    have t1 : (e == 0) = false := by simpa using qe
    have t2 : (e != 0) = true := by simpa using qe
    by_cases qf : f = 0
    · obtain ⟨rfl, rfl⟩ := m3 qf
      by_cases qo : other = name
      · obtain rfl := m6 qf qo
        subst qf
        obtain rfl := qo.symm
        clear m1 m2 m3 m4 m5 m6
        go_enter Try.func4, Try.ntmps4
        go_wp2_with (first
            | (go_at_call 7; (with_reducible refine (newP w).mono ?_); rintro e1 w1 ⟨rfl, hs1, h1, b1⟩; have F1 : PFam w1 A0 _ _ := fam_one h1)
            | (go_at_call 11; (with_reducible refine (defineB F1 (i := 0) (m := w.heap.size) (by decide) rfl rfl _ sn _ _ l1 k1).mono ?_); rintro e2 w2 ⟨rfl, F2a, b2⟩; have F2 : PFam w2 [⟨none, 0, addD [] name c⟩] _ _ := F2a; rw [hD0'.out] at F2; have B1 : Below w.heap.size w w1 := b1; have B2 := But.below b2 (Nat.le_refl _) (Nat.le_refl _) B1)
            | (go_at_call 9; (with_reducible refine (openB F2 y1 o1 (i := 0) o2 rfl).mono ?_); rintro e3 w3 ⟨rfl, F3a, b3⟩; have F3 : PFam w3 [⟨none, 0, D0⟩, ⟨some 0, 1, []⟩] _ _ := F3a; have B3 := B2.trans (b3.mono B2.size); have F3b : PFam w3 [⟨none, 0, D0⟩, ⟨some 0, 1, []⟩] (three (w.heap.size + 1) (w2.heap.size + 1) 0) (three w.heap.size w2.heap.size 0) := PFam.named F3 (n3 _ _) (n3 _ _) y2)
            | (go_at_call 9; ((with_reducible refine (openB F3b y2 o3 (i := 0) o4 (three0 _ _ _)).mono ?_); rintro e4 w4 ⟨rfl, F4a, b4⟩; have F4 : PFam w4 (H5 D0 []) _ _ := F4a; have B4 := B3.trans (b4.mono B3.size); have F4b : PFam w4 (H5 D0 []) (three (w.heap.size + 1) (w2.heap.size + 1) (w3.heap.size + 1)) (three w.heap.size w2.heap.size w3.heap.size) := PFam.named F4 (n4 _ _ _) (n4 _ _ _) (wfH D0 [])))
            | (go_at_call 11; (with_reducible refine (defineB F4b (i := 1) u1 (three1 _ _ _) (three1 _ _ _) _ sn _ _ l2 k2).mono ?_); rintro e5 w5 ⟨rfl, F5a, b5⟩; have F5 : PFam w5 (H5 D0 (addD [] name d)) _ _ := F5a; have B5 := But.below b5 B2.size (Nat.le_refl _) B4)
            | (go_at_call 11; (with_reducible refine (defineB F5 (i := 1) u2 (three1 _ _ _) (three1 _ _ _) _ so _ _ l3 k3).mono ?_); rintro e6 w6 ⟨rfl, F6a, b6⟩; have F6 : PFam w6 (H5 D0 (addD (addD [] name d) name d)) _ _ := F6a; rw [hD1'.out] at F6; have B6 := But.below b6 B2.size (Nat.le_refl _) B5)
            | (go_at_call 13; (with_reducible refine (findB F6 (wfH D0 D1) (i := 0) u3 (three0 _ _ _) _ sn _ _ hfx'.out).mono ?_); rintro e7 w7 ⟨rfl, b7⟩; have F7 := F6.below b7; have B7 := B6.trans (b7.mono B6.size))
            | (go_at_call 13; (with_reducible refine (findB F7 (wfH D0 D1) (i := 1) u4 (three1 _ _ _) _ sn _ _ hfy'.out).mono ?_); rintro e8 w8 ⟨rfl, b8⟩; have F8 := F7.below b8; have B8 := B7.trans (b8.mono B7.size))
            | (go_at_call 13; (with_reducible refine (findB F8 (wfH D0 D1) (i := 2) u5 (three2 _ _ _) _ sn _ _ hfz'.out).mono ?_); rintro e9 w9 ⟨rfl, b9⟩; have F9 := F8.below b9; have B9 := B8.trans (b9.mono B8.size))
            | (go_at_call 13; (with_reducible refine (findB F9 (wfH D0 D1) (i := 0) u3 (three0 _ _ _) _ so _ _ hfo'.out).mono ?_); rintro e10 w10 ⟨rfl, b10⟩; have F10 := F9.below b10; have B10 := B9.trans (b10.mono B9.size))
            | (go_at_call 18; (with_reducible refine (namesB F10 (i := 1) u4 (three1 _ _ _) [name, name] NM' nl2 2 nl3).mono ?_); rintro e11 w11 ⟨rfl, S11, b11⟩; have B11 := B10.trans (b11.mono B10.size))
            | (go_at_call 17; ((with_reducible refine (same2 S11).mono ?_); rintro e12 w12 ⟨rfl, b12⟩; have B12 := B11.trans ((Below.then (below_new _ _) b12).mono B11.size)))
            | (go_at_call 6; (with_reducible refine (awakeL _).mono ?_); rintro e13 w13 ⟨rfl, b13⟩)
            )
        go_ret
        exact ⟨rfl, B10.trans (b13.mono B10.size)⟩
      · have t5 : (other.toList == name.toList) = false := str_ne qo
        by_cases qg : g = 0
        · obtain ⟨rfl, NM⟩ := m5 qf qg qo
          have NM' : namesOf (scp (H5 D0 D1) 1).ds = [name, other] := NM
          subst qf qg
          clear m1 m2 m3 m4 m5 m6
          go_enter Try.func4, Try.ntmps4
          go_wp2_with (first
              | (go_at_call 7; (with_reducible refine (newP w).mono ?_); rintro e1 w1 ⟨rfl, hs1, h1, b1⟩; have F1 : PFam w1 A0 _ _ := fam_one h1)
              | (go_at_call 11; (with_reducible refine (defineB F1 (i := 0) (m := w.heap.size) (by decide) rfl rfl _ sn _ _ l1 k1).mono ?_); rintro e2 w2 ⟨rfl, F2a, b2⟩; have F2 : PFam w2 [⟨none, 0, addD [] name c⟩] _ _ := F2a; rw [hD0'.out] at F2; have B1 : Below w.heap.size w w1 := b1; have B2 := But.below b2 (Nat.le_refl _) (Nat.le_refl _) B1)
              | (go_at_call 9; (with_reducible refine (openB F2 y1 o1 (i := 0) o2 rfl).mono ?_); rintro e3 w3 ⟨rfl, F3a, b3⟩; have F3 : PFam w3 [⟨none, 0, D0⟩, ⟨some 0, 1, []⟩] _ _ := F3a; have B3 := B2.trans (b3.mono B2.size); have F3b : PFam w3 [⟨none, 0, D0⟩, ⟨some 0, 1, []⟩] (three (w.heap.size + 1) (w2.heap.size + 1) 0) (three w.heap.size w2.heap.size 0) := PFam.named F3 (n3 _ _) (n3 _ _) y2)
              | (go_at_call 9; ((with_reducible refine (openB F3b y2 o3 (i := 0) o4 (three0 _ _ _)).mono ?_); rintro e4 w4 ⟨rfl, F4a, b4⟩; have F4 : PFam w4 (H5 D0 []) _ _ := F4a; have B4 := B3.trans (b4.mono B3.size); have F4b : PFam w4 (H5 D0 []) (three (w.heap.size + 1) (w2.heap.size + 1) (w3.heap.size + 1)) (three w.heap.size w2.heap.size w3.heap.size) := PFam.named F4 (n4 _ _ _) (n4 _ _ _) (wfH D0 [])))
              | (go_at_call 11; (with_reducible refine (defineB F4b (i := 1) u1 (three1 _ _ _) (three1 _ _ _) _ sn _ _ l2 k2).mono ?_); rintro e5 w5 ⟨rfl, F5a, b5⟩; have F5 : PFam w5 (H5 D0 (addD [] name d)) _ _ := F5a; have B5 := But.below b5 B2.size (Nat.le_refl _) B4)
              | (go_at_call 11; (with_reducible refine (defineB F5 (i := 1) u2 (three1 _ _ _) (three1 _ _ _) _ so _ _ l3 k3).mono ?_); rintro e6 w6 ⟨rfl, F6a, b6⟩; have F6 : PFam w6 (H5 D0 (addD (addD [] name d) other d)) _ _ := F6a; rw [hD1'.out] at F6; have B6 := But.below b6 B2.size (Nat.le_refl _) B5)
              | (go_at_call 13; (with_reducible refine (findB F6 (wfH D0 D1) (i := 0) u3 (three0 _ _ _) _ sn _ _ hfx'.out).mono ?_); rintro e7 w7 ⟨rfl, b7⟩; have F7 := F6.below b7; have B7 := B6.trans (b7.mono B6.size))
              | (go_at_call 13; (with_reducible refine (findB F7 (wfH D0 D1) (i := 1) u4 (three1 _ _ _) _ sn _ _ hfy'.out).mono ?_); rintro e8 w8 ⟨rfl, b8⟩; have F8 := F7.below b8; have B8 := B7.trans (b8.mono B7.size))
              | (go_at_call 13; (with_reducible refine (findB F8 (wfH D0 D1) (i := 2) u5 (three2 _ _ _) _ sn _ _ hfz'.out).mono ?_); rintro e9 w9 ⟨rfl, b9⟩; have F9 := F8.below b9; have B9 := B8.trans (b9.mono B8.size))
              | (go_at_call 13; (with_reducible refine (findB F9 (wfH D0 D1) (i := 0) u3 (three0 _ _ _) _ so _ _ hfo'.out).mono ?_); rintro e10 w10 ⟨rfl, b10⟩; have F10 := F9.below b10; have B10 := B9.trans (b10.mono B9.size))
              | (go_at_call 18; (with_reducible refine (namesB F10 (i := 1) u4 (three1 _ _ _) [name, other] NM' nl2 2 nl3).mono ?_); rintro e11 w11 ⟨rfl, S11, b11⟩; have B11 := B10.trans (b11.mono B10.size))
              | (go_at_call 17; ((with_reducible refine (same2 S11).mono ?_); rintro e12 w12 ⟨rfl, b12⟩; have B12 := B11.trans ((Below.then (below_new _ _) b12).mono B11.size)))
              | (go_at_call 6; (with_reducible refine (awakeL _).mono ?_); rintro e13 w13 ⟨rfl, b13⟩)
              )
          go_ret
          exact ⟨rfl, B12.trans (b13.mono B12.size)⟩
        · have t6 : (g == 0) = false := by simpa using qg
          subst qf
          clear m1 m2 m3 m4 m5 m6 qg
          go_enter Try.func4, Try.ntmps4
          go_wp2_with (first
              | (go_at_call 7; (with_reducible refine (newP w).mono ?_); rintro e1 w1 ⟨rfl, hs1, h1, b1⟩; have F1 : PFam w1 A0 _ _ := fam_one h1)
              | (go_at_call 11; (with_reducible refine (defineB F1 (i := 0) (m := w.heap.size) (by decide) rfl rfl _ sn _ _ l1 k1).mono ?_); rintro e2 w2 ⟨rfl, F2a, b2⟩; have F2 : PFam w2 [⟨none, 0, addD [] name c⟩] _ _ := F2a; rw [hD0'.out] at F2; have B1 : Below w.heap.size w w1 := b1; have B2 := But.below b2 (Nat.le_refl _) (Nat.le_refl _) B1)
              | (go_at_call 9; (with_reducible refine (openB F2 y1 o1 (i := 0) o2 rfl).mono ?_); rintro e3 w3 ⟨rfl, F3a, b3⟩; have F3 : PFam w3 [⟨none, 0, D0⟩, ⟨some 0, 1, []⟩] _ _ := F3a; have B3 := B2.trans (b3.mono B2.size); have F3b : PFam w3 [⟨none, 0, D0⟩, ⟨some 0, 1, []⟩] (three (w.heap.size + 1) (w2.heap.size + 1) 0) (three w.heap.size w2.heap.size 0) := PFam.named F3 (n3 _ _) (n3 _ _) y2)
              | (go_at_call 9; ((with_reducible refine (openB F3b y2 o3 (i := 0) o4 (three0 _ _ _)).mono ?_); rintro e4 w4 ⟨rfl, F4a, b4⟩; have F4 : PFam w4 (H5 D0 []) _ _ := F4a; have B4 := B3.trans (b4.mono B3.size); have F4b : PFam w4 (H5 D0 []) (three (w.heap.size + 1) (w2.heap.size + 1) (w3.heap.size + 1)) (three w.heap.size w2.heap.size w3.heap.size) := PFam.named F4 (n4 _ _ _) (n4 _ _ _) (wfH D0 [])))
              | (go_at_call 11; (with_reducible refine (defineB F4b (i := 1) u1 (three1 _ _ _) (three1 _ _ _) _ sn _ _ l2 k2).mono ?_); rintro e5 w5 ⟨rfl, F5a, b5⟩; have F5 : PFam w5 (H5 D0 (addD [] name d)) _ _ := F5a; have B5 := But.below b5 B2.size (Nat.le_refl _) B4)
              | (go_at_call 11; (with_reducible refine (defineB F5 (i := 1) u2 (three1 _ _ _) (three1 _ _ _) _ so _ _ l3 k3).mono ?_); rintro e6 w6 ⟨rfl, F6a, b6⟩; have F6 : PFam w6 (H5 D0 (addD (addD [] name d) other d)) _ _ := F6a; rw [hD1'.out] at F6; have B6 := But.below b6 B2.size (Nat.le_refl _) B5)
              | (go_at_call 13; (with_reducible refine (findB F6 (wfH D0 D1) (i := 0) u3 (three0 _ _ _) _ sn _ _ hfx'.out).mono ?_); rintro e7 w7 ⟨rfl, b7⟩; have F7 := F6.below b7; have B7 := B6.trans (b7.mono B6.size))
              | (go_at_call 13; (with_reducible refine (findB F7 (wfH D0 D1) (i := 1) u4 (three1 _ _ _) _ sn _ _ hfy'.out).mono ?_); rintro e8 w8 ⟨rfl, b8⟩; have F8 := F7.below b8; have B8 := B7.trans (b8.mono B7.size))
              | (go_at_call 13; (with_reducible refine (findB F8 (wfH D0 D1) (i := 2) u5 (three2 _ _ _) _ sn _ _ hfz'.out).mono ?_); rintro e9 w9 ⟨rfl, b9⟩; have F9 := F8.below b9; have B9 := B8.trans (b9.mono B8.size))
              | (go_at_call 13; (with_reducible refine (findB F9 (wfH D0 D1) (i := 0) u3 (three0 _ _ _) _ so _ _ hfo'.out).mono ?_); rintro e10 w10 ⟨rfl, b10⟩; have F10 := F9.below b10; have B10 := B9.trans (b10.mono B9.size))
              | (go_at_call 18; (with_reducible refine (namesB F10 (i := 1) u4 (three1 _ _ _) [name, other] NM' nl2 2 nl3).mono ?_); rintro e11 w11 ⟨rfl, S11, b11⟩; have B11 := B10.trans (b11.mono B10.size))
              | (go_at_call 17; ((with_reducible refine (same2 S11).mono ?_); rintro e12 w12 ⟨rfl, b12⟩; have B12 := B11.trans ((Below.then (below_new _ _) b12).mono B11.size)))
              | (go_at_call 6; (with_reducible refine (awakeL _).mono ?_); rintro e13 w13 ⟨rfl, b13⟩)
              )
          go_ret
          exact ⟨rfl, B10.trans (b13.mono B10.size)⟩
    · have t3 : (f == 0) = false := by simpa using qf
      have t4 : (f != 0) = true := by simpa using qf
      clear m1 m2 m3 m4 m5 m6 qf
      go_enter Try.func4, Try.ntmps4
      go_wp2_with (first
          | (go_at_call 7; (with_reducible refine (newP w).mono ?_); rintro e1 w1 ⟨rfl, hs1, h1, b1⟩; have F1 : PFam w1 A0 _ _ := fam_one h1)
          | (go_at_call 11; (with_reducible refine (defineB F1 (i := 0) (m := w.heap.size) (by decide) rfl rfl _ sn _ _ l1 k1).mono ?_); rintro e2 w2 ⟨rfl, F2a, b2⟩; have F2 : PFam w2 [⟨none, 0, addD [] name c⟩] _ _ := F2a; rw [hD0'.out] at F2; have B1 : Below w.heap.size w w1 := b1; have B2 := But.below b2 (Nat.le_refl _) (Nat.le_refl _) B1)
          | (go_at_call 9; (with_reducible refine (openB F2 y1 o1 (i := 0) o2 rfl).mono ?_); rintro e3 w3 ⟨rfl, F3a, b3⟩; have F3 : PFam w3 [⟨none, 0, D0⟩, ⟨some 0, 1, []⟩] _ _ := F3a; have B3 := B2.trans (b3.mono B2.size); have F3b : PFam w3 [⟨none, 0, D0⟩, ⟨some 0, 1, []⟩] (three (w.heap.size + 1) (w2.heap.size + 1) 0) (three w.heap.size w2.heap.size 0) := PFam.named F3 (n3 _ _) (n3 _ _) y2)
          | (go_at_call 9; ((with_reducible refine (openB F3b y2 o3 (i := 0) o4 (three0 _ _ _)).mono ?_); rintro e4 w4 ⟨rfl, F4a, b4⟩; have F4 : PFam w4 (H5 D0 []) _ _ := F4a; have B4 := B3.trans (b4.mono B3.size); have F4b : PFam w4 (H5 D0 []) (three (w.heap.size + 1) (w2.heap.size + 1) (w3.heap.size + 1)) (three w.heap.size w2.heap.size w3.heap.size) := PFam.named F4 (n4 _ _ _) (n4 _ _ _) (wfH D0 [])))
          | (go_at_call 11; (with_reducible refine (defineB F4b (i := 1) u1 (three1 _ _ _) (three1 _ _ _) _ sn _ _ l2 k2).mono ?_); rintro e5 w5 ⟨rfl, F5a, b5⟩; have F5 : PFam w5 (H5 D0 (addD [] name d)) _ _ := F5a; have B5 := But.below b5 B2.size (Nat.le_refl _) B4)
          | (go_at_call 11; (with_reducible refine (defineB F5 (i := 1) u2 (three1 _ _ _) (three1 _ _ _) _ so _ _ l3 k3).mono ?_); rintro e6 w6 ⟨rfl, F6a, b6⟩; have F6 : PFam w6 (H5 D0 (addD (addD [] name d) other d)) _ _ := F6a; rw [hD1'.out] at F6; have B6 := But.below b6 B2.size (Nat.le_refl _) B5)
          | (go_at_call 13; (with_reducible refine (findB F6 (wfH D0 D1) (i := 0) u3 (three0 _ _ _) _ sn _ _ hfx'.out).mono ?_); rintro e7 w7 ⟨rfl, b7⟩; have F7 := F6.below b7; have B7 := B6.trans (b7.mono B6.size))
          | (go_at_call 13; (with_reducible refine (findB F7 (wfH D0 D1) (i := 1) u4 (three1 _ _ _) _ sn _ _ hfy'.out).mono ?_); rintro e8 w8 ⟨rfl, b8⟩; have F8 := F7.below b8; have B8 := B7.trans (b8.mono B7.size))
          | (go_at_call 13; (with_reducible refine (findB F8 (wfH D0 D1) (i := 2) u5 (three2 _ _ _) _ sn _ _ hfz'.out).mono ?_); rintro e9 w9 ⟨rfl, b9⟩; have F9 := F8.below b9; have B9 := B8.trans (b9.mono B8.size))
          | (go_at_call 13; (with_reducible refine (findB F9 (wfH D0 D1) (i := 0) u3 (three0 _ _ _) _ so _ _ hfo'.out).mono ?_); rintro e10 w10 ⟨rfl, b10⟩; have F10 := F9.below b10; have B10 := B9.trans (b10.mono B9.size))
          | (go_at_call 18; (with_reducible refine (namesB F10 (i := 1) u4 (three1 _ _ _) [name, other] NM' nl2 2 nl3).mono ?_); rintro e11 w11 ⟨rfl, S11, b11⟩; have B11 := B10.trans (b11.mono B10.size))
          | (go_at_call 17; ((with_reducible refine (same2 S11).mono ?_); rintro e12 w12 ⟨rfl, b12⟩; have B12 := B11.trans ((Below.then (below_new _ _) b12).mono B11.size)))
          | (go_at_call 6; (with_reducible refine (awakeL _).mono ?_); rintro e13 w13 ⟨rfl, b13⟩)
          )
      go_ret
      exact ⟨rfl, B10.trans (b13.mono B10.size)⟩
end Go.Proofs.Ytmbljiapfbadeaa.Nam
