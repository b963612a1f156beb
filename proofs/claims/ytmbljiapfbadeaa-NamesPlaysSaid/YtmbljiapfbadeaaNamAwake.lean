/-
  Layer 11: the law's examples.
-/
import Derived.Test.YtmbljiapfbadeaaNamSame
namespace Go.Proofs.Ytmbljiapfbadeaa.Nam
open Go.RowKit Go.Maps
set_option linter.unusedVariables false

theorem PFam.but {w w' : World} {L : List Scp} {pb mb : Nat → Nat} (h : PFam w L pb mb) {k : Nat} (hb : But k w w') (hp : ∀ i, i < L.length → pb i ≠ k) (hm : ∀ i, i < L.length → mb i ≠ k) : PFam w' L pb mb := ⟨fun i hi => (h.sc i hi).but hb (hp i hi) (hm i hi), h.inj⟩
def A0 : List Scp := [⟨none, 0, []⟩]
abbrev sA : ByteArray := ⟨#[97]⟩
abbrev sB : ByteArray := ⟨#[65]⟩
def A1 : List Scp := defL A0 0 sA 1
def A2 : List Scp := openL A1 0
def A3 : List Scp := defL A2 1 sA 2
def A4 : List Scp := defL A3 0 sA 2
def A5 : List Scp := defL A4 0 sB 2
theorem wf1 : Wf A1 := Wf.defined wf_one 0 sA 1
theorem wf2 : Wf A2 := wf1.opened (by decide)
theorem wf3 : Wf A3 := wf2.defined 1 sA 2
theorem openB {w : World} {L : List Scp} {pb mb : Nat → Nat} (h : PFam w L pb mb) (hW : Wf L) (hl : L.length ≤ 1000) {i b : Nat} (hi : i < L.length) (hb : pb i = b) :
    Calls Try.prog 9 #[.pointer (some ⟨b, 0, none⟩)] w fun e w' => e = .returned (.pointer (some ⟨w.heap.size + 1, 0, none⟩)) ∧ PFam w' (openL L i) (upd pb L.length (w.heap.size + 1)) (upd mb L.length w.heap.size) ∧ Below w.heap.size w w' := by
  subst hb
  exact openF h hW hl hi
theorem defineB {w : World} {L : List Scp} {pb mb : Nat → Nat} (h : PFam w L pb mb) {i b m : Nat} (hi : i < L.length) (hb : pb i = b) (hm : mb i = m) (s : ByteArray) (hs : s.size ≤ maxLen) (c r : Int) (hl : (scp L i).ds.length ≤ 1000) (hr : errD (scp L i).ds s c = r) :
    Calls Try.prog 11 #[.pointer (some ⟨b, 0, none⟩), .string s, .int .i64 c] w fun e w' => e = .returned (.int .i64 r) ∧ PFam w' (defL L i s c) pb mb ∧ But m w w' := by
  subst hb hm hr
  exact defineF h hi s hs c hl
theorem findB {w : World} {L : List Scp} {pb mb : Nat → Nat} (h : PFam w L pb mb) (hW : Wf L) {i b : Nat} (hi : i < L.length) (hb : pb i = b) (s : ByteArray) (hs : s.size ≤ maxLen) (c : Int) (r : Bool) (hr : findS L (i + 1) (some i) s = (c, r)) :
    Calls Try.prog 13 #[.pointer (some ⟨b, 0, none⟩), .string s] w fun e w' => e = .returned (.tuple #[.int .i64 c, .bool r]) ∧ Below w.heap.size w w' := by
  subst hb
  exact find0 w L pb mb h hW i hi s hs c r hr
theorem depthB {w : World} {L : List Scp} {pb mb : Nat → Nat} (h : PFam w L pb mb) {i b : Nat} (hi : i < L.length) (hb : pb i = b) (r : Int) (hr : ((scp L i).dep : Int) = r) :
    Calls Try.prog 15 #[.pointer (some ⟨b, 0, none⟩)] w fun e w' => e = .returned (.int .i64 r) ∧ Below w.heap.size w w' := by
  subst hb hr
  exact depthF h hi
set_option maxRecDepth 100000 in
set_option maxHeartbeats 8000000 in
theorem awakeL (w : World) : Calls Try.prog 6 #[] w fun e w' => e = .returned (.bool true) ∧ Below w.heap.size w w' := by
  have v1 : errD (scp A0 0).ds sA 1 = 0 := by kernel_rfl
  have v2 : findS A2 (1 + 1) (some 1) sA = (1, true) := by kernel_rfl
  have v3 : errD (scp A2 1).ds sA 2 = 0 := by kernel_rfl
  have v4 : findS A3 (1 + 1) (some 1) sA = (2, true) := by kernel_rfl
  have v5 : findS A3 (0 + 1) (some 0) sA = (1, true) := by kernel_rfl
  have v6 : errD (scp A3 0).ds sA 2 = 10 := by kernel_rfl
  have v7 : errD (scp A4 0).ds sB 2 = 9 := by kernel_rfl
  have v8 : ((scp A5 1).dep : Int) = 1 := by kernel_rfl
  have l1 : (scp A0 0).ds.length ≤ 1000 := by decide +kernel
  have l2 : (scp A2 1).ds.length ≤ 1000 := by decide +kernel
  have l3 : (scp A3 0).ds.length ≤ 1000 := by decide +kernel
  have l4 : (scp A4 0).ds.length ≤ 1000 := by decide +kernel
  have sa : sA.size ≤ maxLen := by decide +kernel
  have sb : sB.size ≤ maxLen := by decide +kernel
  have z1 : A1.length = 1 := by kernel_rfl
  have z2 : A2.length = 2 := by kernel_rfl
  have z3 : A3.length = 2 := by kernel_rfl
  have z4 : A4.length = 2 := by kernel_rfl
  have z5 : A5.length = 2 := by kernel_rfl
  go_enter Try.func6, Try.ntmps6
  go_wp2_with (go_at_call 7; ((with_reducible refine (newP w).mono ?_); rintro e1 w1 ⟨rfl, hs1, h1, b1⟩; have F1 : PFam w1 A0 _ _ := fam_one h1))
  go_wp2_with (go_at_call 11; ((with_reducible refine (defineB F1 (i := 0) (m := w.heap.size) (by decide) rfl rfl sA sa 1 0 l1 v1).mono ?_); rintro e2 w2 ⟨rfl, F2a, b2⟩; have F2 : PFam w2 A1 _ _ := F2a))
  go_wp2_with (go_at_call 9; ((with_reducible refine (openB (L := A1) F2 wf1 (by rw [z1]; decide) (i := 0) (by rw [z1]; decide) rfl).mono ?_); rintro e3 w3 ⟨rfl, F3, b3⟩; rw [z1] at F3; have q1 : upd (fun _ : Nat => w.heap.size + 1) 1 (w2.heap.size + 1) 1 = w2.heap.size + 1 := rfl; have q0 : upd (fun _ : Nat => w.heap.size + 1) 1 (w2.heap.size + 1) 0 = w.heap.size + 1 := rfl; have r1 : upd (fun _ : Nat => w.heap.size) 1 w2.heap.size 1 = w2.heap.size := rfl; have r0 : upd (fun _ : Nat => w.heap.size) 1 w2.heap.size 0 = w.heap.size := rfl; have F3' : PFam w3 A2 _ _ := F3; have Q := And.intro q1 (And.intro q0 (And.intro r1 r0))))
  go_wp2_with (go_at_call 13; ((with_reducible refine (findB F3' wf2 (i := 1) (by rw [z2]; decide) q1 sA sa 1 true v2).mono ?_); rintro e4 w4 ⟨rfl, b4⟩; have F4 := F3'.below b4))
  go_wp2_with (go_at_call 11; ((with_reducible refine (defineB F4 (i := 1) (by rw [z2]; decide) q1 r1 sA sa 2 0 l2 v3).mono ?_); rintro e5 w5 ⟨rfl, F5, b5⟩; have F5' : PFam w5 A3 _ _ := F5))
  go_wp2_with (go_at_call 13; ((with_reducible refine (findB F5' wf3 (i := 1) (by rw [z3]; decide) q1 sA sa 2 true v4).mono ?_); rintro e6 w6 ⟨rfl, b6⟩; have F6 := F5'.below b6))
  go_wp2_with (go_at_call 13; ((with_reducible refine (findB F6 wf3 (i := 0) (by rw [z3]; decide) q0 sA sa 1 true v5).mono ?_); rintro e7 w7 ⟨rfl, b7⟩; have F7 := F6.below b7))
  go_wp2_with (go_at_call 11; ((with_reducible refine (defineB F7 (i := 0) (by rw [z3]; decide) q0 r0 sA sa 2 10 l3 v6).mono ?_); rintro e8 w8 ⟨rfl, F8, b8⟩; have F8' : PFam w8 A4 _ _ := F8))
  go_wp2_with (go_at_call 11; ((with_reducible refine (defineB F8' (i := 0) (by rw [z4]; decide) q0 r0 sB sb 2 9 l4 v7).mono ?_); rintro e9 w9 ⟨rfl, F9, b9⟩; have F9' : PFam w9 A5 _ _ := F9))
  go_wp2_with (go_at_call 15; ((with_reducible refine (depthB F9' (i := 1) (by rw [z5]; decide) q1 1 v8).mono ?_); rintro e10 w10 ⟨rfl, b10⟩))
  go_ret
  have B1 : Below w.heap.size w w1 := b1
  have B2 := But.below b2 (Nat.le_refl _) (Nat.le_refl _) B1
  have B3 := B2.trans (b3.mono B2.size)
  have B4 := B3.trans (b4.mono B3.size)
  have B5 := But.below b5 B2.size (Nat.le_refl _) B4
  have B6 := B5.trans (b6.mono B5.size)
  have B7 := B6.trans (b7.mono B6.size)
  have B8 := But.below b8 (Nat.le_refl _) (Nat.le_refl _) B7
  have B9 := But.below b9 (Nat.le_refl _) (Nat.le_refl _) B8
  exact ⟨rfl, B9.trans (b10.mono B9.size)⟩
end Go.Proofs.Ytmbljiapfbadeaa.Nam
