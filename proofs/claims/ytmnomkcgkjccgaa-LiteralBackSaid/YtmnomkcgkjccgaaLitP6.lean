/-
  Layer 9: the reader's method next. (Written by wip/gen/literal-next.py.)
-/
import Derived.Test.YtmnomkcgkjccgaaLitP5
namespace Go.Proofs.Ytmnomkcgkjccgaa.Lit
open Go.RowKit
set_option linter.unusedVariables false
set_option linter.unusedSimpArgs false

theorem Rout.form {w : World} {b B q : Nat} {r : Ot} {e : Ending} {w' : World} (h : Rout w b B q r e w') : ∃ n, e = .returned (.int .i64 n) ∧ Rout w b B q r (.returned (.int .i64 n)) w' := by
  cases r with
  | bad n => obtain ⟨h1, h2⟩ := h; exact ⟨n, h1, rfl, h2⟩
  | st y => obtain ⟨h1, h2⟩ := h; exact ⟨0, h1, rfl, h2⟩
set_option maxRecDepth 100000 in
set_option maxHeartbeats 4000000 in
theorem nextA (q c : Nat) (hq : q = 34 ∨ q = 39) (hc : c ≤ 1114111) (x : St) (b B : Nat) (v : Value) (w : World) (en : Bool) (h1 : c = 10) (hl : x.te.length ≤ 1000000) (hco : x.co < 16 ^ x.ct) (hct : x.ct ≤ 6) (h : RB w b B q v x) :
    Calls Try.prog 22 #[.pointer (some ⟨b, 0, none⟩), .int .i32 (c : Int), .bool en] w (Rout w b B q (.bad 5)) := by
  have k1 : ((c : Int) == 10) = true := by simp; omega
  obtain ⟨c0, c1, c2, c3, c4, f0, f1, f2, f3, f4⟩ := rd_cells h.2.2.1
  go_enter Try.func22, Try.ntmps22
  go_wp2
  go_ret
  exact ⟨rfl, Fr.refl b B w⟩
set_option maxRecDepth 100000 in
set_option maxHeartbeats 4000000 in
theorem nextB0 (q c : Nat) (hq : q = 34 ∨ q = 39) (hc : c ≤ 1114111) (x : St) (b B : Nat) (v : Value) (w : World) (en : Bool) (h1 : c ≠ 10) (h2 : c ≠ q) (hp : x.pl = 0) (hl : x.te.length ≤ 1000000) (hco : x.co < 16 ^ x.ct) (hct : x.ct ≤ 6) (h : RB w b B q v x) :
    Calls Try.prog 22 #[.pointer (some ⟨b, 0, none⟩), .int .i32 (c : Int), .bool en] w (Rout w b B q (.bad 5)) := by
  have k1 : ((c : Int) == 10) = false := by simp; omega
  have k2 : ((c : Int) == (q : Int)) = false := by simp; omega
  have p0 : ((x.pl : Int) == 0) = true := by simp; omega
  have p5 : ((x.pl : Int) == 5) = false := by simp; omega
  obtain ⟨c0, c1, c2, c3, c4, f0, f1, f2, f3, f4⟩ := rd_cells h.2.2.1
  go_enter Try.func22, Try.ntmps22
  go_wp2
  go_ret
  exact ⟨rfl, Fr.refl b B w⟩
set_option maxRecDepth 100000 in
set_option maxHeartbeats 4000000 in
theorem nextB5 (q c : Nat) (hq : q = 34 ∨ q = 39) (hc : c ≤ 1114111) (x : St) (b B : Nat) (v : Value) (w : World) (en : Bool) (h1 : c ≠ 10) (h2 : c ≠ q) (hp : x.pl = 5) (hl : x.te.length ≤ 1000000) (hco : x.co < 16 ^ x.ct) (hct : x.ct ≤ 6) (h : RB w b B q v x) :
    Calls Try.prog 22 #[.pointer (some ⟨b, 0, none⟩), .int .i32 (c : Int), .bool en] w (Rout w b B q (.bad 5)) := by
  have k1 : ((c : Int) == 10) = false := by simp; omega
  have k2 : ((c : Int) == (q : Int)) = false := by simp; omega
  have p0 : ((x.pl : Int) == 0) = false := by simp; omega
  have p5 : ((x.pl : Int) == 5) = true := by simp; omega
  obtain ⟨c0, c1, c2, c3, c4, f0, f1, f2, f3, f4⟩ := rd_cells h.2.2.1
  go_enter Try.func22, Try.ntmps22
  go_wp2
  go_ret
  exact ⟨rfl, Fr.refl b B w⟩
set_option maxRecDepth 100000 in
set_option maxHeartbeats 4000000 in
theorem nextC1 (q c : Nat) (hq : q = 34 ∨ q = 39) (hc : c ≤ 1114111) (x : St) (b B : Nat) (v : Value) (w : World) (en : Bool) (h1 : c ≠ 10) (h2 : c ≠ q) (n0 : x.pl ≠ 0) (n5 : x.pl ≠ 5) (h3 : c < 32) (hl : x.te.length ≤ 1000000) (hco : x.co < 16 ^ x.ct) (hct : x.ct ≤ 6) (h : RB w b B q v x) :
    Calls Try.prog 22 #[.pointer (some ⟨b, 0, none⟩), .int .i32 (c : Int), .bool en] w (Rout w b B q (.bad 3)) := by
  have k1 : ((c : Int) == 10) = false := by simp; omega
  have k2 : ((c : Int) == (q : Int)) = false := by simp; omega
  have p0 : ((x.pl : Int) == 0) = false := by simp; omega
  have p5 : ((x.pl : Int) == 5) = false := by simp; omega
  have k3 : (c : Int) < 32 := by omega
  obtain ⟨c0, c1, c2, c3, c4, f0, f1, f2, f3, f4⟩ := rd_cells h.2.2.1
  go_enter Try.func22, Try.ntmps22
  go_wp2
  go_ret
  exact ⟨rfl, Fr.refl b B w⟩
set_option maxRecDepth 100000 in
set_option maxHeartbeats 4000000 in
theorem nextC2 (q c : Nat) (hq : q = 34 ∨ q = 39) (hc : c ≤ 1114111) (x : St) (b B : Nat) (v : Value) (w : World) (h1 : c ≠ 10) (h2 : c ≠ q) (n0 : x.pl ≠ 0) (n5 : x.pl ≠ 5) (h3 : ¬ c < 32) (hl : x.te.length ≤ 1000000) (hco : x.co < 16 ^ x.ct) (hct : x.ct ≤ 6) (h : RB w b B q v x) :
    Calls Try.prog 22 #[.pointer (some ⟨b, 0, none⟩), .int .i32 (c : Int), .bool false] w (Rout w b B q (.bad 3)) := by
  have k1 : ((c : Int) == 10) = false := by simp; omega
  have k2 : ((c : Int) == (q : Int)) = false := by simp; omega
  have p0 : ((x.pl : Int) == 0) = false := by simp; omega
  have p5 : ((x.pl : Int) == 5) = false := by simp; omega
  have k3 : ¬ (c : Int) < 32 := by omega
  obtain ⟨c0, c1, c2, c3, c4, f0, f1, f2, f3, f4⟩ := rd_cells h.2.2.1
  go_enter Try.func22, Try.ntmps22
  go_wp2
  go_ret
  exact ⟨rfl, Fr.refl b B w⟩
set_option maxRecDepth 100000 in
set_option maxHeartbeats 4000000 in
theorem nextC3_1 (q c : Nat) (hq : q = 34 ∨ q = 39) (hc : c ≤ 1114111) (x : St) (b B : Nat) (v : Value) (w : World) (h1 : c ≠ 10) (h2 : c ≠ q) (h3 : ¬ c < 32) (hp : x.pl = 1) (hl : x.te.length ≤ 1000000) (hco : x.co < 16 ^ x.ct) (hct : x.ct ≤ 6) (h : RB w b B q v x) :
    Calls Try.prog 22 #[.pointer (some ⟨b, 0, none⟩), .int .i32 (c : Int), .bool true] w (Rout w b B q (inS q c x)) := by
  have k1 : ((c : Int) == 10) = false := by simp; omega
  have k2 : ((c : Int) == (q : Int)) = false := by simp; omega
  have p0 : ((x.pl : Int) == 0) = false := by simp; omega
  have p1 : ((x.pl : Int) == 1) = true := by simp; omega
  have p2 : ((x.pl : Int) == 2) = false := by simp; omega
  have p3 : ((x.pl : Int) == 3) = false := by simp; omega
  have p4 : ((x.pl : Int) == 4) = false := by simp; omega
  have p5 : ((x.pl : Int) == 5) = false := by simp; omega
  have k3 : ¬ (c : Int) < 32 := by omega
  obtain ⟨c0, c1, c2, c3, c4, f0, f1, f2, f3, f4⟩ := rd_cells h.2.2.1
  go_enter Try.func22, Try.ntmps22
  go_wp2_with (go_at_call 24; with_reducible refine (insideQ q c hq hc x b B v _ hl h).mono ?_; rintro e1 w1 R1; obtain ⟨n1, rfl, R2⟩ := R1.form)
  go_ret
  exact R2
set_option maxRecDepth 100000 in
set_option maxHeartbeats 4000000 in
theorem nextC3_2 (q c : Nat) (hq : q = 34 ∨ q = 39) (hc : c ≤ 1114111) (x : St) (b B : Nat) (v : Value) (w : World) (h1 : c ≠ 10) (h2 : c ≠ q) (h3 : ¬ c < 32) (hp : x.pl = 2) (hl : x.te.length ≤ 1000000) (hco : x.co < 16 ^ x.ct) (hct : x.ct ≤ 6) (h : RB w b B q v x) :
    Calls Try.prog 22 #[.pointer (some ⟨b, 0, none⟩), .int .i32 (c : Int), .bool true] w (Rout w b B q (escS q c x)) := by
  have k1 : ((c : Int) == 10) = false := by simp; omega
  have k2 : ((c : Int) == (q : Int)) = false := by simp; omega
  have p0 : ((x.pl : Int) == 0) = false := by simp; omega
  have p1 : ((x.pl : Int) == 1) = false := by simp; omega
  have p2 : ((x.pl : Int) == 2) = true := by simp; omega
  have p3 : ((x.pl : Int) == 3) = false := by simp; omega
  have p4 : ((x.pl : Int) == 4) = false := by simp; omega
  have p5 : ((x.pl : Int) == 5) = false := by simp; omega
  have k3 : ¬ (c : Int) < 32 := by omega
  obtain ⟨c0, c1, c2, c3, c4, f0, f1, f2, f3, f4⟩ := rd_cells h.2.2.1
  go_enter Try.func22, Try.ntmps22
  go_wp2_with (go_at_call 25; with_reducible refine (escapedQ q c hc x b B v _ hl h).mono ?_; rintro e1 w1 R1; obtain ⟨n1, rfl, R2⟩ := R1.form)
  go_ret
  exact R2
set_option maxRecDepth 100000 in
set_option maxHeartbeats 4000000 in
theorem nextC3_3 (q c : Nat) (hq : q = 34 ∨ q = 39) (hc : c ≤ 1114111) (x : St) (b B : Nat) (v : Value) (w : World) (h1 : c ≠ 10) (h2 : c ≠ q) (h3 : ¬ c < 32) (hp : x.pl = 3) (hl : x.te.length ≤ 1000000) (hco : x.co < 16 ^ x.ct) (hct : x.ct ≤ 6) (h : RB w b B q v x) :
    Calls Try.prog 22 #[.pointer (some ⟨b, 0, none⟩), .int .i32 (c : Int), .bool true] w (Rout w b B q (braS c x)) := by
  have k1 : ((c : Int) == 10) = false := by simp; omega
  have k2 : ((c : Int) == (q : Int)) = false := by simp; omega
  have p0 : ((x.pl : Int) == 0) = false := by simp; omega
  have p1 : ((x.pl : Int) == 1) = false := by simp; omega
  have p2 : ((x.pl : Int) == 2) = false := by simp; omega
  have p3 : ((x.pl : Int) == 3) = true := by simp; omega
  have p4 : ((x.pl : Int) == 4) = false := by simp; omega
  have p5 : ((x.pl : Int) == 5) = false := by simp; omega
  have k3 : ¬ (c : Int) < 32 := by omega
  obtain ⟨c0, c1, c2, c3, c4, f0, f1, f2, f3, f4⟩ := rd_cells h.2.2.1
  go_enter Try.func22, Try.ntmps22
  go_wp2_with (go_at_call 26; with_reducible refine (braceQ q c hc x b B v _ hl h).mono ?_; rintro e1 w1 R1; obtain ⟨n1, rfl, R2⟩ := R1.form)
  go_ret
  exact R2
set_option maxRecDepth 100000 in
set_option maxHeartbeats 4000000 in
theorem nextC3_4 (q c : Nat) (hq : q = 34 ∨ q = 39) (hc : c ≤ 1114111) (x : St) (b B : Nat) (v : Value) (w : World) (h1 : c ≠ 10) (h2 : c ≠ q) (h3 : ¬ c < 32) (hp : x.pl = 4) (hl : x.te.length ≤ 1000000) (hco : x.co < 16 ^ x.ct) (hct : x.ct ≤ 6) (h : RB w b B q v x) :
    Calls Try.prog 22 #[.pointer (some ⟨b, 0, none⟩), .int .i32 (c : Int), .bool true] w (Rout w b B q (digS q c x)) := by
  have k1 : ((c : Int) == 10) = false := by simp; omega
  have k2 : ((c : Int) == (q : Int)) = false := by simp; omega
  have p0 : ((x.pl : Int) == 0) = false := by simp; omega
  have p1 : ((x.pl : Int) == 1) = false := by simp; omega
  have p2 : ((x.pl : Int) == 2) = false := by simp; omega
  have p3 : ((x.pl : Int) == 3) = false := by simp; omega
  have p4 : ((x.pl : Int) == 4) = true := by simp; omega
  have p5 : ((x.pl : Int) == 5) = false := by simp; omega
  have k3 : ¬ (c : Int) < 32 := by omega
  obtain ⟨c0, c1, c2, c3, c4, f0, f1, f2, f3, f4⟩ := rd_cells h.2.2.1
  go_enter Try.func22, Try.ntmps22
  go_wp2_with (go_at_call 27; with_reducible refine (digitQ q c hc x b B v _ hl hco hct h).mono ?_; rintro e1 w1 R1; obtain ⟨n1, rfl, R2⟩ := R1.form)
  go_ret
  exact R2
set_option maxRecDepth 100000 in
set_option maxHeartbeats 4000000 in
theorem nextC3_6 (q c : Nat) (hq : q = 34 ∨ q = 39) (hc : c ≤ 1114111) (x : St) (b B : Nat) (v : Value) (w : World) (h1 : c ≠ 10) (h2 : c ≠ q) (h3 : ¬ c < 32) (g0 : x.pl ≠ 0) (g1 : x.pl ≠ 1) (g2 : x.pl ≠ 2) (g3 : x.pl ≠ 3) (g4 : x.pl ≠ 4) (g5 : x.pl ≠ 5) (hl : x.te.length ≤ 1000000) (hco : x.co < 16 ^ x.ct) (hct : x.ct ≤ 6) (h : RB w b B q v x) :
    Calls Try.prog 22 #[.pointer (some ⟨b, 0, none⟩), .int .i32 (c : Int), .bool true] w (Rout w b B q (.st x)) := by
  have k1 : ((c : Int) == 10) = false := by simp; omega
  have k2 : ((c : Int) == (q : Int)) = false := by simp; omega
  have p0 : ((x.pl : Int) == 0) = false := by simp; omega
  have p1 : ((x.pl : Int) == 1) = false := by simp; omega
  have p2 : ((x.pl : Int) == 2) = false := by simp; omega
  have p3 : ((x.pl : Int) == 3) = false := by simp; omega
  have p4 : ((x.pl : Int) == 4) = false := by simp; omega
  have p5 : ((x.pl : Int) == 5) = false := by simp; omega
  have k3 : ¬ (c : Int) < 32 := by omega
  obtain ⟨c0, c1, c2, c3, c4, f0, f1, f2, f3, f4⟩ := rd_cells h.2.2.1
  go_enter Try.func22, Try.ntmps22
  go_wp2
  go_ret
  exact ⟨rfl, ⟨v, h⟩, Fr.refl b B w⟩
set_option maxRecDepth 100000 in
set_option maxHeartbeats 4000000 in
theorem nextD2 (q : Nat) (hq : q = 34 ∨ q = 39) (x : St) (b B : Nat) (v : Value) (w : World) (hl : x.te.length ≤ 1000000) (hco : x.co < 16 ^ x.ct) (hct : x.ct ≤ 6) (h : RB w b B q v x) :
    Calls Try.prog 22 #[.pointer (some ⟨b, 0, none⟩), .int .i32 (q : Int), .bool false] w (Rout w b B q (.bad 3)) := by
  have k1 : ((q : Int) == 10) = false := by simp; omega
  have k3 : ¬ (q : Int) < 32 := by omega
  have hc : q ≤ 1114111 := by omega
  obtain ⟨c0, c1, c2, c3, c4, f0, f1, f2, f3, f4⟩ := rd_cells h.2.2.1
  go_enter Try.func22, Try.ntmps22
  go_wp2
  go_ret
  exact ⟨rfl, Fr.refl b B w⟩
set_option maxRecDepth 100000 in
set_option maxHeartbeats 4000000 in
theorem nextD3_0 (q : Nat) (hq : q = 34 ∨ q = 39) (x : St) (b B : Nat) (v : Value) (w : World) (hp : x.pl = 0) (hl : x.te.length ≤ 1000000) (hco : x.co < 16 ^ x.ct) (hct : x.ct ≤ 6) (h : RB w b B q v x) :
    Calls Try.prog 22 #[.pointer (some ⟨b, 0, none⟩), .int .i32 (q : Int), .bool true] w (Rout w b B q (.st { x with pl := 1 })) := by
  have k1 : ((q : Int) == 10) = false := by simp; omega
  have k3 : ¬ (q : Int) < 32 := by omega
  have hc : q ≤ 1114111 := by omega
  have p0 : ((x.pl : Int) == 0) = true := by simp; omega
  have p1 : ((x.pl : Int) == 1) = false := by simp; omega
  have p2 : ((x.pl : Int) == 2) = false := by simp; omega
  have p3 : ((x.pl : Int) == 3) = false := by simp; omega
  have p4 : ((x.pl : Int) == 4) = false := by simp; omega
  have p5 : ((x.pl : Int) == 5) = false := by simp; omega
  obtain ⟨c0, c1, c2, c3, c4, f0, f1, f2, f3, f4⟩ := rd_cells h.2.2.1
  have R1 := h.setPl 1
  have F1 := Fr.set b B 1 w (.int .i64 1)
  go_enter Try.func22, Try.ntmps22
  go_wp2
  go_ret
  exact ⟨rfl, ⟨v, R1⟩, F1⟩
set_option maxRecDepth 100000 in
set_option maxHeartbeats 4000000 in
theorem nextD3_1 (q : Nat) (hq : q = 34 ∨ q = 39) (x : St) (b B : Nat) (v : Value) (w : World) (hp : x.pl = 1) (hl : x.te.length ≤ 1000000) (hco : x.co < 16 ^ x.ct) (hct : x.ct ≤ 6) (h : RB w b B q v x) :
    Calls Try.prog 22 #[.pointer (some ⟨b, 0, none⟩), .int .i32 (q : Int), .bool true] w (Rout w b B q (inS q q x)) := by
  have k1 : ((q : Int) == 10) = false := by simp; omega
  have k3 : ¬ (q : Int) < 32 := by omega
  have hc : q ≤ 1114111 := by omega
  have p0 : ((x.pl : Int) == 0) = false := by simp; omega
  have p1 : ((x.pl : Int) == 1) = true := by simp; omega
  have p2 : ((x.pl : Int) == 2) = false := by simp; omega
  have p3 : ((x.pl : Int) == 3) = false := by simp; omega
  have p4 : ((x.pl : Int) == 4) = false := by simp; omega
  have p5 : ((x.pl : Int) == 5) = false := by simp; omega
  obtain ⟨c0, c1, c2, c3, c4, f0, f1, f2, f3, f4⟩ := rd_cells h.2.2.1
  go_enter Try.func22, Try.ntmps22
  go_wp2_with (go_at_call 24; with_reducible refine (insideQ q q hq hc x b B v _ hl h).mono ?_; rintro e1 w1 R1; obtain ⟨n1, rfl, R2⟩ := R1.form)
  go_ret
  exact R2
set_option maxRecDepth 100000 in
set_option maxHeartbeats 4000000 in
theorem nextD3_2 (q : Nat) (hq : q = 34 ∨ q = 39) (x : St) (b B : Nat) (v : Value) (w : World) (hp : x.pl = 2) (hl : x.te.length ≤ 1000000) (hco : x.co < 16 ^ x.ct) (hct : x.ct ≤ 6) (h : RB w b B q v x) :
    Calls Try.prog 22 #[.pointer (some ⟨b, 0, none⟩), .int .i32 (q : Int), .bool true] w (Rout w b B q (escS q q x)) := by
  have k1 : ((q : Int) == 10) = false := by simp; omega
  have k3 : ¬ (q : Int) < 32 := by omega
  have hc : q ≤ 1114111 := by omega
  have p0 : ((x.pl : Int) == 0) = false := by simp; omega
  have p1 : ((x.pl : Int) == 1) = false := by simp; omega
  have p2 : ((x.pl : Int) == 2) = true := by simp; omega
  have p3 : ((x.pl : Int) == 3) = false := by simp; omega
  have p4 : ((x.pl : Int) == 4) = false := by simp; omega
  have p5 : ((x.pl : Int) == 5) = false := by simp; omega
  obtain ⟨c0, c1, c2, c3, c4, f0, f1, f2, f3, f4⟩ := rd_cells h.2.2.1
  go_enter Try.func22, Try.ntmps22
  go_wp2_with (go_at_call 25; with_reducible refine (escapedQ q q hc x b B v _ hl h).mono ?_; rintro e1 w1 R1; obtain ⟨n1, rfl, R2⟩ := R1.form)
  go_ret
  exact R2
set_option maxRecDepth 100000 in
set_option maxHeartbeats 4000000 in
theorem nextD3_3 (q : Nat) (hq : q = 34 ∨ q = 39) (x : St) (b B : Nat) (v : Value) (w : World) (hp : x.pl = 3) (hl : x.te.length ≤ 1000000) (hco : x.co < 16 ^ x.ct) (hct : x.ct ≤ 6) (h : RB w b B q v x) :
    Calls Try.prog 22 #[.pointer (some ⟨b, 0, none⟩), .int .i32 (q : Int), .bool true] w (Rout w b B q (braS q x)) := by
  have k1 : ((q : Int) == 10) = false := by simp; omega
  have k3 : ¬ (q : Int) < 32 := by omega
  have hc : q ≤ 1114111 := by omega
  have p0 : ((x.pl : Int) == 0) = false := by simp; omega
  have p1 : ((x.pl : Int) == 1) = false := by simp; omega
  have p2 : ((x.pl : Int) == 2) = false := by simp; omega
  have p3 : ((x.pl : Int) == 3) = true := by simp; omega
  have p4 : ((x.pl : Int) == 4) = false := by simp; omega
  have p5 : ((x.pl : Int) == 5) = false := by simp; omega
  obtain ⟨c0, c1, c2, c3, c4, f0, f1, f2, f3, f4⟩ := rd_cells h.2.2.1
  go_enter Try.func22, Try.ntmps22
  go_wp2_with (go_at_call 26; with_reducible refine (braceQ q q hc x b B v _ hl h).mono ?_; rintro e1 w1 R1; obtain ⟨n1, rfl, R2⟩ := R1.form)
  go_ret
  exact R2
set_option maxRecDepth 100000 in
set_option maxHeartbeats 4000000 in
theorem nextD3_4 (q : Nat) (hq : q = 34 ∨ q = 39) (x : St) (b B : Nat) (v : Value) (w : World) (hp : x.pl = 4) (hl : x.te.length ≤ 1000000) (hco : x.co < 16 ^ x.ct) (hct : x.ct ≤ 6) (h : RB w b B q v x) :
    Calls Try.prog 22 #[.pointer (some ⟨b, 0, none⟩), .int .i32 (q : Int), .bool true] w (Rout w b B q (digS q q x)) := by
  have k1 : ((q : Int) == 10) = false := by simp; omega
  have k3 : ¬ (q : Int) < 32 := by omega
  have hc : q ≤ 1114111 := by omega
  have p0 : ((x.pl : Int) == 0) = false := by simp; omega
  have p1 : ((x.pl : Int) == 1) = false := by simp; omega
  have p2 : ((x.pl : Int) == 2) = false := by simp; omega
  have p3 : ((x.pl : Int) == 3) = false := by simp; omega
  have p4 : ((x.pl : Int) == 4) = true := by simp; omega
  have p5 : ((x.pl : Int) == 5) = false := by simp; omega
  obtain ⟨c0, c1, c2, c3, c4, f0, f1, f2, f3, f4⟩ := rd_cells h.2.2.1
  go_enter Try.func22, Try.ntmps22
  go_wp2_with (go_at_call 27; with_reducible refine (digitQ q q hc x b B v _ hl hco hct h).mono ?_; rintro e1 w1 R1; obtain ⟨n1, rfl, R2⟩ := R1.form)
  go_ret
  exact R2
set_option maxRecDepth 100000 in
set_option maxHeartbeats 4000000 in
theorem nextD3_5 (q : Nat) (hq : q = 34 ∨ q = 39) (x : St) (b B : Nat) (v : Value) (w : World) (hp : x.pl = 5) (hl : x.te.length ≤ 1000000) (hco : x.co < 16 ^ x.ct) (hct : x.ct ≤ 6) (h : RB w b B q v x) :
    Calls Try.prog 22 #[.pointer (some ⟨b, 0, none⟩), .int .i32 (q : Int), .bool true] w (Rout w b B q (.st { x with pl := 6 })) := by
  have k1 : ((q : Int) == 10) = false := by simp; omega
  have k3 : ¬ (q : Int) < 32 := by omega
  have hc : q ≤ 1114111 := by omega
  have p0 : ((x.pl : Int) == 0) = false := by simp; omega
  have p1 : ((x.pl : Int) == 1) = false := by simp; omega
  have p2 : ((x.pl : Int) == 2) = false := by simp; omega
  have p3 : ((x.pl : Int) == 3) = false := by simp; omega
  have p4 : ((x.pl : Int) == 4) = false := by simp; omega
  have p5 : ((x.pl : Int) == 5) = true := by simp; omega
  obtain ⟨c0, c1, c2, c3, c4, f0, f1, f2, f3, f4⟩ := rd_cells h.2.2.1
  have R1 := h.setPl 6
  have F1 := Fr.set b B 1 w (.int .i64 6)
  go_enter Try.func22, Try.ntmps22
  go_wp2
  go_ret
  exact ⟨rfl, ⟨v, R1⟩, F1⟩
set_option maxRecDepth 100000 in
set_option maxHeartbeats 4000000 in
theorem nextD3_6 (q : Nat) (hq : q = 34 ∨ q = 39) (x : St) (b B : Nat) (v : Value) (w : World) (g0 : x.pl ≠ 0) (g1 : x.pl ≠ 1) (g2 : x.pl ≠ 2) (g3 : x.pl ≠ 3) (g4 : x.pl ≠ 4) (g5 : x.pl ≠ 5) (hl : x.te.length ≤ 1000000) (hco : x.co < 16 ^ x.ct) (hct : x.ct ≤ 6) (h : RB w b B q v x) :
    Calls Try.prog 22 #[.pointer (some ⟨b, 0, none⟩), .int .i32 (q : Int), .bool true] w (Rout w b B q (.st x)) := by
  have k1 : ((q : Int) == 10) = false := by simp; omega
  have k3 : ¬ (q : Int) < 32 := by omega
  have hc : q ≤ 1114111 := by omega
  have p0 : ((x.pl : Int) == 0) = false := by simp; omega
  have p1 : ((x.pl : Int) == 1) = false := by simp; omega
  have p2 : ((x.pl : Int) == 2) = false := by simp; omega
  have p3 : ((x.pl : Int) == 3) = false := by simp; omega
  have p4 : ((x.pl : Int) == 4) = false := by simp; omega
  have p5 : ((x.pl : Int) == 5) = false := by simp; omega
  obtain ⟨c0, c1, c2, c3, c4, f0, f1, f2, f3, f4⟩ := rd_cells h.2.2.1
  go_enter Try.func22, Try.ntmps22
  go_wp2
  go_ret
  exact ⟨rfl, ⟨v, h⟩, Fr.refl b B w⟩
theorem nextQ (q c : Nat) (hq : q = 34 ∨ q = 39) (hc : c ≤ 1114111) (en : Bool) (x : St) (b B : Nat) (v : Value) (w : World) (hl : x.te.length ≤ 1000000) (hco : x.co < 16 ^ x.ct) (hct : x.ct ≤ 6) (h : RB w b B q v x) :
    Calls Try.prog 22 #[.pointer (some ⟨b, 0, none⟩), .int .i32 (c : Int), .bool en] w (Rout w b B q (nextS q c en x)) := by
  unfold nextS
  by_cases h1 : c = 10
  · rw [if_pos (.inl h1)]; exact nextA q c hq hc x b B v w en h1 hl hco hct h
  by_cases h2 : c = q
  · rw [if_neg (fun e => e.elim h1 fun e => e.1 h2)]
    subst h2
    cases en with
    | false => rw [if_pos (.inr rfl)]; exact nextD2 c hq x b B v w hl hco hct h
    | true =>
      rw [if_neg (fun e => e.elim (by omega) fun e => by cases e)]
      by_cases p0 : x.pl = 0
      · rw [if_pos p0]; exact nextD3_0 c hq x b B v w p0 hl hco hct h
      rw [if_neg p0]
      by_cases p1 : x.pl = 1
      · rw [if_pos p1]; exact nextD3_1 c hq x b B v w p1 hl hco hct h
      rw [if_neg p1]
      by_cases p2 : x.pl = 2
      · rw [if_pos p2]; exact nextD3_2 c hq x b B v w p2 hl hco hct h
      rw [if_neg p2]
      by_cases p3 : x.pl = 3
      · rw [if_pos p3]; exact nextD3_3 c hq x b B v w p3 hl hco hct h
      rw [if_neg p3]
      by_cases p4 : x.pl = 4
      · rw [if_pos p4]; exact nextD3_4 c hq x b B v w p4 hl hco hct h
      rw [if_neg p4]
      by_cases p5 : x.pl = 5
      · rw [if_pos p5]; exact nextD3_5 c hq x b B v w p5 hl hco hct h
      rw [if_neg p5]
      exact nextD3_6 c hq x b B v w p0 p1 p2 p3 p4 p5 hl hco hct h
  by_cases p0 : x.pl = 0
  · rw [if_pos (.inr ⟨h2, .inl p0⟩)]; exact nextB0 q c hq hc x b B v w en h1 h2 p0 hl hco hct h
  by_cases p5 : x.pl = 5
  · rw [if_pos (.inr ⟨h2, .inr p5⟩)]; exact nextB5 q c hq hc x b B v w en h1 h2 p5 hl hco hct h
  rw [if_neg (fun e => e.elim h1 fun e => e.2.elim p0 p5)]
  by_cases h3 : c < 32
  · rw [if_pos (.inl h3)]; exact nextC1 q c hq hc x b B v w en h1 h2 p0 p5 h3 hl hco hct h
  cases en with
  | false => rw [if_pos (.inr rfl)]; exact nextC2 q c hq hc x b B v w h1 h2 p0 p5 h3 hl hco hct h
  | true =>
    rw [if_neg (fun e => e.elim h3 fun e => by cases e), if_neg p0]
    by_cases p1 : x.pl = 1
    · rw [if_pos p1]; exact nextC3_1 q c hq hc x b B v w h1 h2 h3 p1 hl hco hct h
    rw [if_neg p1]
    by_cases p2 : x.pl = 2
    · rw [if_pos p2]; exact nextC3_2 q c hq hc x b B v w h1 h2 h3 p2 hl hco hct h
    rw [if_neg p2]
    by_cases p3 : x.pl = 3
    · rw [if_pos p3]; exact nextC3_3 q c hq hc x b B v w h1 h2 h3 p3 hl hco hct h
    rw [if_neg p3]
    by_cases p4 : x.pl = 4
    · rw [if_pos p4]; exact nextC3_4 q c hq hc x b B v w h1 h2 h3 p4 hl hco hct h
    rw [if_neg p4, if_neg p5]
    exact nextC3_6 q c hq hc x b B v w h1 h2 h3 p0 p1 p2 p3 p4 p5 hl hco hct h
end Go.Proofs.Ytmnomkcgkjccgaa.Lit
