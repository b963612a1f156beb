/-
  Layer 11: the program's Names.
-/
import Derived.Test.YtmbljiapfbadeaaNamStr
import Derived.Lib.Hide
namespace Go.Proofs.Ytmbljiapfbadeaa.Nam
open Go.RowKit Go.Maps
set_option linter.unusedVariables false

set_option maxRecDepth 100000 in
set_option maxHeartbeats 8000000 in
theorem namesP (w : World) (b m : Nat) (out : Option Nat) (d : Nat) (ds : List Def) (h : PSc w b m out d ds) (hl : ds.length ≤ 1000) :
    Calls Try.prog 18 #[.pointer (some ⟨b, 0, none⟩)] w fun e w' => e = .returned (.slice (some ⟨w.heap.size, 0, none⟩) ds.length ds.length) ∧ Strs w' w.heap.size (namesOf ds) ∧ Below w.heap.size w w' := by
  obtain ⟨c0, c1, c2, f⟩ := h.cells
  have hln := h.map.len Try.underlying44 3
  rw [dat_size ds h.uniq] at hln
  obtain ⟨cs, hcs⟩ : ∃ cs, Hid (((List.replicate ds.length (⟨#[]⟩ : ByteArray)).map Value.string).toArray = cs) := ⟨_, rfl⟩
  have hmk := run_makeStrs w ds.length (by omega)
  have S0 := Strs.new w (List.replicate ds.length (⟨#[]⟩ : ByteArray))
  rw [hcs.out] at hmk S0
  have B0 := below_new w (.cells cs 9)
  have P0 := h.below B0
  have d2 := P0.cells.2.2.1
  have hL := Laid.start ds
  have hsz : (w.alloc (.cells cs 9)).heap.size = w.heap.size + 1 := by simp
  go_enter Try.func18, Try.ntmps18
  go_wp2_with (at_range; refine wpList_range_own _ rfl _ _ rfl 9 53 keyLaw Try.underlying44 defR m _ _ rfl P0.map ?_; intro w0 hrg0 hg0 hs0)
  rw [hsz] at hrg0
  simp only [hsz]
  go_frame
  go_loopw [19] (fun _ wr => ∃ (left : Lit → Bool) (cnt : Nat) (L : List ByteArray), wr.ranges Try.prog 9 defR m (w.heap.size + 1) ds.length (dat ds) left cnt ∧ Strs wr w.heap.size L ∧ Hid (Laid ds left L) ∧ Below w.heap.size w wr) (fun _ wr => wr.rangeLeft m (w.heap.size + 1))
  case atStart =>
    have bA : Below w.heap.size w w0 := Below.then B0 ⟨hg0.os, hg0.tape, hg0.output, hg0.size, fun k hk => hg0.block k hk (by simp)⟩
    exact ⟨_, _, _, hrg0, (hg0.block w.heap.size (by rw [hsz]; omega) (by simp)).trans S0, Lib.hid hL, bA⟩
  case round =>
    clear hrg0 hg0 hs0 hL S0 B0 P0 d2 hmk hln
    obtain ⟨left, cnt, L, hrg, SL, hLd, Bw⟩ := hrel
    go_wp2_with (at_next; refine wpList_next_ranges _ rfl _ rfl 9 keyLaw defR Value.string (fun x : Int × Int => .agg #[.int .i64 x.1, .int .i64 x.2]) (fun key k hk => by obtain ⟨s, hs, _⟩ := key_str hk; exact ⟨s, hs⟩) (fun v y hv => by obtain ⟨x, hx, _⟩ := defR_inv hv; exact ⟨x, hx⟩) m (w.heap.size + 1) ds.length _ _ _ rfl hrg ?_ ?_)
    · intro hc0 hl0
      have e := Laid.done hLd.out hl0
      clear hLd
      subst e
      go_wp2
      go_ret
      exact ⟨rfl, SL, Bw⟩
    · intro x c p k yd yp w1 cnt1 hk hlk hv hat hrg1 hlt hg1 hs1 hen
      obtain ⟨s, es, rfl, hsl⟩ := key_str hk
      obtain rfl : x = s := by simpa using es
      have e0 := (Option.some.inj (hv.symm.trans (defR_mk c p)))
      have e1 : yd = dE c p := congrArg Prod.fst e0
      subst e1
      obtain ⟨i, hi, hx, hpi⟩ := dat_entry (x := (c, p)) h.uniq hat
      simp only at hpi
      have hLi := Laid.next h.uniq hLd.out hi
      rw [hx] at hLi
      have hll : L.length = ds.length := hLd.out.1
      have hH := Lib.hid hLi
      have Bw1 : Below w.heap.size w w1 := Bw.grown hg1 (by have := Bw.size; exact this) (fun k hk => by cases hk; omega)
      have S1 : Strs w1 w.heap.size L := (hg1.block _ SL.lt (by simp)).trans SL
      have S2 : Strs (w1.alloc (.cells #[.int .i64 c, .int .i64 p] 53)) w.heap.size L := S1.below (below_new _ _)
      have B2 : Below w.heap.size w (w1.alloc (.cells #[.int .i64 c, .int .i64 p] 53)) := Bw1.alloc Bw1.size _
      have R2 := hrg1.alloc (.cells #[.int .i64 c, .int .i64 p] 53)
      subst hpi
      have f2 := S2.free i
      have hLil : i < L.length := by rw [hll]; exact hi
      have g2 := S2.cell hLil
      have hsa := fun w' => strs_at w' w.heap.size ds.length ds.length i hi
      have hlG : w.heap.size ≠ m := fun e => by
        have h1 := h.map.lt
        omega
      clear hLi hLd hs1 hll es hv hk e0 hsl hat hx
      have g3 : (w1.alloc (.cells #[.int .i64 c, .int .i64 (i : Int)] 53)).grownBy ((w1.alloc (.cells #[.int .i64 c, .int .i64 (i : Int)] 53)).setCell ⟨w.heap.size, i, none⟩ (.string x)) (some w.heap.size) :=
        ⟨rfl, rfl, rfl, by simp [World.setCell], fun k _ hk => Below.heap_setCell _ _ _ _ (fun e => hk (by rw [e]))⟩
      have R3 := R2.kept g3 (fun e => hlG (Option.some.inj e).symm) (fun e => by have := Option.some.inj e; omega)
      have S3 := S2.set i x
      have B3 := B2.setCell (p := ⟨w.heap.size, i, none⟩) (Nat.le_refl _) (.string x)
      clear S2 B2 R2 S1 Bw1
      go_wp2
      go_roundw
      case rel => exact ⟨_, _, _, R3, S3, hH, B3⟩
      case measure => rw [R3.left_eq, hrg.left_eq]; exact hlt
set_option maxRecDepth 100000 in
set_option maxHeartbeats 2000000 in
theorem namesN (w : World) : Calls Try.prog 18 #[.pointer none] w fun e w' => e = .returned (.slice none 0 0) ∧ Below w.heap.size w w' := by
  go_enter Try.func18, Try.ntmps18
  go_wp2
  go_ret
  exact ⟨rfl, Below.refl _ _⟩
end Go.Proofs.Ytmbljiapfbadeaa.Nam
