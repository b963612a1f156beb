/-
  Layer 16: choose, Is and Scalar of the program.
-/
import Derived.Test.YtekbdiniibmhgaaBinP2g
import Derived.Shelf.Abstract
namespace Go.Proofs.Ytekbdiniibmhgaa.Shape
open Go.RowKit
set_option linter.unusedVariables false
set_option linter.unusedSimpArgs false

/-- A function value that reckons g for any two numbers, in this world and in later ones. -/
def Fun16 (w : World) (v : Value) (g : Int → Int → Int × Int) : Prop := ∃ (t : Nat) (cap : Array Value), v = .func (.func t) #[] cap ∧ Ent t ∧
  ∀ (x y : Int) (w1 : World), Below w.heap.size w w1 → Num.fitsB x = true → Num.fitsB y = true → Calls Try.prog t (#[.int .i64 x, .int .i64 y] ++ cap) w1 fun e w' => e = .returned (.tuple #[.int .i64 (g x y).1, .int .i64 (g x y).2]) ∧ Below w1.heap.size w1 w'
theorem Fun16.below {w w' : World} {v : Value} {g : Int → Int → Int × Int} (h : Fun16 w v g) (hb : Below w.heap.size w w') : Fun16 w' v g := by
  obtain ⟨t, cap, hv, he, hc⟩ := h
  exact ⟨t, cap, hv, he, fun x y w1 h1 => hc x y w1 (Below.then hb h1)⟩
theorem Fun16.plain {t : Nat} {g : Int → Int → Int × Int} (w : World) (he : Ent t) (hc : ∀ (x y : Int) (w : World), Calls Try.prog t #[.int .i64 x, .int .i64 y] w fun e w' => e = .returned (.tuple #[.int .i64 (g x y).1, .int .i64 (g x y).2]) ∧ w = w') : Fun16 w (.func (.func t) #[] #[]) g :=
  ⟨t, #[], rfl, he, fun x y w1 _ _ _ => (hc x y w1).mono fun e w' h => ⟨h.1, by rw [h.2]; exact Below.refl _ _⟩⟩
theorem Fun16.capt {t t' : Nat} {T : TypeId} {g : Int → Int → Int × Int} (w : World) (he : Ent t) (hc : ∀ (x y : Int) (b : Nat) (w : World), w.cell? ⟨b, 0, none⟩ = some (.func (.func t') #[] #[]) → Calls Try.prog t #[.int .i64 x, .int .i64 y, .pointer (some ⟨b, 0, none⟩)] w fun e w' => e = .returned (.tuple #[.int .i64 (g x y).1, .int .i64 (g x y).2]) ∧ w = w') :
    Fun16 (w.alloc (.cells #[.func (.func t') #[] #[]] T)) (.func (.func t) #[] #[.pointer (some ⟨w.heap.size, 0, none⟩)]) g :=
  ⟨t, _, rfl, he, fun x y w1 hb _ _ => (hc x y w.heap.size w1 ((hb.cell (by simp)).trans (by rw [World.cell?_alloc_new]; rfl))).mono fun e w' h => ⟨h.1, by rw [h.2]; exact Below.refl _ _⟩⟩
theorem ent_num_Add : Ent 41 := Go.Proofs.enters_of Try.func41 (by kernel_rfl) rfl
theorem ent_num_Sub : Ent 42 := Go.Proofs.enters_of Try.func42 (by kernel_rfl) rfl
theorem ent_num_Mul : Ent 43 := Go.Proofs.enters_of Try.func43 (by kernel_rfl) rfl
theorem ent_num_Div : Ent 44 := Go.Proofs.enters_of Try.func44 (by kernel_rfl) rfl
theorem ent_num_Mod : Ent 45 := Go.Proofs.enters_of Try.func45 (by kernel_rfl) rfl
theorem ent_num_Pow : Ent 46 := Go.Proofs.enters_of Try.func46 (by kernel_rfl) rfl
theorem ent_binary_choose1 : Ent 47 := Go.Proofs.enters_of Try.func47 (by kernel_rfl) rfl
theorem ent_binary_choose2 : Ent 48 := Go.Proofs.enters_of Try.func48 (by kernel_rfl) rfl
theorem ent_binary_choose3 : Ent 50 := Go.Proofs.enters_of Try.func50 (by kernel_rfl) rfl
theorem ent_binary_choose4 : Ent 51 := Go.Proofs.enters_of Try.func51 (by kernel_rfl) rfl
theorem ent_binary_choose5 : Ent 52 := Go.Proofs.enters_of Try.func52 (by kernel_rfl) rfl
theorem ent_binary_choose6 : Ent 53 := Go.Proofs.enters_of Try.func53 (by kernel_rfl) rfl
theorem ent_binary_choose7 : Ent 54 := Go.Proofs.enters_of Try.func54 (by kernel_rfl) rfl
theorem ent_binary_choose8 : Ent 55 := Go.Proofs.enters_of Try.func55 (by kernel_rfl) rfl
theorem ent_binary_choose9 : Ent 57 := Go.Proofs.enters_of Try.func57 (by kernel_rfl) rfl
theorem ent_binary_choose10 : Ent 58 := Go.Proofs.enters_of Try.func58 (by kernel_rfl) rfl
theorem ent_binary_truth1 : Ent 82 := Go.Proofs.enters_of Try.func82 (by kernel_rfl) rfl
theorem ent_binary_logical1 : Ent 83 := Go.Proofs.enters_of Try.func83 (by kernel_rfl) rfl
theorem ent_binary_unequal1 : Ent 67 := Go.Proofs.enters_of Try.func67 (by kernel_rfl) rfl
/-- What choose gives. -/
def Chose (p : Int) (w : World) (e : Ending) (w' : World) : Prop := ∃ v, e = .returned v ∧ Below w.heap.size w w' ∧ ((binB p = false ∧ v = .nilFunc) ∨ (binB p = true ∧ Fun16 w' v (binV p)))
set_option maxHeartbeats 1000000 in
theorem choose1P (w : World) : Calls Try.prog 18 #[.int .i64 1] w (Chose 1 w) := by
  go_enter Try.func18, Try.ntmps18
  go_wp2
  go_ret
  exact ⟨_, rfl, Below.refl _ _, Or.inr ⟨rfl, Fun16.plain _ ent_num_Add fun x y w => Num.addP x y w⟩⟩
set_option maxHeartbeats 1000000 in
theorem choose2P (w : World) : Calls Try.prog 18 #[.int .i64 2] w (Chose 2 w) := by
  go_enter Try.func18, Try.ntmps18
  go_wp2
  go_ret
  exact ⟨_, rfl, Below.refl _ _, Or.inr ⟨rfl, Fun16.plain _ ent_num_Sub fun x y w => Num.subP x y w⟩⟩
set_option maxHeartbeats 1000000 in
theorem choose3P (w : World) : Calls Try.prog 18 #[.int .i64 3] w (Chose 3 w) := by
  go_enter Try.func18, Try.ntmps18
  go_wp2
  go_ret
  exact ⟨_, rfl, Below.refl _ _, Or.inr ⟨rfl, Fun16.plain _ ent_num_Mul fun x y w => Num.mulP x y w⟩⟩
set_option maxHeartbeats 1000000 in
theorem choose4P (w : World) : Calls Try.prog 18 #[.int .i64 4] w (Chose 4 w) := by
  go_enter Try.func18, Try.ntmps18
  go_wp2
  go_ret
  exact ⟨_, rfl, Below.refl _ _, Or.inr ⟨rfl, Fun16.plain _ ent_num_Div fun x y w => Num.divP x y w⟩⟩
set_option maxHeartbeats 1000000 in
theorem choose5P (w : World) : Calls Try.prog 18 #[.int .i64 5] w (Chose 5 w) := by
  go_enter Try.func18, Try.ntmps18
  go_wp2
  go_ret
  exact ⟨_, rfl, Below.refl _ _, Or.inr ⟨rfl, Fun16.plain _ ent_num_Mod fun x y w => Num.modP x y w⟩⟩
set_option maxHeartbeats 1000000 in
theorem choose6P (w : World) : Calls Try.prog 18 #[.int .i64 6] w (Chose 6 w) := by
  go_enter Try.func18, Try.ntmps18
  go_wp2
  go_ret
  exact ⟨_, rfl, Below.refl _ _, Or.inr ⟨rfl, Fun16.plain _ ent_num_Pow fun x y w => Num.powP x y w⟩⟩
set_option maxHeartbeats 1000000 in
theorem choose7P (w : World) : Calls Try.prog 18 #[.int .i64 7] w (Chose 7 w) := by
  go_enter Try.func18, Try.ntmps18
  go_wp2
  go_ret
  exact ⟨_, rfl, Below.refl _ _, Or.inr ⟨rfl, Fun16.plain _ ent_binary_choose1 fun x y w => minP x y w⟩⟩
set_option maxHeartbeats 1000000 in
theorem choose8P (w : World) : Calls Try.prog 18 #[.int .i64 8] w (Chose 8 w) := by
  go_enter Try.func18, Try.ntmps18
  go_wp2
  go_ret
  exact ⟨_, rfl, Below.refl _ _, Or.inr ⟨rfl, Fun16.plain _ ent_binary_choose2 fun x y w => maxP x y w⟩⟩
set_option maxHeartbeats 1000000 in
theorem choose9P (w : World) : Calls Try.prog 18 #[.int .i64 9] w (Chose 9 w) := by
  go_enter Try.func18, Try.ntmps18
  go_wp2_with (go_at_call 49; refine Calls.mono (truthP _ _) ?_; rintro e w' ⟨rfl, rfl⟩)
  go_ret
  exact ⟨_, rfl, below_new _ _, Or.inr ⟨rfl, Fun16.capt _ ent_binary_truth1 fun x y b w hb => truth1P _ ent_binary_choose3 _ b ltP x y w hb⟩⟩
set_option maxHeartbeats 1000000 in
theorem choose10P (w : World) : Calls Try.prog 18 #[.int .i64 10] w (Chose 10 w) := by
  go_enter Try.func18, Try.ntmps18
  go_wp2_with (go_at_call 49; refine Calls.mono (truthP _ _) ?_; rintro e w' ⟨rfl, rfl⟩)
  go_ret
  exact ⟨_, rfl, below_new _ _, Or.inr ⟨rfl, Fun16.capt _ ent_binary_truth1 fun x y b w hb => truth1P _ ent_binary_choose4 _ b leP x y w hb⟩⟩
set_option maxHeartbeats 1000000 in
theorem choose11P (w : World) : Calls Try.prog 18 #[.int .i64 11] w (Chose 11 w) := by
  go_enter Try.func18, Try.ntmps18
  go_wp2_with (go_at_call 49; refine Calls.mono (truthP _ _) ?_; rintro e w' ⟨rfl, rfl⟩)
  go_ret
  exact ⟨_, rfl, below_new _ _, Or.inr ⟨rfl, Fun16.capt _ ent_binary_truth1 fun x y b w hb => truth1P _ ent_binary_choose5 _ b eqP x y w hb⟩⟩
set_option maxHeartbeats 1000000 in
theorem choose12P (w : World) : Calls Try.prog 18 #[.int .i64 12] w (Chose 12 w) := by
  go_enter Try.func18, Try.ntmps18
  go_wp2_with (go_at_call 49; refine Calls.mono (truthP _ _) ?_; rintro e w' ⟨rfl, rfl⟩)
  go_ret
  exact ⟨_, rfl, below_new _ _, Or.inr ⟨rfl, Fun16.capt _ ent_binary_truth1 fun x y b w hb => truth1P _ ent_binary_choose6 _ b neP x y w hb⟩⟩
set_option maxHeartbeats 1000000 in
theorem choose13P (w : World) : Calls Try.prog 18 #[.int .i64 13] w (Chose 13 w) := by
  go_enter Try.func18, Try.ntmps18
  go_wp2_with (go_at_call 49; refine Calls.mono (truthP _ _) ?_; rintro e w' ⟨rfl, rfl⟩)
  go_ret
  exact ⟨_, rfl, below_new _ _, Or.inr ⟨rfl, Fun16.capt _ ent_binary_truth1 fun x y b w hb => truth1P _ ent_binary_choose7 _ b geP x y w hb⟩⟩
set_option maxHeartbeats 1000000 in
theorem choose14P (w : World) : Calls Try.prog 18 #[.int .i64 14] w (Chose 14 w) := by
  go_enter Try.func18, Try.ntmps18
  go_wp2_with (go_at_call 49; refine Calls.mono (truthP _ _) ?_; rintro e w' ⟨rfl, rfl⟩)
  go_ret
  exact ⟨_, rfl, below_new _ _, Or.inr ⟨rfl, Fun16.capt _ ent_binary_truth1 fun x y b w hb => truth1P _ ent_binary_choose8 _ b gtP x y w hb⟩⟩
set_option maxHeartbeats 1000000 in
theorem choose15P (w : World) : Calls Try.prog 18 #[.int .i64 15] w (Chose 15 w) := by
  go_enter Try.func18, Try.ntmps18
  go_wp2_with (go_at_call 56; refine Calls.mono (logicalP _ _) ?_; rintro e w' ⟨rfl, rfl⟩)
  go_ret
  exact ⟨_, rfl, below_new _ _, Or.inr ⟨rfl, Fun16.capt _ ent_binary_logical1 fun x y b w hb => (logical1P _ ent_binary_choose9 _ b andP x y w hb).mono fun e w' h => ⟨h.1.trans (tup2 (by show _ = (if (bitB x && bitB y) = true then _ else _ : Int × Int).1; split <;> rfl) (by show _ = (if (bitB x && bitB y) = true then _ else _ : Int × Int).2; split <;> rfl)), h.2⟩⟩⟩
set_option maxHeartbeats 1000000 in
theorem choose16P (w : World) : Calls Try.prog 18 #[.int .i64 16] w (Chose 16 w) := by
  go_enter Try.func18, Try.ntmps18
  go_wp2_with (go_at_call 56; refine Calls.mono (logicalP _ _) ?_; rintro e w' ⟨rfl, rfl⟩)
  go_ret
  exact ⟨_, rfl, below_new _ _, Or.inr ⟨rfl, Fun16.capt _ ent_binary_logical1 fun x y b w hb => (logical1P _ ent_binary_choose10 _ b orP x y w hb).mono fun e w' h => ⟨h.1.trans (tup2 (by show _ = (if (bitB x && bitB y) = true then _ else _ : Int × Int).1; split <;> rfl) (by show _ = (if (bitB x && bitB y) = true then _ else _ : Int × Int).2; split <;> rfl)), h.2⟩⟩⟩
set_option maxHeartbeats 1000000 in
theorem chooseNoP (p : Int) (w : World) (h : binB p = false) : Calls Try.prog 18 #[.int .i64 p] w (Chose p w) := by
  have hb : ¬ (1 ≤ p ∧ p ≤ 16) := by simpa [binB] using h
  have h1 : ¬ p = 1 := by omega
  have h2 : ¬ p = 2 := by omega
  have h3 : ¬ p = 3 := by omega
  have h4 : ¬ p = 4 := by omega
  have h5 : ¬ p = 5 := by omega
  have h6 : ¬ p = 6 := by omega
  have h7 : ¬ p = 7 := by omega
  have h8 : ¬ p = 8 := by omega
  have h9 : ¬ p = 9 := by omega
  have h10 : ¬ p = 10 := by omega
  have h11 : ¬ p = 11 := by omega
  have h12 : ¬ p = 12 := by omega
  have h13 : ¬ p = 13 := by omega
  have h14 : ¬ p = 14 := by omega
  have h15 : ¬ p = 15 := by omega
  have h16 : ¬ p = 16 := by omega
  clear hb
  go_enter Try.func18, Try.ntmps18
  go_wp2
  go_ret
  exact ⟨_, rfl, Below.refl _ _, Or.inl ⟨h, rfl⟩⟩
theorem chooseP (p : Int) (w : World) : Calls Try.prog 18 #[.int .i64 p] w (Chose p w) := by
  by_cases h : binB p = true
  · rcases bin_cases h with rfl | rfl | rfl | rfl | rfl | rfl | rfl | rfl | rfl | rfl | rfl | rfl | rfl | rfl | rfl | rfl
    · exact choose1P w
    · exact choose2P w
    · exact choose3P w
    · exact choose4P w
    · exact choose5P w
    · exact choose6P w
    · exact choose7P w
    · exact choose8P w
    · exact choose9P w
    · exact choose10P w
    · exact choose11P w
    · exact choose12P w
    · exact choose13P w
    · exact choose14P w
    · exact choose15P w
    · exact choose16P w
  · exact chooseNoP p w (by simpa using h)
/-! ### A function value against nil -/
theorem equalIn_f16 (d : Nat) (t : TypeId) (ps rs : Array TypeId) (b : Bool) (w : World) (hu : Try.prog.underlying t = some (.func ps rs b)) (f : Fn) (x c : Array Value) : (Op.equalIn (d + 1) t (.func f x c) .nilFunc).run Try.prog w = .ok false w := by
  simp [Op.equalIn, run_underlying hu]
theorem equalIn_n16 (d : Nat) (t : TypeId) (ps rs : Array TypeId) (b : Bool) (w : World) (hu : Try.prog.underlying t = some (.func ps rs b)) : (Op.equalIn (d + 1) t .nilFunc .nilFunc).run Try.prog w = .ok true w := by
  simp [Op.equalIn, run_underlying hu]
theorem neq_f16 (w : World) (f : Fn) (x c : Array Value) : (binOp .neq 42 (.func f x c) .nilFunc).run Try.prog w = .ok (.bool true) w := by
  simp only [binOp]
  simp [Op.equal, Op.maxDepth, equalIn_f16 9999 42 _ _ _ w Try.underlying42]
theorem neq_n16 (w : World) : (binOp .neq 42 .nilFunc .nilFunc).run Try.prog w = .ok (.bool false) w := by
  simp only [binOp]
  simp [Op.equal, Op.maxDepth, equalIn_n16 9999 42 _ _ _ w Try.underlying42]
theorem eql_f16 (w : World) (f : Fn) (x c : Array Value) : (binOp .eql 42 (.func f x c) .nilFunc).run Try.prog w = .ok (.bool false) w := by
  simp only [binOp]
  simp [Op.equal, Op.maxDepth, equalIn_f16 9999 42 _ _ _ w Try.underlying42]
theorem eql_n16 (w : World) : (binOp .eql 42 .nilFunc .nilFunc).run Try.prog w = .ok (.bool true) w := by
  simp only [binOp]
  simp [Op.equal, Op.maxDepth, equalIn_n16 9999 42 _ _ _ w Try.underlying42]
theorem isP16 : IsOK := by
  intro p w
  have NF := neq_f16
  have NN := neq_n16
  go_enter Try.func10, Try.ntmps10
  go_wp2_with (go_at_call 18; refine Calls.mono (chooseP _ _) ?_; rintro e w1 ⟨v, rfl, hb1, ⟨hp, rfl⟩ | ⟨hp, t, cap, rfl, -, -⟩⟩)
  · go_ret
    exact ⟨ret_b16 hp.symm, hb1⟩
  · go_ret
    exact ⟨ret_b16 hp.symm, hb1⟩
end Go.Proofs.Ytekbdiniibmhgaa.Shape
