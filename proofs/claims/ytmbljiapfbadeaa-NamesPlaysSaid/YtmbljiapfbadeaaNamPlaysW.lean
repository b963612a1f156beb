/-
  Layer 11: the law that plays calls on scopes, walked.
-/
import Derived.Test.YtmbljiapfbadeaaNamSt
import Derived.Test.YtmbljiapfbadeaaNamOps
namespace Go.Proofs.Ytmbljiapfbadeaa.Nam
open Go.RowKit Go.Maps
set_option linter.unusedVariables false

theorem Ptrs.made (w : World) (base : Nat) (hb : base ≤ w.heap.size) (e : TypeId) (a b : Option Nat) (pb : Nat → Nat) : Ptrs (w.alloc (.cells #[ptr (a.map pb), ptr (b.map pb)] e)) base e (.slice (some ⟨w.heap.size, 0, none⟩) 2 2) [a, b] pb :=
  ⟨rfl, Or.inr ⟨w.heap.size, 2, #[ptr (a.map pb), ptr (b.map pb)], rfl, hb, heap_alloc_new w _, Nat.le_refl _, by decide, rfl, rfl⟩⟩
/-- The state at the start: a scope and nil, in both lists. -/
theorem St.start {w1 w3 : World} {base b m r : Nat} (h1 : PSc w1 b m none 0 []) (hb1 : base ≤ b) (hm1 : base ≤ m) (hs1 : base ≤ w1.heap.size)
    (h3 : RSc w3 base r none (.slice none 0 0) (.slice none 0 0) []) (hr : base ≤ r) (b3 : Below (w1.alloc (.cells #[.pointer (some ⟨b, 0, none⟩), .pointer none] 24)).heap.size (w1.alloc (.cells #[.pointer (some ⟨b, 0, none⟩), .pointer none] 24)) w3) :
    St (w3.alloc (.cells #[.pointer (some ⟨r, 0, none⟩), .pointer none] 27)) base 0 [⟨none, 0, []⟩] [some 0, none] (fun _ => b) (fun _ => m) (fun _ => r) (fun _ => .slice none 0 0) (fun _ => .slice none 0 0) (.slice (some ⟨w1.heap.size, 0, none⟩) 2 2) (.slice (some ⟨w3.heap.size, 0, none⟩) 2 2) := by
  have p := (((fam_one h1).below (below_new w1 (.cells #[.pointer (some ⟨b, 0, none⟩), .pointer none] 24))).below b3).below (below_new w3 (.cells #[.pointer (some ⟨r, 0, none⟩), .pointer none] 27))
  have q := (rfam_one h3).below (below_new w3 (.cells #[.pointer (some ⟨r, 0, none⟩), .pointer none] 27))
  have la := ((Ptrs.made w1 base hs1 24 (some 0) none (fun _ => b)).below b3).below (below_new w3 (.cells #[.pointer (some ⟨r, 0, none⟩), .pointer none] 27))
  have lb := Ptrs.made w3 base (by have := b3.size; simp at this; omega) 27 (some 0) none (fun _ => r)
  exact ⟨p, q, la, lb, wf_one, fun o ho j e => by
    subst e
    simp at ho
    subst ho
    decide, fun j hj => ⟨hb1, hm1, hr⟩, by decide, by decide, fun j hj => by
    obtain rfl : j = 0 := by simpa using hj
    exact Nat.le_refl _⟩
theorem keep_drew {w : World} {b : Nat} (h : b < w.heap.size) : b < w.drew.heap.size := h
theorem ButR.after {b : Nat} {vn vc : Value} {w1 w1' w2 : World} (h : Below w1.heap.size w1 w1') (k : ButR b vn vc w1' w2) : ButR b vn vc w1 w2 :=
  ⟨k.os.trans h.os, k.tape.trans h.tape, k.output.trans h.output, Nat.le_trans h.size k.size, fun n hn a1 a2 a3 => (k.block n (Nat.lt_of_lt_of_le hn h.size) a1 a2 a3).trans (h.block n hn)⟩
theorem Own.after {w1 w1' : World} (h : Below w1.heap.size w1 w1') {v v' : Value} (k : Own w1' v v') : Own w1 v v' := by
  rcases k with e | ⟨g, hg, e⟩
  · exact Or.inl e
  · exact Or.inr ⟨g, Nat.le_trans h.size hg, e⟩
theorem of_but {B m : Nat} {W0 w w' : World} (_ : But m w w') (h : Below B W0 w) : Below B W0 w := h
theorem of_butR {B b : Nat} {vn vc : Value} {W0 w w' : World} (_ : ButR b vn vc w w') (h : Below B W0 w) : Below B W0 w := h
theorem defineG {w : World} {L : List Scp} {pb mb : Nat → Nat} (h : PFam w L pb mb) {i : Nat} (hi : i < L.length) (s : ByteArray) (hs : s.size ≤ maxLen) (c r : Int) (hl : (scp L i).ds.length ≤ 1000) (hr : errD (scp L i).ds s c = r) :
    Calls Try.prog 11 #[.pointer (some ⟨pb i, 0, none⟩), .string s, .int .i64 c] w fun e w' => e = .returned (.int .i64 r) ∧ PFam w' (defL L i s c) pb mb ∧ But (mb i) w w' := by
  subst hr
  exact defineF h hi s hs c hl
theorem defineRG {w : World} {base : Nat} {L : List Scp} {rb : Nat → Nat} {vn vc : Nat → Value} (h : RFam w base L rb vn vc) {i : Nat} (hi : i < L.length) (hbase : base ≤ w.heap.size) (s : ByteArray) (hs : s.size ≤ maxLen) (c r : Int) (hl : (scp L i).ds.length ≤ 1000) (hr : errD (scp L i).ds s c = r) :
    Calls Try.prog 12 #[.pointer (some ⟨rb i, 0, none⟩), .string s, .int .i64 c] w fun e w' => e = .returned (.int .i64 r) ∧ ∃ vn' vc', RSc w' base (rb i) (L[i].out.map rb) vn' vc' (addD L[i].ds s c) ∧ ButR (rb i) (vn i) (vc i) w w' ∧ Own w (vn i) vn' ∧ Own w (vc i) vc' := by
  subst hr
  rw [scp_at hi] at hl ⊢
  exact defineR w base (rb i) _ _ _ _ (h.sc i hi) hbase s hs c hl
theorem upd_ptr (f : Nat → Nat) (n v : Nat) : Value.pointer (some ⟨v, 0, none⟩) = ptr ((some n).map (upd f n v)) := by
  simp only [Option.map_some, upd_same]
  rfl
theorem depthG {w : World} {L : List Scp} {pb mb : Nat → Nat} (h : PFam w L pb mb) {i : Nat} (hi : i < L.length) (r : Int) (hr : ((scp L i).dep : Int) = r) :
    Calls Try.prog 15 #[.pointer (some ⟨pb i, 0, none⟩)] w fun e w' => e = .returned (.int .i64 r) ∧ Below w.heap.size w w' := by
  subst hr
  exact depthF h hi
theorem namesG {w : World} {base : Nat} {L : List Scp} {rb : Nat → Nat} {vn vc : Nat → Value} (h : RFam w base L rb vn vc) {i : Nat} (hi : i < L.length) (hl : (scp L i).ds.length ≤ 1000) :
    Calls Try.prog 19 #[.pointer (some ⟨rb i, 0, none⟩)] w fun e w' => ∃ v, e = .returned v ∧ Want w' w.heap.size v (namesOf (scp L i).ds) ∧ Below w.heap.size w w' := by
  rw [scp_at hi] at hl ⊢
  exact namesR w base (rb i) _ _ _ _ (h.sc i hi) hl
theorem sameN2 {w : World} {g base n : Nat} {v : Value} {N : List ByteArray} (h : Strs w g N) (hV : Want w base v N) (hn : N.length = n) :
    Calls Try.prog 17 #[.slice (some ⟨g, 0, none⟩) n n, v] w fun e w' => e = .returned (.bool true) ∧ Below w.heap.size w w' := by
  subst hn
  obtain ⟨_, _, _, hb, _⟩ := id hV.sat
  have := sameQ (Strs.sat h N.length hb) hV.sat
  rw [decide_eq_true (rfl : N = N)] at this
  exact this
theorem sameNil (w : World) : Calls Try.prog 17 #[.slice none 0 0, .slice none 0 0] w fun e w' => e = .returned (.bool true) ∧ Below w.heap.size w w' := by
  have := sameQ (sat_nil w) (sat_nil w)
  rw [decide_eq_true (rfl : ([] : List ByteArray) = [])] at this
  exact this
set_option maxRecDepth 100000 in
set_option maxHeartbeats 64000000 in
theorem plays0 (w : World) (a : Option Addr) (c len : Nat) (l : List OpD) (hn : Hid (l.length = len)) (hb : len ≤ 9223372036854775807) (ho : Hid (OpsAt w a l)) (hB : Hid (∀ x ∈ l, Bd x)) :
    Calls Try.prog 3 #[.slice a len c] w fun e w' => e = .returned (.bool true) ∧ Below w.heap.size w w' := by
  by_cases hb1 : len ≤ 100
  case neg =>
    have hx : (100 : Int) < (len : Int) := by omega
    go_enter Try.func3, Try.ntmps3
    go_wp2_with (go_at_call 6; (with_reducible refine (awakeL _).mono ?_); rintro e1 w1 ⟨rfl, b1⟩)
    go_ret
    exact ⟨rfl, b1⟩
  have hx : ¬ (100 : Int) < (len : Int) := by omega
  go_enter Try.func3, Try.ntmps3
  go_wp2_with (first
    | (go_at_call 6; (with_reducible refine (awakeL _).mono ?_); rintro e0 w0 ⟨rfl, b0⟩)
    | (go_at_call 7; (with_reducible refine (newP w0).mono ?_); rintro e1 w1 ⟨rfl, -, h1, b1⟩; have z1 : w.heap.size ≤ w1.heap.size := Nat.le_trans b0.size b1.size)
    | (go_at_call 8; (with_reducible refine (newR _ w.heap.size).mono ?_); rintro e3 w3 ⟨rfl, h3, b3⟩; have z3 : w.heap.size ≤ (w1.alloc (.cells #[.pointer (some ⟨w0.heap.size + 1, 0, none⟩), .pointer none] 24)).heap.size := Nat.le_trans z1 (below_new _ _).size))
  have er : (w1.alloc (.cells #[.pointer (some ⟨w0.heap.size + 1, 0, none⟩), .pointer none] 24)).heap.size = w1.heap.size + 1 := by simp
  rw [er] at h3 z3
  have ST := St.start h1 (by have := b0.size; omega) b0.size z1 h3 z3 b3
  have B0 : Below w.heap.size w (w3.alloc (.cells #[.pointer (some ⟨w1.heap.size + 1, 0, none⟩), .pointer none] 27)) := Below.then (Below.then (Below.then (Below.then b0 b1) (below_new _ _)) b3) (below_new _ _)
  clear h1 h3 b0 b1 b3 z1 z3
  go_loopw [3, 4, 5] (fun va vb i wr => ∃ (n : Nat) (L : List Scp) (S : List (Option Nat)) (pb mb rb : Nat → Nat) (vn vc : Nat → Value), n ≤ len ∧ i = .int .i64 (n : Int) ∧ St wr w.heap.size n L S pb mb rb vn vc va vb ∧ Below w.heap.size w wr) (fun _ _ i _ => len - (intOf i).toNat)
  case atStart => exact ⟨0, _, _, _, _, _, _, _, Nat.zero_le _, rfl, ST, B0⟩
  case round =>
    clear ST B0
    obtain ⟨n, L, S, pb, mb, rb, vn, vc, hnl, rfl, ST, Bw⟩ := hrel
    by_cases hlt : n < len
    case neg =>
      obtain rfl : n = len := by omega
      have hn0 : ¬ (n : Int) < (n : Int) := by omega
      clear ST
      go_wp2
      go_ret
      exact ⟨rfl, Bw⟩
    have hlt' : (n : Int) < (len : Int) := by omega
    have hnl2 : n < l.length := by rw [hn.out]; exact hlt
    obtain ⟨m, q0, ha, hc, hm⟩ := ho.out
    have hne : l ≠ [] := fun e => by rw [e] at hnl2; simp at hnl2
    have hmb := hm hne
    have hae := ha hne
    subst hae
    have hix := fun w' => ops_at w' m q0 len c n hlt
    obtain ⟨hBs, hBt⟩ := hB.out _ (List.getElem_mem hnl2)
    obtain ⟨x0, x1, x2, x3⟩ := hc n hnl2
    generalize l[n] = op at *
    obtain ⟨kd, s, t, cl⟩ := op
    simp only at x0 x1 x2 x3 hBs hBt
    generalize q0 + n * 4 = q at *
    have H0 : ∀ w', Below w.heap.size w w' → w'.cell? ⟨m, q, none⟩ = some (.int .i64 kd) ∧ w'.cell? ⟨m, q + 1, none⟩ = some (.int .i64 s) ∧ w'.cell? ⟨m, q + 2, none⟩ = some (.string t) ∧ w'.cell? ⟨m, q + 3, none⟩ = some (.int .i64 cl) := fun w' hb =>
      ⟨(hb.cell (p := ⟨m, q, none⟩) hmb).trans x0, (hb.cell (p := ⟨m, q + 1, none⟩) hmb).trans x1, (hb.cell (p := ⟨m, q + 2, none⟩) hmb).trans x2, (hb.cell (p := ⟨m, q + 3, none⟩) hmb).trans x3⟩
    obtain ⟨y0, y1, y2, y3⟩ := H0 wr Bw
    have hSl := ST.cS
    have hLS := ST.cL
    have hSl' : S.length ≤ 1000 := by omega
    have hLl : L.length ≤ 1000 := by omega
    clear ha hc hm x0 x1 x2 x3 hnl2 hne
    by_cases hs0 : s < 0
    · clear hSl hLS hSl' hLl
      go_wp2
      go_roundw
      case rel => exact ⟨n + 1, L, S, pb, mb, rb, vn, vc, by omega, by go_num, ST.mono (by omega), Bw⟩
      case measure => simp [intOf]; omega
    obtain ⟨j, rfl⟩ := Int.eq_ofNat_of_zero_le (Int.not_lt.1 hs0)
    by_cases hjS : j < S.length
    case neg =>
      obtain ⟨ad, k9, rfl⟩ := ST.la.shape
      have hjS' : (S.length : Int) ≤ (j : Int) := by omega
      clear hSl hLS hSl' hLl
      go_wp2
      go_roundw
      case rel => exact ⟨n + 1, L, S, pb, mb, rb, vn, vc, by omega, by go_num, ST.mono (by omega), Bw⟩
      case measure => simp [intOf]; omega
    have hjS' : ¬ (S.length : Int) ≤ (j : Int) := by omega
    have hjS2 : (j : Int) < (S.length : Int) := by omega
    obtain ⟨ga, ca, rfl, ia, xa⟩ := ST.la.at elemA sizeA hjS
    obtain ⟨gb, cb, rfl, ib, xb⟩ := ST.lb.at elemB sizeB hjS
    have hok := ST.ok _ (List.getElem_mem hjS)
    generalize S[j] = sj at *
    have SD := ST.below (W' := wr.drew) (Below.refl _ _).drew
    have BD : Below w.heap.size w wr.drew := Bw.drew
    cases sj with
    | none =>
      simp only [Option.map_none, ptr_none] at xa xb
      clear hok
      by_cases k0 : kd = 0
      · subst k0
        go_wp2
        go_region
        go_wp2_with (first
          | (go_at_call 9; (with_reducible refine (openN _).mono ?_); rintro e1 w1 ⟨rfl, b1⟩; have S1 := SD.below b1; have B1 := BD.trans (b1.mono BD.size))
          | (go_at_call 10; (with_reducible refine (openRN _).mono ?_); rintro e2 w2 ⟨rfl, b2⟩; have S2 := S1.below b2; have B2 := B1.trans (b2.mono B1.size); have z2 := B2.size)
          | (at_builtin; refine ptr_push _ Try.underlying26 infoA rfl _ _ rfl w.heap.size _ S pb rfl S2.la none rfl hSl' z2 _ rfl ?_; intro a4 m4 k4 w4 LA4 g4; have LB4 := ptrs_grown (e := 24) (by decide) g4 (ptrs_row S2.la) S2.lb; have z4 := Nat.le_trans z2 g4.size)
          | (at_builtin; refine ptr_push _ Try.underlying29 infoB rfl _ _ rfl w.heap.size _ S rb rfl LB4 none rfl hSl' z4 _ rfl ?_; intro a6 m6 k6 w6 LB6 g6)
          )
        have B6 := (B2.grown g4 z2 (fun g hg => (S2.la.block hg).1)).grown g6 z4 (fun g hg => (S2.lb.block hg).1)
        go_roundw
        case rel => exact ⟨n + 1, L, S ++ [none], pb, mb, rb, vn, vc, by omega, by go_num, S2.opened0 LA4 g4 LB6 g6, B6⟩
        case measure => simp [intOf]; omega
      by_cases k1 : kd = 1
      · subst k1
        go_wp2
        go_region
        have H1 : ∀ w', Below w.heap.size w w' → w'.cell? ⟨m, q + 2, none⟩ = some (.string t) ∧ w'.cell? ⟨m, q + 3, none⟩ = some (.int .i64 cl) ∧ Below w.heap.size w w' := fun w' hb => ⟨(H0 w' hb).2.2.1, (H0 w' hb).2.2.2, hb⟩
        generalize wr.drew = W0 at SD BD ⊢
        obtain ⟨v0, -, -, -⟩ := H0 W0 BD
        clear ST Bw y0 y1 y2 y3 xa xb ia ib H0
        go_wp2
        go_region_held3 (fun w' => w'.cell? ⟨m, q + 2, none⟩ = some (.string t) ∧ w'.cell? ⟨m, q + 3, none⟩ = some (.int .i64 cl) ∧ Below w.heap.size w w')
          (first | exact H1 _ (by go_grown) | go_keep)
          ((first
            | (go_at_call 11; (with_reducible refine (defineN _ _ _).mono ?_); rintro e1 w1 ⟨rfl, b1⟩; (have E1 : Below W0.heap.size W0 w1 := Below.then (by go_grown) b1); (have F1 : Below w.heap.size w w1 := BD.trans (E1.mono BD.size)))
            | (go_at_call 12; (with_reducible refine (defineRN _ _ _).mono ?_); rintro e2 w2 ⟨rfl, b2⟩; (have E2 : Below W0.heap.size W0 w2 := E1.trans ((Below.then (by go_grown) b2 : Below w1.heap.size w1 w2).mono E1.size)); (have F2 : Below w.heap.size w w2 := BD.trans (E2.mono BD.size)))))
        all_goals go_wp2
        all_goals go_roundw
        case rel => exact ⟨n + 1, L, S, pb, mb, rb, vn, vc, by omega, by go_num, (SD.below (by go_grown)).mono (by omega), by go_grown⟩
        case measure => simp [intOf]; omega
      by_cases k2 : kd = 2
      · subst k2
        go_wp2
        go_region
        go_wp2_with (first
          | (go_at_call 13; (with_reducible refine (findN _ _).mono ?_); rintro e1 w1 ⟨rfl, b1⟩; have S1 := SD.below b1; have B1 := BD.trans (b1.mono BD.size); obtain ⟨u0, u1, u2, u3⟩ := H0 _ B1)
          | (go_at_call 14; (with_reducible refine (findRN _ _).mono ?_); rintro e2 w2 ⟨rfl, b2⟩; have S2 := S1.below b2; have B2 := B1.trans (b2.mono B1.size))
          )
        go_roundw
        case rel => exact ⟨n + 1, L, S, pb, mb, rb, vn, vc, by omega, by go_num, S2.mono (by omega), B2⟩
        case measure => simp [intOf]; omega
      by_cases k3 : kd = 3
      · subst k3
        go_wp2
        go_region
        go_wp2_with (first
          | (go_at_call 15; (with_reducible refine (depthN _).mono ?_); rintro e1 w1 ⟨rfl, b1⟩; have S1 := SD.below b1; have B1 := BD.trans (b1.mono BD.size))
          | (go_at_call 16; (with_reducible refine (depthRN _).mono ?_); rintro e2 w2 ⟨rfl, b2⟩; have S2 := S1.below b2; have B2 := B1.trans (b2.mono B1.size))
          )
        go_roundw
        case rel => exact ⟨n + 1, L, S, pb, mb, rb, vn, vc, by omega, by go_num, S2.mono (by omega), B2⟩
        case measure => simp [intOf]; omega
      by_cases k4 : kd = 4
      · subst k4
        go_wp2
        go_region
        go_wp2_with (first
          | (go_at_call 18; (with_reducible refine (namesN _).mono ?_); rintro e1 w1 ⟨rfl, b1⟩; have S1 := SD.below b1; have B1 := BD.trans (b1.mono BD.size))
          | (go_at_call 19; (with_reducible refine (namesRN _).mono ?_); rintro e2 w2 ⟨rfl, b2⟩; have S2 := S1.below b2; have B2 := B1.trans (b2.mono B1.size))
          | (go_at_call 17; (with_reducible refine (sameNil _).mono ?_); rintro e3 w3 ⟨rfl, b3⟩; have S3 := S2.below b3; have B3 := B2.trans (b3.mono B2.size))
          )
        go_roundw
        case rel => exact ⟨n + 1, L, S, pb, mb, rb, vn, vc, by omega, by go_num, S3.mono (by omega), B3⟩
        case measure => simp [intOf]; omega
      have f0 : (kd == 0) = false := by simpa using k0
      have f1 : (kd == 1) = false := by simpa using k1
      have f2 : (kd == 2) = false := by simpa using k2
      have f3 : (kd == 3) = false := by simpa using k3
      have f4 : (kd == 4) = false := by simpa using k4
      go_wp2
      go_region
      go_wp2
      go_roundw
      case rel => exact ⟨n + 1, L, S, pb, mb, rb, vn, vc, by omega, by go_num, SD.mono (by omega), BD⟩
      case measure => simp [intOf]; omega
    | some i =>
      have hi := hok i rfl
      simp only [Option.map_some, ptr_some] at xa xb
      have hcd : ∀ j (h : j < L.length), L[j].ds.length ≤ 1000 := fun j h => by have := ST.cD j h; omega
      have hcs : (scp L i).ds.length ≤ 1000 := by rw [scp_at hi]; exact hcd i hi
      have hNl := names_len (scp L i).ds
      clear hok
      by_cases k0 : kd = 0
      · subst k0
        go_wp2
        go_region
        go_wp2_with (first
          | (go_at_call 9; (with_reducible refine (openF SD.pf SD.wf hLl hi).mono ?_); rintro e1 w1 ⟨rfl, P0, b1⟩; have P1 : PFam w1 (openL L i) (upd pb L.length (wr.heap.size + 1)) (upd mb L.length wr.heap.size) := P0; have S1 := SD.below b1; have B1 := BD.trans (b1.mono BD.size))
          | (go_at_call 10; (with_reducible refine (openR _ w.heap.size _).mono ?_); rintro e2 w2 ⟨rfl, R2, b2⟩; have S2 := S1.below b2; have B2 := B1.trans (b2.mono B1.size); have z2 := B2.size; have LA2 := S2.la_open (wr.heap.size + 1); have LB2 := S2.lb_open w1.heap.size)
          | (at_builtin; (refine ptr_push _ Try.underlying26 infoA rfl _ _ rfl w.heap.size _ S _ rfl LA2 (some L.length) rfl hSl' z2 _ (upd_ptr pb L.length (wr.heap.size + 1)) ?_); intro a4 m4 k4 w4 LA4 g4; have LB4 := ptrs_grown (e := 24) (by decide) g4 (ptrs_row S2.la) LB2; have z4 := Nat.le_trans z2 g4.size)
          | (at_builtin; refine ptr_push _ Try.underlying29 infoB rfl _ _ rfl w.heap.size _ S _ rfl LB4 (some L.length) rfl hSl' z4 _ (upd_ptr rb L.length w1.heap.size) ?_; intro a6 m6 k6 w6 LB6 g6)
          )
        have B6 := (B2.grown g4 z2 (fun g hg => (S2.la.block hg).1)).grown g6 z4 (fun g hg => (S2.lb.block hg).1)
        go_roundw
        case rel => exact ⟨n + 1, openL L i, S ++ [some L.length], _, _, _, _, _, by omega, by go_num, SD.opened BD.size hi (Nat.le_succ_of_le BD.size) BD.size (Nat.le_refl _) P1 b1 R2 b2 LA4 g4 LB6 g6, B6⟩
        case measure => simp [intOf]; omega
      by_cases k1 : kd = 1
      · subst k1
        obtain ⟨r, hr⟩ : ∃ r, errD (scp L i).ds t cl = r := ⟨_, rfl⟩
        have hlow := ST.low i hi
        go_wp2
        go_region
        have H1 : ∀ w', Below w.heap.size w w' → w'.cell? ⟨m, q + 2, none⟩ = some (.string t) ∧ w'.cell? ⟨m, q + 3, none⟩ = some (.int .i64 cl) ∧ Below w.heap.size w w' := fun w' hb => ⟨(H0 w' hb).2.2.1, (H0 w' hb).2.2.2, hb⟩
        generalize wr.drew = W0 at SD BD ⊢
        obtain ⟨v0, -, -, -⟩ := H0 W0 BD
        clear ST Bw y0 y1 y2 y3 xa xb ia ib H0
        go_wp2
        go_region_held3 (fun w' => w'.cell? ⟨m, q + 2, none⟩ = some (.string t) ∧ w'.cell? ⟨m, q + 3, none⟩ = some (.int .i64 cl) ∧ Below w.heap.size w w')
          (first | exact H1 _ (by go_grown) | go_keep)
          ((first
            | (go_at_call 11; (with_reducible refine (defineG ((SD.below (by go_grown)).pf) hi t hBt cl r hcs hr).mono ?_); rintro e1 w1 ⟨rfl, P1, b1⟩; (have SX := SD.below (of_but b1 (by go_grown))); (have R1 := (SX.rf_but hi b1).1); (have F1 : Below w.heap.size w w1 := But.below b1 hlow.2.1 (Nat.le_refl _) (by go_grown)); have Z1 := F1.size)
            | (go_at_call 12; (with_reducible refine (defineRG ((R1.below (by go_grown))) hi (by first | exact Z1 | (show _ ≤ _; exact Z1)) t hBt cl r hcs hr).mono ?_); rintro e2 w2 ⟨rfl, vn2, vc2, R2, b2, on, oc⟩; (have X1 : Below w1.heap.size w1 _ := of_butR b2 (by go_grown)); (have T2 := SX.defined hi P1 b1 R2 (ButR.after X1 b2) (Own.after X1 on) (Own.after X1 oc)); (have F2 : Below w.heap.size w w2 := ButR.below (ButR.after X1 b2) hlow.2.2 (fun g hg => (((R1.sc i hi).nm).block hg).1) (fun g hg => (((R1.sc i hi).cl).block hg).1) (Nat.le_refl _) F1))))
        all_goals go_wp2
        all_goals go_roundw
        case rel => exact ⟨n + 1, _, S, pb, mb, rb, _, _, by omega, by go_num, T2.below (by go_grown), by go_grown⟩
        case measure => simp [intOf]; omega
      by_cases k2 : kd = 2
      · subst k2
        obtain ⟨fc, fr, hfr⟩ : ∃ c r, findS L (i + 1) (some i) t = (c, r) := ⟨_, _, rfl⟩
        go_wp2
        go_region
        go_wp2_with (first
          | (go_at_call 13; (with_reducible refine (find0 _ L pb mb SD.pf SD.wf i hi t hBt fc fr hfr).mono ?_); rintro e1 w1 ⟨rfl, b1⟩; have S1 := SD.below b1; have B1 := BD.trans (b1.mono BD.size); obtain ⟨u0, u1, u2, u3⟩ := H0 _ B1)
          | (go_at_call 14; (with_reducible refine (findR0 _ w.heap.size L rb vn vc S1.rf S1.wf hcd i hi t hBt fc fr hfr).mono ?_); rintro e2 w2 ⟨rfl, b2⟩; have S2 := S1.below b2; have B2 := B1.trans (b2.mono B1.size))
          )
        go_roundw
        case rel => exact ⟨n + 1, L, S, pb, mb, rb, vn, vc, by omega, by go_num, S2.mono (by omega), B2⟩
        case measure => simp [intOf]; omega
      by_cases k3 : kd = 3
      · subst k3
        obtain ⟨dr, hdr⟩ : ∃ d : Int, ((scp L i).dep : Int) = d := ⟨_, rfl⟩
        go_wp2
        go_region
        go_wp2_with (first
          | (go_at_call 15; (with_reducible refine (depthG SD.pf hi dr hdr).mono ?_); rintro e1 w1 ⟨rfl, b1⟩; have S1 := SD.below b1; have B1 := BD.trans (b1.mono BD.size))
          | (go_at_call 16; (with_reducible refine (depthR0 _ w.heap.size L rb vn vc S1.rf S1.wf hLl i hi dr hdr).mono ?_); rintro e2 w2 ⟨rfl, b2⟩; have S2 := S1.below b2; have B2 := B1.trans (b2.mono B1.size))
          )
        go_roundw
        case rel => exact ⟨n + 1, L, S, pb, mb, rb, vn, vc, by omega, by go_num, S2.mono (by omega), B2⟩
        case measure => simp [intOf]; omega
      by_cases k4 : kd = 4
      · subst k4
        go_wp2
        go_region
        go_wp2_with (first
          | (go_at_call 18; (with_reducible refine (namesF SD.pf hi hcs).mono ?_); rintro e1 w1 ⟨rfl, N0, b1⟩; have N1 : Strs w1 wr.heap.size _ := N0; have S1 := SD.below b1; have B1 := BD.trans (b1.mono BD.size))
          | (go_at_call 19; (with_reducible refine (namesG S1.rf hi hcs).mono ?_); rintro e2 w2 ⟨v2, rfl, N2, b2⟩; have S2 := S1.below b2; have B2 := B1.trans (b2.mono B1.size); have N1' := N1.below b2)
          | (go_at_call 17; (with_reducible refine (sameN2 N1' N2 hNl).mono ?_); rintro e3 w3 ⟨rfl, b3⟩; have S3 := S2.below b3; have B3 := B2.trans (b3.mono B2.size))
          )
        go_roundw
        case rel => exact ⟨n + 1, L, S, pb, mb, rb, vn, vc, by omega, by go_num, S3.mono (by omega), B3⟩
        case measure => simp [intOf]; omega
      have f0 : (kd == 0) = false := by simpa using k0
      have f1 : (kd == 1) = false := by simpa using k1
      have f2 : (kd == 2) = false := by simpa using k2
      have f3 : (kd == 3) = false := by simpa using k3
      have f4 : (kd == 4) = false := by simpa using k4
      go_wp2
      go_region
      go_wp2
      go_roundw
      case rel => exact ⟨n + 1, L, S, pb, mb, rb, vn, vc, by omega, by go_num, SD.mono (by omega), BD⟩
      case measure => simp [intOf]; omega
theorem playsW {w : World} {v : Value} {l : List OpD} (h : OAt w v l) :
    Calls Try.prog 3 #[v] w fun e w' => e = .returned (.bool true) ∧ Below w.heap.size w w' := by
  obtain ⟨a, c, rfl, hb, ho, hB⟩ := h
  exact plays0 w a c _ l rfl hb ho hB
end Go.Proofs.Ytmbljiapfbadeaa.Nam
