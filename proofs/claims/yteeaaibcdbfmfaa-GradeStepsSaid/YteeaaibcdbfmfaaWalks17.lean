/- The walks of GradeTells and GradeCounts, from what is wanted of grade's functions. -/
import Derived.Test.YteeaaibcdbfmfaaWake17
import Derived.Test.YteeaaibcdbfmfaaRefB17
namespace Go.Proofs.Yteeaaibcdbfmfaa
open Go.RowKit

/-- The arguments, as they stand in a later world. -/
structure At17 (w W : World) (a : Option Addr) (xs : List Int) (b : Option Addr) (fs : List Int) : Prop where
  below : Below w.heap.size w W
  one : Ints W.heap.size W a xs
  two : Ints W.heap.size W b fs
theorem At17.step {w W W' : World} {a b : Option Addr} {xs fs : List Int} (h : At17 w W a xs b fs) (hb : Below W.heap.size W W') : At17 w W' a xs b fs :=
  ⟨h.below.trans (hb.mono h.below.size), h.one.step hb, h.two.step hb⟩
theorem drawn17 (W : World) (m : Nat) : Below W.heap.size W (W.drewN m) := drawn_below (Below.refl _ _) m
set_option maxHeartbeats 4000000 in
theorem gradeTells_from (Q : Grade17S) (w : World) (a : Option Addr) (cap : Nat) (xs : List Int) (_ : xs.length ≤ maxLen) (hx : Ints w.heap.size w a xs) (hcap : xs.length ≤ cap) (s : Int) (hwf : (Lit.int .i64 s).wf = true) (g : Int) (hwg : (Lit.int .i64 g).wf = true) :
    Calls Try.prog 3 #[.slice a xs.length cap, .int .i64 s, .int .i64 g] w fun e w' => e = .returned (.bool true) ∧ Below w.heap.size w w' := by
  by_cases h1 : 100 < xs.length
  · have e1 : decide (100 < (xs.length : Int)) = true := decide_eq_true (by omega)
    have e1' : decide (100 < xs.length) = true := decide_eq_true h1
    have hA := awake17 Q w
    clear h1 hx hcap hwf hwg Q
    go_enter Try.func3, Try.ntmps3
    go_wp2_with (go_at_call 7; refine hA.mono ?_; rintro e w2 ⟨rfl, hb⟩; have HB := Lib.hid hb; clear hb)
    go_ret
    exact ⟨rfl, HB.out⟩
  have e1 : decide (100 < (xs.length : Int)) = false := decide_eq_false (by omega)
  have e1' : decide (100 < xs.length) = false := decide_eq_false h1
  have A0 : Hid (At17 w w a xs a xs) := Lib.hid ⟨Below.refl _ _, hx, hx⟩
  have HN : Hid (xs.length ≤ 1000000) := Lib.hid (by omega)
  have HOF : Hid (∀ W, Ints W.heap.size W a xs → Calls Try.prog 8 #[.slice a xs.length cap, .int .i64 s] W fun e w' => e = .returned (.tuple #[.int .i64 (ofV17 xs s), .int .i64 (ofE17 xs s)]) ∧ Below W.heap.size W w') := Lib.hid fun W h => Q.of a cap xs s W hcap h HN.out hwf
  have HOR : Hid (∀ W, Ints W.heap.size W a xs → Calls Try.prog 9 #[.slice a xs.length cap, .int .i64 s] W fun e w' => e = .returned (.tuple #[.int .i64 (ofV17 xs s), .int .i64 (ofE17 xs s)]) ∧ ∃ m, w' = W.drewN m) := Lib.hid fun W h => rof17_any a cap xs s W h HN.out
  have HSF : Hid (∀ W, Ints W.heap.size W a xs → Calls Try.prog 10 #[.slice a xs.length cap, .int .i64 g] W fun e w' => e = .returned (.tuple #[.int .i64 (spanLo xs g), .int .i64 (spanHi xs g), .int .i64 (spanE xs g)]) ∧ Below W.heap.size W w') := Lib.hid fun W h => Q.span a cap xs g W hcap h HN.out hwg
  have HSR : Hid (∀ W, Ints W.heap.size W a xs → Calls Try.prog 11 #[.slice a xs.length cap, .int .i64 g] W fun e w' => e = .returned (.tuple #[.int .i64 (spanLo xs g), .int .i64 (spanHi xs g), .int .i64 (spanE xs g)]) ∧ ∃ m, w' = W.drewN m) := Lib.hid fun W h => rspan17_any a cap xs g W h HN.out
  have HCF : Hid (∀ W, Ints W.heap.size W a xs → Calls Try.prog 12 #[.slice a xs.length cap] W fun e w' => e = .returned (.int .i64 (cutsE xs)) ∧ Below W.heap.size W w') := Lib.hid fun W h => Q.check a cap xs W hcap h HN.out
  have HCR : Hid (∀ W, Ints W.heap.size W a xs → Calls Try.prog 13 #[.slice a xs.length cap] W fun e w' => e = .returned (.int .i64 (cutsE xs)) ∧ ∃ m, w' = W.drewN m) := Lib.hid fun W h => rcheck17_any a cap xs _ W h HN.out
  have HAW : Hid (∀ W, Calls Try.prog 7 #[] W fun e w' => e = .returned (.bool true) ∧ Below W.heap.size W w') := Lib.hid fun W => awake17 Q W
  clear hx hcap hwf hwg h1 Q
  generalize ofV17 xs s = x1 at *
  generalize ofE17 xs s = x2 at *
  generalize spanLo xs g = x3 at *
  generalize spanHi xs g = x4 at *
  generalize spanE xs g = x5 at *
  generalize cutsE xs = x6 at *
  go_enter Try.func3, Try.ntmps3
  go_wp2_with (first
    | (go_at_call 8; refine (HOF.out _ A0.out.one).mono ?_; rintro e w1 ⟨rfl, hb⟩; have A1 := Lib.hid (A0.out.step hb); clear hb A0)
    | (go_at_call 9; refine (HOR.out _ A1.out.one).mono ?_; rintro e w2 ⟨rfl, m2, rfl⟩; have A2 := Lib.hid (A1.out.step (drawn17 _ m2)); clear A1)
    | (go_at_call 10; refine (HSF.out _ A2.out.one).mono ?_; rintro e w3 ⟨rfl, hb⟩; have A3 := Lib.hid (A2.out.step hb); clear hb A2)
    | (go_at_call 11; refine (HSR.out _ A3.out.one).mono ?_; rintro e w4 ⟨rfl, m4, rfl⟩; have A4 := Lib.hid (A3.out.step (drawn17 _ m4)); clear A3)
    | (go_at_call 12; refine (HCF.out _ A4.out.one).mono ?_; rintro e w5 ⟨rfl, hb⟩; have A5 := Lib.hid (A4.out.step hb); clear hb A4)
    | (go_at_call 13; refine (HCR.out _ A5.out.one).mono ?_; rintro e w6 ⟨rfl, m6, rfl⟩; have A6 := Lib.hid (A5.out.step (drawn17 _ m6)); clear A5)
    | (go_at_call 7; refine (HAW.out _).mono ?_; rintro e w7 ⟨rfl, hb⟩; have A7 := Lib.hid (A6.out.step hb); clear hb A6))
  go_ret
  exact ⟨by simp, A7.out.below⟩
theorem four_bools17 {w : World} {g : Nat} {t : TypeId} {a b c d : Bool} (h : w.heap[g]? = some (.cells #[.bool a, .bool b, .bool c, .bool d] t (0, 0))) {k : Nat} (hk : k < 4) : w.cell? ⟨g, k, none⟩ = some (.bool (if k = 0 then a else if k = 1 then b else if k = 2 then c else d)) := by
  match k, hk with
  | 0, _ => exact cell_of (j := 0) h rfl
  | 1, _ => exact cell_of (j := 1) h rfl
  | 2, _ => exact cell_of (j := 2) h rfl
  | 3, _ => exact cell_of (j := 3) h rfl
theorem four_nums17 {w : World} {g : Nat} {t : TypeId} {a b c d : Int} (h : w.heap[g]? = some (.cells #[.int .i64 a, .int .i64 b, .int .i64 c, .int .i64 d] t (0, 0))) {k : Nat} (hk : k < 4) : w.cell? ⟨g, k, none⟩ = some (.int .i64 (if k = 0 then a else if k = 1 then b else if k = 2 then c else d)) := by
  match k, hk with
  | 0, _ => exact cell_of (j := 0) h rfl
  | 1, _ => exact cell_of (j := 1) h rfl
  | 2, _ => exact cell_of (j := 2) h rfl
  | 3, _ => exact cell_of (j := 3) h rfl
set_option maxRecDepth 100000 in
set_option maxHeartbeats 4000000 in
theorem gradeCounts_from (Q : Grade17S) (w : World) (a : Option Addr) (cap : Nat) (ks : List Int) (_ : ks.length ≤ maxLen) (hx : Ints w.heap.size w a ks) (hcap : ks.length ≤ cap)
    (b : Option Addr) (cap' : Nat) (xs : List Int) (_ : xs.length ≤ maxLen) (hf : Ints w.heap.size w b xs) (hcap' : xs.length ≤ cap') :
    Calls Try.prog 4 #[.slice a ks.length cap, .slice b xs.length cap'] w fun e w' => e = .returned (.bool true) ∧ Below w.heap.size w w' := by
  by_cases h1 : 100 < ks.length
  · have e1 : decide (100 < (ks.length : Int)) = true := decide_eq_true (by omega)
    have e1' : decide (100 < ks.length) = true := decide_eq_true h1
    have hA := awake17 Q w
    clear h1 hx hf hcap hcap' Q
    go_enter Try.func4, Try.ntmps4
    go_wp2_with (go_at_call 7; refine hA.mono ?_; rintro e w2 ⟨rfl, hb⟩; have HB := Lib.hid hb; clear hb)
    go_ret
    exact ⟨rfl, HB.out⟩
  have e1 : decide (100 < (ks.length : Int)) = false := decide_eq_false (by omega)
  have e1' : decide (100 < ks.length) = false := decide_eq_false h1
  by_cases h2 : 100 < xs.length
  · have e2 : decide (100 < (xs.length : Int)) = true := decide_eq_true (by omega)
    have e2' : decide (100 < xs.length) = true := decide_eq_true h2
    have hA := awake17 Q w
    clear h1 h2 hx hf hcap hcap' Q
    go_enter Try.func4, Try.ntmps4
    go_wp2_with (go_at_call 7; refine hA.mono ?_; rintro e w2 ⟨rfl, hb⟩; have HB := Lib.hid hb; clear hb)
    go_ret
    exact ⟨rfl, HB.out⟩
  have e2 : decide (100 < (xs.length : Int)) = false := decide_eq_false (by omega)
  have e2' : decide (100 < xs.length) = false := decide_eq_false h2
  have A0 : Hid (At17 w w a ks b xs) := Lib.hid ⟨Below.refl _ _, hx, hf⟩
  have HN : Hid (ks.length ≤ 1000000 ∧ xs.length ≤ 1000000) := Lib.hid (by omega)
  have HCF : Hid (∀ W, At17 w W a ks b xs → Calls Try.prog 14 #[.slice a ks.length cap, .slice b xs.length cap'] W fun e w' => e = .returned (.tuple #[.agg #[.int .i64 (cntV ks xs 0), .int .i64 (cntV ks xs 1), .int .i64 (cntV ks xs 2), .int .i64 (cntV ks xs 3)], .int .i64 (cntE ks xs)]) ∧ Below W.heap.size W w') := Lib.hid fun W h => Q.count a cap ks b cap' xs W hcap h.one HN.out.1 hcap' h.two HN.out.2
  have HCR : Hid (∀ W, At17 w W a ks b xs → Calls Try.prog 15 #[.slice a ks.length cap, .slice b xs.length cap'] W fun e w' => e = .returned (.tuple #[.agg #[.int .i64 (cntV ks xs 0), .int .i64 (cntV ks xs 1), .int .i64 (cntV ks xs 2), .int .i64 (cntV ks xs 3)], .int .i64 (cntE ks xs)]) ∧ Below W.heap.size W w') := Lib.hid fun W h => rcount17_any a cap ks b cap' xs W h.one HN.out.1 h.two HN.out.2
  have HRF : Hid (∀ W, At17 w W a ks b xs → Calls Try.prog 16 #[.slice a ks.length cap, .slice b xs.length cap'] W fun e w' => e = .returned (.tuple #[.agg #[.bool (decide (0 < cntV ks xs 0)), .bool (decide (0 < cntV ks xs 1)), .bool (decide (0 < cntV ks xs 2)), .bool (decide (0 < cntV ks xs 3))], .int .i64 (cntE ks xs)]) ∧ Below W.heap.size W w') := Lib.hid fun W h => Q.reached a cap ks b cap' xs W hcap h.one HN.out.1 hcap' h.two HN.out.2
  have HAW : Hid (∀ W, Calls Try.prog 7 #[] W fun e w' => e = .returned (.bool true) ∧ Below W.heap.size W w') := Lib.hid fun W => awake17 Q W
  clear hx hf hcap hcap' h1 h2 Q
  generalize cntV ks xs 0 = x0 at *
  generalize cntV ks xs 1 = x1 at *
  generalize cntV ks xs 2 = x2 at *
  generalize cntV ks xs 3 = x3 at *
  generalize cntE ks xs = E at *
  obtain ⟨y0, hy0⟩ : ∃ y, decide (0 < x0) = y := ⟨_, rfl⟩
  obtain ⟨y1, hy1⟩ : ∃ y, decide (0 < x1) = y := ⟨_, rfl⟩
  obtain ⟨y2, hy2⟩ : ∃ y, decide (0 < x2) = y := ⟨_, rfl⟩
  obtain ⟨y3, hy3⟩ : ∃ y, decide (0 < x3) = y := ⟨_, rfl⟩
  rw [hy0, hy1, hy2, hy3] at HRF
  have HY := Lib.hid (And.intro hy0 (And.intro hy1 (And.intro hy2 hy3)))
  clear hy0 hy1 hy2 hy3
  go_enter Try.func4, Try.ntmps4
  go_upto_region 4 with (go_at_call 14; refine (HCF.out _ A0.out).mono ?_; rintro e w1 ⟨rfl, hb⟩; have A1 := Lib.hid ((A0.out.step hb).step (lit16 _ (.cells #[.int .i64 x0, .int .i64 x1, .int .i64 x2, .int .i64 x3] 36))); clear hb A0)
  have hn := heap_alloc_new w1 (.cells #[.int .i64 x0, .int .i64 x1, .int .i64 x2, .int .i64 x3] 36)
  obtain ⟨W1, hW⟩ : ∃ W, W = w1.alloc (.cells #[.int .i64 x0, .int .i64 x1, .int .i64 x2, .int .i64 x3] 36) := ⟨_, rfl⟩
  rw [← hW] at hn A1 ⊢
  clear hW
  generalize w1.heap.size = g1 at *
  have N1 := Lib.hid hn
  clear hn
  go_upto_region 5 with (go_at_call 15; refine (HCR.out _ A1.out).mono ?_; rintro e w2 ⟨rfl, hb⟩; have A2 := Lib.hid ((A1.out.step hb).step (lit16 _ (.cells #[.int .i64 x0, .int .i64 x1, .int .i64 x2, .int .i64 x3] 36))); have N2 := Lib.hid (kept17 (kept17 N1.out hb) (lit16 _ (.cells #[.int .i64 x0, .int .i64 x1, .int .i64 x2, .int .i64 x3] 36))); clear hb A1 N1)
  have hn := heap_alloc_new w2 (.cells #[.int .i64 x0, .int .i64 x1, .int .i64 x2, .int .i64 x3] 36)
  obtain ⟨W2, hW⟩ : ∃ W, W = w2.alloc (.cells #[.int .i64 x0, .int .i64 x1, .int .i64 x2, .int .i64 x3] 36) := ⟨_, rfl⟩
  rw [← hW] at hn A2 N2 ⊢
  clear hW
  generalize w2.heap.size = g2 at *
  have M2 := Lib.hid hn
  clear hn
  go_upto_region 6 with (go_at_call 16; refine (HRF.out _ A2.out).mono ?_; rintro e w3 ⟨rfl, hb⟩; have A3 := Lib.hid ((A2.out.step hb).step (lit16 _ (.cells #[.bool y0, .bool y1, .bool y2, .bool y3] 41))); have N3 := Lib.hid (kept17 (kept17 N2.out hb) (lit16 _ (.cells #[.bool y0, .bool y1, .bool y2, .bool y3] 41))); have M3 := Lib.hid (kept17 (kept17 M2.out hb) (lit16 _ (.cells #[.bool y0, .bool y1, .bool y2, .bool y3] 41))); clear hb A2 N2 M2)
  have hn := heap_alloc_new w3 (.cells #[.bool y0, .bool y1, .bool y2, .bool y3] 41)
  obtain ⟨W3, hW⟩ : ∃ W, W = w3.alloc (.cells #[.bool y0, .bool y1, .bool y2, .bool y3] 41) := ⟨_, rfl⟩
  rw [← hW] at hn A3 N3 M3 ⊢
  clear hW
  generalize w3.heap.size = g3 at *
  have L3 := Lib.hid hn
  clear hn
  go_wp2
  go_loopw [11] (fun i wr => ∃ k m : Nat, i = .int .i64 k ∧ wr = W3.drewN m ∧ k ≤ 4) (fun i _ => 4 - (intOf i).toNat)
  case atStart => exact ⟨0, 0, rfl, rfl, by omega⟩
  case round =>
    obtain ⟨k, m, rfl, rfl, hk⟩ := hrel
    by_cases hlt : k < 4
    · have i0 : decide ((k : Int) < 4) = true := decide_eq_true (by omega)
      have i1 : (k : Int) < 4 := by omega
      have i3 : (0 : Int) ≤ (k : Int) := by omega
      have cn := four_nums17 M3.out hlt
      have cb := four_bools17 L3.out hlt
      have hyk : decide (0 < (if k = 0 then x0 else if k = 1 then x1 else if k = 2 then x2 else x3)) = (if k = 0 then y0 else if k = 1 then y1 else if k = 2 then y2 else y3) := by
        obtain ⟨h0, h1, h2, h3⟩ := HY.out
        rcases (by omega : k = 0 ∨ k = 1 ∨ k = 2 ∨ k = 3) with rfl | rfl | rfl | rfl <;> simp [h0, h1, h2, h3]
      generalize (if k = 0 then x0 else if k = 1 then x1 else if k = 2 then x2 else x3) = X at *
      generalize (if k = 0 then y0 else if k = 1 then y1 else if k = 2 then y2 else y3) = Y at *
      have hk1 : k + 1 ≤ 4 := hlt
      clear hlt
      go_upto_region 9 with fail
      go_quiet (fail)
      go_wp2
      go_roundw
      case rel => exact ⟨k + 1, _, by go_num, by first | rfl | exact drew_more16 _ _ _, hk1⟩
      case measure => simp [intOf]; omega
    · obtain rfl : k = 4 := by omega
      have n3 := N3.out
      have m3 := M3.out
      have c0 : (W3.drewN m).cell? ⟨g1, 0, none⟩ = some (.int .i64 x0) := cell_of (j := 0) (w := W3.drewN m) n3 rfl
      have c1 : (W3.drewN m).cell? ⟨g1, 1, none⟩ = some (.int .i64 x1) := cell_of (j := 1) (w := W3.drewN m) n3 rfl
      have c2 : (W3.drewN m).cell? ⟨g1, 2, none⟩ = some (.int .i64 x2) := cell_of (j := 2) (w := W3.drewN m) n3 rfl
      have c3 : (W3.drewN m).cell? ⟨g1, 3, none⟩ = some (.int .i64 x3) := cell_of (j := 3) (w := W3.drewN m) n3 rfl
      have d0 : (W3.drewN m).cell? ⟨g2, 0, none⟩ = some (.int .i64 x0) := cell_of (j := 0) (w := W3.drewN m) m3 rfl
      have d1 : (W3.drewN m).cell? ⟨g2, 1, none⟩ = some (.int .i64 x1) := cell_of (j := 1) (w := W3.drewN m) m3 rfl
      have d2 : (W3.drewN m).cell? ⟨g2, 2, none⟩ = some (.int .i64 x2) := cell_of (j := 2) (w := W3.drewN m) m3 rfl
      have d3 : (W3.drewN m).cell? ⟨g2, 3, none⟩ = some (.int .i64 x3) := cell_of (j := 3) (w := W3.drewN m) m3 rfl
      have A4 := Lib.hid (A3.out.step (drawn17 W3 m))
      clear n3 m3 A3 N3 M3 L3
      obtain ⟨V, hV⟩ : ∃ V, V = W3.drewN m := ⟨_, rfl⟩
      rw [← hV] at c0 c1 c2 c3 d0 d1 d2 d3 A4 ⊢
      clear hV
      have E1 : ∀ w, (Op.equalIn 10000 36 (.agg #[.int .i64 x0, .int .i64 x1, .int .i64 x2, .int .i64 x3]) (.agg #[.int .i64 x0, .int .i64 x1, .int .i64 x2, .int .i64 x3])).run Try.prog w = .ok true w := fun w => by
        rw [same_four17]; simp
      go_wp2_with (go_at_call 7; refine (HAW.out _).mono ?_; rintro e w7 ⟨rfl, hb⟩; have A7 := Lib.hid (A4.out.step hb); clear hb A4)
      go_ret
      exact ⟨by simp, A7.out.below⟩
end Go.Proofs.Yteeaaibcdbfmfaa
