/- The probes of layer 17's laws come out true, from what is wanted of grade's functions. -/
import Derived.Test.YteeaaibcdbfmfaaArr17
import Derived.Test.YteeaaibcdbfmfaaRefA17
namespace Go.Proofs.Yteeaaibcdbfmfaa
open Go.RowKit

/-- Two arrays of four numbers, compared. -/
theorem same_four17 (x y z u x' y' z' u' : Int) (w : World) : (Op.equalIn 10000 36 (.agg #[.int .i64 x, .int .i64 y, .int .i64 z, .int .i64 u]) (.agg #[.int .i64 x', .int .i64 y', .int .i64 z', .int .i64 u'])).run Try.prog w = .ok (x == x' && (y == y' && (z == z' && u == u'))) w := by
  have u3 := Try.underlying3
  have a3 := Try.isAgg3
  have z3 := Try.sizeOf3
  rw [show (10000 : Nat) = 9999 + 1 from rfl, Op.equalIn]
  simp only [Sem.run_bind, run_underlying Try.underlying36, Result.andThen_ok]
  simp only [Std.Legacy.Range.forIn_eq_forIn_range', Std.Legacy.Range.size, Nat.sub_zero, Nat.add_sub_cancel, Nat.div_one, List.range'_succ, List.range'_zero, List.forIn_cons, List.forIn_nil]
  go_simp
  by_cases h1 : x = x' <;> by_cases h2 : y = y' <;> by_cases h3 : z = z' <;> by_cases h4 : u = u' <;> simp [h1, h2, h3, h4]
theorem same_bools17 (w : World) : (Op.equalIn 10000 41 (.agg #[.bool true, .bool true, .bool true, .bool false]) (.agg #[.bool true, .bool true, .bool true, .bool false])).run Try.prog w = .ok true w := by
  have u3 := Try.underlying4
  have a3 := Try.isAgg4
  have z3 := Try.sizeOf4
  rw [show (10000 : Nat) = 9999 + 1 from rfl, Op.equalIn]
  simp only [Sem.run_bind, run_underlying Try.underlying41, Result.andThen_ok]
  simp only [Std.Legacy.Range.forIn_eq_forIn_range', Std.Legacy.Range.size, Nat.sub_zero, Nat.add_sub_cancel, Nat.div_one, List.range'_succ, List.range'_zero, List.forIn_cons, List.forIn_nil]
  go_simp
theorem of17_lit (Q : Grade17S) (m v E : Int) (hw : (Lit.int .i64 m).wf = true) (h1 : ofV17 [0, 5, 20] m = v) (h2 : ofE17 [0, 5, 20] m = E) (W : World) (a : Option Addr) (h : Ints W.heap.size W a [0, 5, 20]) :
    Calls Try.prog 8 #[.slice a 3 3, .int .i64 m] W fun e w' => e = .returned (.tuple #[.int .i64 v, .int .i64 E]) ∧ Below W.heap.size W w' := by
  rw [← h1, ← h2]
  exact Q.of a 3 [0, 5, 20] m W (Nat.le_refl _) h (by decide) hw
/-- What lies in a block stays there. -/
theorem kept17 {W W' : World} {g : Nat} {o : Obj} (h : W.heap[g]? = some o) (hb : Below W.heap.size W W') : W'.heap[g]? = some o := old_obj hb h
set_option maxRecDepth 100000 in
set_option maxHeartbeats 4000000 in
theorem awake17 (Q : Grade17S) (w : World) : Calls Try.prog 7 #[] w fun e w' => e = .returned (.bool true) ∧ Below w.heap.size w w' := by
  have S1 := Lib.hid (of17_lit Q 0 0 0 (by decide) (by decide) (by decide))
  have S2 := Lib.hid (of17_lit Q 6 2 0 (by decide) (by decide) (by decide))
  have S3 := Lib.hid (of17_lit Q 21 3 0 (by decide) (by decide) (by decide))
  have S4 := Lib.hid (of17_lit Q 8001 0 2 (by decide) (by decide) (by decide))
  have S5 : Hid (∀ (W : World) (a : Option Addr), Ints W.heap.size W a [0, 5, 20] → Calls Try.prog 10 #[.slice a 3 3, .int .i64 1] W fun e w' => e = .returned (.tuple #[.int .i64 1, .int .i64 5, .int .i64 0]) ∧ Below W.heap.size W w') := Lib.hid fun W a h => by
    refine (Q.span a 3 [0, 5, 20] 1 W (Nat.le_refl _) h (by decide) (by decide)).mono ?_
    rintro e w' ⟨rfl, hb⟩
    exact ⟨by rw [show spanLo [0, 5, 20] 1 = 1 from by decide, show spanHi [0, 5, 20] 1 = 5 from by decide, show spanE [0, 5, 20] 1 = 0 from by decide], hb⟩
  have S6 : Hid (∀ (W : World) (a b : Option Addr), Ints W.heap.size W a [5, 3] → Ints W.heap.size W b [0, 5, 20] → Calls Try.prog 14 #[.slice a 2 2, .slice b 3 3] W fun e w' => e = .returned (.tuple #[.agg #[.int .i64 1, .int .i64 2, .int .i64 1, .int .i64 0], .int .i64 0]) ∧ Below W.heap.size W w') := Lib.hid fun W a b h h2 => by
    refine (Q.count a 2 [5, 3] b 3 [0, 5, 20] W (Nat.le_refl _) h (by decide) (Nat.le_refl _) h2 (by decide)).mono ?_
    rintro e w' ⟨rfl, hb⟩
    exact ⟨by rw [show cntV [5, 3] [0, 5, 20] 0 = 1 from by decide, show cntV [5, 3] [0, 5, 20] 1 = 2 from by decide, show cntV [5, 3] [0, 5, 20] 2 = 1 from by decide, show cntV [5, 3] [0, 5, 20] 3 = 0 from by decide, show cntE [5, 3] [0, 5, 20] = 0 from by decide], hb⟩
  have S7 : Hid (∀ (W : World) (a b : Option Addr), Ints W.heap.size W a [5, 3] → Ints W.heap.size W b [0, 5, 20] → Calls Try.prog 16 #[.slice a 2 2, .slice b 3 3] W fun e w' => e = .returned (.tuple #[.agg #[.bool true, .bool true, .bool true, .bool false], .int .i64 0]) ∧ Below W.heap.size W w') := Lib.hid fun W a b h h2 => by
    refine (Q.reached a 2 [5, 3] b 3 [0, 5, 20] W (Nat.le_refl _) h (by decide) (Nat.le_refl _) h2 (by decide)).mono ?_
    rintro e w' ⟨rfl, hb⟩
    exact ⟨by rw [show cntV [5, 3] [0, 5, 20] 0 = 1 from by decide, show cntV [5, 3] [0, 5, 20] 1 = 2 from by decide, show cntV [5, 3] [0, 5, 20] 2 = 1 from by decide, show cntV [5, 3] [0, 5, 20] 3 = 0 from by decide, show cntE [5, 3] [0, 5, 20] = 0 from by decide]; rfl, hb⟩
  have S8 : Hid (∀ W : World, Calls Try.prog 12 #[.slice none 0 0] W fun e w' => e = .returned (.int .i64 36) ∧ Below W.heap.size W w') := Lib.hid fun W => by
    refine (Q.check none 0 [] W (Nat.le_refl _) (Or.inl rfl) (by decide)).mono ?_
    rintro e w' ⟨rfl, hb⟩
    exact ⟨by rw [show cutsE [] = 36 from by decide], hb⟩
  clear Q
  go_enter Try.func7, Try.ntmps7
  go_upto_region 2 with (first
    | (go_at_call 18; refine (cuts17_any _).mono ?_; rintro e w1 ⟨a1, rfl, hi, hb⟩; have I1 := Lib.hid hi; have B1 := Lib.hid hb; clear hi hb)
    | (go_at_call 8; refine (S1.out _ _ I1.out).mono ?_; rintro e w2 ⟨rfl, hb⟩; have B2 := Lib.hid (B1.out.trans (hb.mono B1.out.size)); clear hb B1 I1 S1))
  go_upto_region 3 with (first
    | (go_at_call 18; refine (cuts17_any _).mono ?_; rintro e w3 ⟨a3, rfl, hi, hb⟩; have I3 := Lib.hid hi; have B3 := Lib.hid (B2.out.trans (hb.mono B2.out.size)); clear hi hb B2)
    | (go_at_call 8; refine (S2.out _ _ I3.out).mono ?_; rintro e w4 ⟨rfl, hb⟩; have B4 := Lib.hid (B3.out.trans (hb.mono B3.out.size)); clear hb B3 I3 S2))
  go_upto_region 4 with (first
    | (go_at_call 18; refine (cuts17_any _).mono ?_; rintro e w5 ⟨a5, rfl, hi, hb⟩; have I5 := Lib.hid hi; have B5 := Lib.hid (B4.out.trans (hb.mono B4.out.size)); clear hi hb B4)
    | (go_at_call 8; refine (S3.out _ _ I5.out).mono ?_; rintro e w6 ⟨rfl, hb⟩; have B6 := Lib.hid (B5.out.trans (hb.mono B5.out.size)); clear hb B5 I5 S3))
  go_upto_region 5 with (first
    | (go_at_call 18; refine (cuts17_any _).mono ?_; rintro e w7 ⟨a7, rfl, hi, hb⟩; have I7 := Lib.hid hi; have B7 := Lib.hid (B6.out.trans (hb.mono B6.out.size)); clear hi hb B6)
    | (go_at_call 8; refine (S4.out _ _ I7.out).mono ?_; rintro e w8 ⟨rfl, hb⟩; have B8 := Lib.hid (B7.out.trans (hb.mono B7.out.size)); clear hb B7 I7 S4))
  go_upto_region 6 with (first
    | (go_at_call 18; refine (cuts17_any _).mono ?_; rintro e w9 ⟨a9, rfl, hi, hb⟩; have I9 := Lib.hid hi; have B9 := Lib.hid (B8.out.trans (hb.mono B8.out.size)); clear hi hb B8)
    | (go_at_call 10; refine (S5.out _ _ I9.out).mono ?_; rintro e w10 ⟨rfl, hb⟩; have B10 := Lib.hid (B9.out.trans (hb.mono B9.out.size)); clear hb B9 I9 S5))
  have L10 := Lib.hid (lit_two w10 5 3 3)
  have C10 := Lib.hid (B10.out.trans ((lit16 w10 (.cells #[.int .i64 5, .int .i64 3] 3)).mono B10.out.size))
  go_upto_region 7 with (first
    | (go_at_call 18; refine (cuts17_any _).mono ?_; rintro e w11 ⟨a11, rfl, hi, hb⟩; have I11 := Lib.hid hi; have L11 := Lib.hid (L10.out.step hb); have B11 := Lib.hid (C10.out.trans (hb.mono C10.out.size)); clear hi hb B10 C10 L10)
    | (go_at_call 14; refine (S6.out _ _ _ L11.out I11.out).mono ?_; rintro e w12 ⟨rfl, hb⟩; have B12 := Lib.hid (B11.out.trans (hb.mono B11.out.size)); clear hb B11 I11 L11 S6))
  have hn := heap_alloc_new w12 (.cells (four17 1 2 1 0) 36)
  have hb13 := B12.out.alloc B12.out.size (.cells (four17 1 2 1 0) 36)
  unfold four17 at hn hb13
  obtain ⟨W, hW⟩ : ∃ W, W = w12.alloc (.cells #[.int .i64 1, .int .i64 2, .int .i64 1, .int .i64 0] 36) := ⟨_, rfl⟩
  rw [← hW] at hn hb13 ⊢
  clear hW B12
  generalize w12.heap.size = g at *
  have HN := Lib.hid hn
  have B13 := Lib.hid hb13
  clear hn hb13
  have L13 := Lib.hid (lit_two W 5 3 3)
  have N13 := Lib.hid (kept17 HN.out (lit16 W (.cells #[.int .i64 5, .int .i64 3] 3)))
  have C13 := Lib.hid (B13.out.trans ((lit16 W (.cells #[.int .i64 5, .int .i64 3] 3)).mono B13.out.size))
  go_upto_region 8 with (first
    | (go_at_call 18; refine (cuts17_any _).mono ?_; rintro e w14 ⟨a14, rfl, hi, hb⟩; have I14 := Lib.hid hi; have L14 := Lib.hid (L13.out.step hb); have N14 := Lib.hid (kept17 N13.out hb); have B14 := Lib.hid (C13.out.trans (hb.mono C13.out.size)); clear hi hb B13 C13 L13 N13)
    | (go_at_call 16; refine (S7.out _ _ _ L14.out I14.out).mono ?_; rintro e w15 ⟨rfl, hb⟩; have N15 := Lib.hid (kept17 N14.out hb); have B15 := Lib.hid (B14.out.trans (hb.mono B14.out.size)); clear hb B14 I14 L14 N14 S7))
  have hn := kept17 N15.out (lit16 w15 (.cells #[.bool true, .bool true, .bool true, .bool false] 41))
  have hm := heap_alloc_new w15 (.cells #[.bool true, .bool true, .bool true, .bool false] 41)
  have hb16 := B15.out.alloc B15.out.size (.cells #[.bool true, .bool true, .bool true, .bool false] 41)
  obtain ⟨V, hV⟩ : ∃ V, V = w15.alloc (.cells #[.bool true, .bool true, .bool true, .bool false] 41) := ⟨_, rfl⟩
  rw [← hV] at hn hm hb16 ⊢
  clear hV B15 N15 HN
  generalize w15.heap.size = g2 at *
  have c0 : V.cell? ⟨g, 0, none⟩ = some (.int .i64 1) := cell_of (j := 0) hn rfl
  have c1 : V.cell? ⟨g, 1, none⟩ = some (.int .i64 2) := cell_of (j := 1) hn rfl
  have c2 : V.cell? ⟨g, 2, none⟩ = some (.int .i64 1) := cell_of (j := 2) hn rfl
  have c3 : V.cell? ⟨g, 3, none⟩ = some (.int .i64 0) := cell_of (j := 3) hn rfl
  have d0 : V.cell? ⟨g2, 0, none⟩ = some (.bool true) := cell_of (j := 0) hm rfl
  have d1 : V.cell? ⟨g2, 1, none⟩ = some (.bool true) := cell_of (j := 1) hm rfl
  have d2 : V.cell? ⟨g2, 2, none⟩ = some (.bool true) := cell_of (j := 2) hm rfl
  have d3 : V.cell? ⟨g2, 3, none⟩ = some (.bool false) := cell_of (j := 3) hm rfl
  have E1 : ∀ w, (Op.equalIn 10000 36 (.agg #[.int .i64 1, .int .i64 2, .int .i64 1, .int .i64 0]) (.agg #[.int .i64 1, .int .i64 2, .int .i64 1, .int .i64 0])).run Try.prog w = .ok true w := fun w => by
    rw [same_four17]; simp
  have E2 := same_bools17
  have B16 := Lib.hid hb16
  clear hn hm hb16
  go_wp2_with (go_at_call 12; refine (S8.out _).mono ?_; rintro e w17 ⟨rfl, hb⟩; have B17 := Lib.hid (B16.out.trans (hb.mono B16.out.size)); clear hb S8 B16)
  go_ret
  exact ⟨rfl, B17.out⟩
end Go.Proofs.Yteeaaibcdbfmfaa
