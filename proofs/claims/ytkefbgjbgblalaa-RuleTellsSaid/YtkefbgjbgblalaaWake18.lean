/- The probes of layer 18's laws come out true, from what is wanted of rule's functions. -/
import Derived.Test.YtkefbgjbgblalaaRefD18
namespace Go.Proofs.Ytkefbgjbgblalaa
open Go.RowKit

theorem Elt.cells_split18 {α : Type} (E : Elt α) (l : List α) (k : Nat) : (E.cells l).take (k * E.k) = E.cells (l.take k) ∧ (E.cells l).drop (k * E.k) = E.cells (l.drop k) := by
  have h : E.cells l = E.cells (l.take k) ++ E.cells (l.drop k) := by rw [← E.cells_append, List.take_append_drop]
  by_cases hk : k ≤ l.length
  · have hl : (E.cells (l.take k)).length = k * E.k := by rw [E.cells_len, List.length_take, Nat.min_eq_left hk]
    rw [h]
    exact ⟨List.take_left' hl, List.drop_left' hl⟩
  · have h1 : l.take k = l := List.take_of_length_le (by omega)
    have h2 : l.drop k = [] := List.drop_eq_nil_of_le (by omega)
    have h3 : (E.cells l).length ≤ k * E.k := by rw [E.cells_len]; exact Nat.mul_le_mul_right _ (by omega)
    rw [h1, h2]
    exact ⟨List.take_of_length_le h3, List.drop_eq_nil_of_le h3⟩
theorem rows_take18 {A B : Nat} {w : World} {a : Option Addr} {l : List Row18} (h : Els rowElt A B w a l) (k : Nat) : Els rowElt A B w a (l.take k) := by
  unfold Els at h ⊢
  rw [← (rowElt.cells_split18 l k).1]
  exact h.take _
abbrev twoRows : List Row18 := [⟨15, 3, 0, 99, 5⟩, ⟨15, 3, 0, 1000000000000, 1⟩]
theorem two_at18 {B : Nat} {w : World} {a : Option Addr} (h : RowsIn B w a twoRows) : ∃ b off, a = some ⟨b, off, none⟩ ∧ w.cell? ⟨b, off, none⟩ = some (.int .i64 15) ∧ w.cell? ⟨b, off + 1, none⟩ = some (.int .i64 3) ∧ w.cell? ⟨b, off + 2, none⟩ = some (.int .i64 0) ∧ w.cell? ⟨b, off + 3, none⟩ = some (.int .i64 99) ∧ w.cell? ⟨b, off + 4, none⟩ = some (.int .i64 5) := by
  obtain ⟨b, off, ha, _, c0, c1, c2, c3, c4⟩ := rows_at18 h (i := 0) (by decide)
  rw [Nat.zero_mul, Nat.add_zero] at c0 c1 c2 c3 c4
  exact ⟨b, off, ha, c0, c1, c2, c3, c4⟩
theorem dec_lit18 (H : Rule18) (l : List Row18) (n c : Nat) (f : Fact18) (x y E : Int) (hn : l.length = n) (hc : n ≤ c) (hs : n ≤ 100) (h1 : decWay l f = x) (h2 : decAt l f = y) (h3 : decE l f = E) (W : World) (a : Option Addr) (h : RowsIn W.heap.size W a l) :
    Calls Try.prog 15 #[.slice a n c, factVal f] W fun e w' => e = .returned (.tuple #[.int .i64 x, .int .i64 y, .int .i64 E]) ∧ Below W.heap.size W w' := by
  rw [← h1, ← h2, ← h3]
  subst hn
  exact H.decide a c l f W hc h (by omega)
set_option maxRecDepth 100000 in
set_option maxHeartbeats 4000000 in
theorem awake18 (H : Rule18) (w : World) : Calls Try.prog 14 #[] w fun e w' => e = .returned (.bool true) ∧ Below w.heap.size w w' := by
  have S1 := Lib.hid (dec_lit18 H twoRows 2 2 ⟨3, false, 100⟩ 1 1 0 rfl (by decide) (by decide) (by decide +kernel) (by decide +kernel) (by decide +kernel))
  have S2 := Lib.hid (dec_lit18 H twoRows 2 2 ⟨0, true, 99⟩ 5 0 0 rfl (by decide) (by decide) (by decide +kernel) (by decide +kernel) (by decide +kernel))
  have S3 := Lib.hid (dec_lit18 H (twoRows.take 1) 1 2 ⟨0, false, 100⟩ 0 0 36 rfl (by decide) (by decide) (by decide +kernel) (by decide +kernel) (by decide +kernel))
  have S4 := Lib.hid (dec_lit18 H twoRows 2 2 ⟨4, false, 0⟩ 0 0 2 rfl (by decide) (by decide) (by decide +kernel) (by decide +kernel) (by decide +kernel))
  have S5 : Hid (∀ W : World, Calls Try.prog 12 #[rowVal ⟨15, 3, 0, 99, 5⟩, factVal ⟨0, false, 99⟩] W fun e w' => e = .returned (.bool true) ∧ Below W.heap.size W w') := Lib.hid fun W => by
    have := H.fits ⟨15, 3, 0, 99, 5⟩ ⟨0, false, 99⟩ W
    rw [show matchB ⟨15, 3, 0, 99, 5⟩ ⟨0, false, 99⟩ = true from by decide +kernel] at this
    exact this
  have S6 : Hid (∀ (W : World) (a : Option Addr), RowsIn W.heap.size W a twoRows → Calls Try.prog 20 #[.slice a 2 2, factVal ⟨0, false, 0⟩] W fun e w' => ∃ b c, e = .returned (.slice b 2 c) ∧ Ints w'.heap.size w' b [0, 1] ∧ Below W.heap.size W w') := Lib.hid fun W a h => by
    refine (H.all a 2 twoRows ⟨0, false, 0⟩ W (by decide) h (by decide)).mono ?_
    rintro e w' ⟨b, c, h1, h2, h3, h4⟩
    rw [show fitsV twoRows ⟨0, false, 0⟩ = [0, 1] from by decide +kernel] at *
    exact ⟨b, c, h1, h3, h4⟩
  have S7 : Hid (∀ (W : World) (a : Option Addr) (c : Nat), Ints W.heap.size W a [0, 1] → Calls Try.prog 19 #[.slice a 2 c, .slice (some ⟨W.heap.size, 0, none⟩) 2 2] (W.alloc (.cells #[.int .i64 0, .int .i64 1] 3)) fun e w' => e = .returned (.bool true) ∧ Below W.heap.size W w') := Lib.hid fun W a c hT => by
    refine (same_any a (some ⟨W.heap.size, 0, none⟩) c 2 [0, 1] [0, 1] _ (by decide) (hT.lit _) (lit_two W 0 1 _)).mono ?_
    rintro e w' ⟨rfl, hb⟩
    exact ⟨rfl, (lit16 W _).trans (hb.mono (lit16 W _).size)⟩
  have S8 : Hid (∀ W : World, Calls Try.prog 17 #[.slice none 0 0] W fun e w' => e = .returned (.int .i64 36) ∧ Below W.heap.size W w') := Lib.hid fun W => by
    have := H.check none 0 [] W (Nat.le_refl _) (Or.inl rfl) (by decide)
    rw [show tabE [] = 36 from by decide] at this
    exact this
  have S9 : Hid (∀ W : World, Calls Try.prog 7 #[rowVal ⟨15, 3, 0, 99, 5⟩] W fun e w' => e = .returned (.int .i64 0) ∧ Below W.heap.size W w') := Lib.hid fun W => by
    have := H.row ⟨15, 3, 0, 99, 5⟩ W
    rw [show rowE ⟨15, 3, 0, 99, 5⟩ = 0 from by decide +kernel] at this
    exact this
  have S10 : Hid (∀ W : World, Calls Try.prog 9 #[factVal ⟨0, false, 0⟩] W fun e w' => e = .returned (.int .i64 0) ∧ Below W.heap.size W w') := Lib.hid fun W => by
    have := H.fact ⟨0, false, 0⟩ W
    rw [show factE ⟨0, false, 0⟩ = 0 from by decide +kernel] at this
    exact this
  clear H
  go_enter Try.func14, Try.ntmps14
  go_upto_region 2 with (first
    | (go_at_call 24; refine (two18_any _).mono ?_; rintro e w1 ⟨a1, rfl, hi, hb⟩; have I1 := Lib.hid hi; have B1 := Lib.hid hb; clear hi hb)
    | (go_at_call 15; refine (S1.out _ _ I1.out).mono ?_; rintro e w2 ⟨rfl, hb⟩; have B2 := Lib.hid (B1.out.trans (hb.mono B1.out.size)); clear hb B1 I1 S1))
  go_upto_region 3 with (first
    | (go_at_call 24; refine (two18_any _).mono ?_; rintro e w3 ⟨a3, rfl, hi, hb⟩; have I3 := Lib.hid hi; have B3 := Lib.hid (B2.out.trans (hb.mono B2.out.size)); clear hi hb B2)
    | (go_at_call 15; refine (S2.out _ _ I3.out).mono ?_; rintro e w4 ⟨rfl, hb⟩; have B4 := Lib.hid (B3.out.trans (hb.mono B3.out.size)); clear hb B3 I3 S2))
  go_upto_region 4 with (first
    | (go_at_call 24; refine (two18_any _).mono ?_; rintro e w5 ⟨a5, rfl, hi, hb⟩; have I5 := Lib.hid (rows_take18 hi 1); obtain ⟨b5, o5, rfl, _⟩ := two_at18 hi; have B5 := Lib.hid (B4.out.trans (hb.mono B4.out.size)); clear hi hb B4)
    | (go_at_call 15; refine (S3.out _ _ I5.out).mono ?_; rintro e w6 ⟨rfl, hb⟩; have B6 := Lib.hid (B5.out.trans (hb.mono B5.out.size)); clear hb B5 I5 S3))
  go_upto_region 5 with (first
    | (go_at_call 24; refine (two18_any _).mono ?_; rintro e w7 ⟨a7, rfl, hi, hb⟩; have I7 := Lib.hid hi; have B7 := Lib.hid (B6.out.trans (hb.mono B6.out.size)); clear hi hb B6)
    | (go_at_call 15; refine (S4.out _ _ I7.out).mono ?_; rintro e w8 ⟨rfl, hb⟩; have B8 := Lib.hid (B7.out.trans (hb.mono B7.out.size)); clear hb B7 I7 S4))
  go_wp2_with (first
    | (go_at_call 24; have _t := S5; refine (two18_any _).mono ?_; rintro e w9 ⟨a9, rfl, hi, hb⟩; obtain ⟨b9, o9, rfl, c0, c1, c2, c3, c4⟩ := two_at18 hi; have B9 := Lib.hid (B8.out.trans (hb.mono B8.out.size)); clear hi hb B8)
    | (go_at_call 12; refine (S5.out _).mono ?_; rintro e w10 ⟨rfl, hb⟩; have B10 := Lib.hid (B9.out.trans (hb.mono B9.out.size)); clear hb B9 S5 c0 c1 c2 c3 c4)
    | (go_at_call 24; have _t := S6; refine (two18_any _).mono ?_; rintro e w11 ⟨a11, rfl, hi, hb⟩; have I11 := Lib.hid hi; have B11 := Lib.hid (B10.out.trans (hb.mono B10.out.size)); clear hi hb B10)
    | (go_at_call 20; refine (S6.out _ _ I11.out).mono ?_; rintro e w12 ⟨a12, c12, rfl, hi, hb⟩; have I12 := Lib.hid hi; have B12 := Lib.hid (B11.out.trans (hb.mono B11.out.size)); clear hi hb B11 I11 S6)
    | (go_at_call 19; refine (S7.out _ _ _ I12.out).mono ?_; rintro e w13 ⟨rfl, hb⟩; have B13 := Lib.hid (B12.out.trans (hb.mono B12.out.size)); clear hb B12 I12 S7)
    | (go_at_call 17; refine (S8.out _).mono ?_; rintro e w14 ⟨rfl, hb⟩; have B14 := Lib.hid (B13.out.trans (hb.mono B13.out.size)); clear hb B13 S8)
    | (go_at_call 24; have _t := B14; refine (two18_any _).mono ?_; rintro e w15 ⟨a15, rfl, hi, hb⟩; obtain ⟨b15, o15, rfl, c0, c1, c2, c3, c4⟩ := two_at18 hi; have B15 := Lib.hid (B14.out.trans (hb.mono B14.out.size)); clear hi hb B14)
    | (go_at_call 7; refine (S9.out _).mono ?_; rintro e w16 ⟨rfl, hb⟩; have B16 := Lib.hid (B15.out.trans (hb.mono B15.out.size)); clear hb B15 S9 c0 c1 c2 c3 c4)
    | (go_at_call 9; refine (S10.out _).mono ?_; rintro e w17 ⟨rfl, hb⟩; have B17 := Lib.hid (B16.out.trans (hb.mono B16.out.size)); clear hb B16 S10))
  go_ret
  exact ⟨rfl, B17.out⟩
end Go.Proofs.Ytkefbgjbgblalaa
