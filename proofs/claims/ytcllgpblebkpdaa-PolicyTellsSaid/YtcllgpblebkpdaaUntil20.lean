/- The walks of PolicyTimes and PolicyUntil, from what is wanted of policy's functions. -/
import Derived.Test.YtcllgpblebkpdaaWake20
namespace Go.Proofs.Ytcllgpblebkpdaa
open Go.RowKit

set_option maxRecDepth 100000 in
set_option maxHeartbeats 8000000 in
theorem policyUntil_from (H : Policy20) (w : World) (i : Item20) (a n : Int) (ha : (Lit.int .i64 a).wf = true) (hn : (Lit.int .i64 n).wf = true) :
    Calls Try.prog 5 #[itemVal i, .int .i64 a, .int .i64 n] w fun e w' => e = .returned (.bool true) ∧ Below w.heap.size w w' := by
  obtain ⟨W0, hW0⟩ : ∃ W, W = w.alloc (.cells #[.int .i64 i.id, .int .i64 i.ven, .int .i64 i.win, .int .i64 i.war] 23) := ⟨_, rfl⟩
  have hb0 : Below w.heap.size w W0 := by rw [hW0]; exact box20 w _
  have h0 := heap_alloc_new w (.cells #[.int .i64 i.id, .int .i64 i.ven, .int .i64 i.win, .int .i64 i.war] 23)
  rw [← hW0] at h0
  have H1 : Hid (∀ W, Calls Try.prog 6 #[itemVal i, .int .i64 a] W fun e w' => e = .returned (.tuple #[.int .i64 (untA i a), .int .i64 (untB i a), .int .i64 (untE i a)]) ∧ Below W.heap.size W w') := Lib.hid fun W => H.until_ i a W ha
  have H2 : Hid (∀ W, Calls Try.prog 14 #[itemVal i, .int .i64 a, .int .i64 n] W fun e w' => e = .returned (.bool (openB i a n)) ∧ Below W.heap.size W w') := Lib.hid fun W => H.isopen i a n W ha hn
  have H3 : Hid (∀ W, Calls Try.prog 16 #[itemVal i, .int .i64 a, .int .i64 n] W fun e w' => e = .returned (.bool (covB i a n)) ∧ Below W.heap.size W w') := Lib.hid fun W => H.covered i a n W ha hn
  have H4 : Hid (∀ W, Calls Try.prog 18 #[] W fun e w' => e = .returned (.bool true) ∧ Below W.heap.size W w') := Lib.hid fun W => awake20 H W
  have hs : ((untE i a != 0) = true ∧ untA i a = 0 ∧ untB i a = 0 ∧ openB i a n = false ∧ covB i a n = false)
      ∨ ((untE i a != 0) = false ∧ decide (n < a) = true ∧ openB i a n = false ∧ covB i a n = false)
      ∨ ((untE i a != 0) = false ∧ decide (n < a) = false ∧ decide (1000000 < n) = true ∧ openB i a n = false ∧ covB i a n = false)
      ∨ ((untE i a != 0) = false ∧ decide (n < a) = false ∧ decide (1000000 < n) = false ∧ (openB i a n == decide (n ≤ untA i a)) = true ∧ (covB i a n == decide (n ≤ untB i a)) = true ∧ decide (a ≤ untA i a) = true ∧ decide (a ≤ untB i a) = true) := by
    by_cases h : UntOk i a
    · rw [(unt_yes h).1]
      by_cases h1 : n < a
      · exact Or.inr (Or.inl ⟨rfl, decide_eq_true h1, (open_out (Or.inl h1)).1, (open_out (Or.inl h1)).2⟩)
      · by_cases h2 : 1000000 < n
        · exact Or.inr (Or.inr (Or.inl ⟨rfl, decide_eq_false h1, decide_eq_true h2, (open_out (Or.inr h2)).1, (open_out (Or.inr h2)).2⟩))
        · obtain ⟨q1, q2, q3, q4⟩ := until_is h (show a ≤ n by omega) (show n ≤ 1000000 by omega)
          exact Or.inr (Or.inr (Or.inr ⟨rfl, decide_eq_false h1, decide_eq_false h2, by rw [q1, beq_self_eq_true], by rw [q2, beq_self_eq_true], decide_eq_true q3, decide_eq_true q4⟩))
    · have hu := unt_no h
      have ho := open_no (n := n) h
      exact Or.inl ⟨by rw [hu.1]; rfl, hu.2.1, hu.2.2, ho.1, ho.2⟩
  clear H ha hn
  generalize untA i a = x1 at *
  generalize untB i a = x2 at *
  generalize untE i a = x3 at *
  generalize openB i a n = x8 at *
  generalize covB i a n = x9 at *
  obtain ⟨ii, iv, iw, ir⟩ := i
  dsimp only at *
  have HS : Hid (∀ V, Below W0.heap.size W0 V → V.cell? ⟨w.heap.size, 0, none⟩ = some (.int .i64 ii) ∧ V.cell? ⟨w.heap.size, 1, none⟩ = some (.int .i64 iv) ∧ V.cell? ⟨w.heap.size, 2, none⟩ = some (.int .i64 iw) ∧ V.cell? ⟨w.heap.size, 3, none⟩ = some (.int .i64 ir)) := Lib.hid fun V hV => by
    have k0 := old_obj hV h0
    exact ⟨cell_of (j := 0) k0 rfl, cell_of (j := 1) k0 rfl, cell_of (j := 2) k0 rfl, cell_of (j := 3) k0 rfl⟩
  have HB0 := Lib.hid hb0
  have BX : Hid (Below W0.heap.size W0 W0) := Lib.hid (Below.refl _ _)
  obtain ⟨c0, c1, c2, c3⟩ := HS.out _ BX.out
  clear h0 hb0
  go_enter Try.func5, Try.ntmps5
  go_upto_region 1 with fail
  rw [← hW0]
  clear hW0
  go_upto_region 2 with (go_at_call 6; refine (H1.out _).mono ?_; rintro e w1 ⟨rfl, hb⟩; have BX := Lib.hid (BX.out.trans (hb.mono BX.out.size)); clear hb)
  clear c0 c1 c2 c3
  obtain ⟨c0, c1, c2, c3⟩ := HS.out _ BX.out
  rcases hs with ⟨d1, rfl, rfl, rfl, rfl⟩ | ⟨d1, d2, rfl, rfl⟩ | ⟨d1, d2, d3, rfl, rfl⟩ | ⟨d1, d2, d3, d4, d5, d6, d7⟩
  all_goals
    go_wp2_with (first
      | (go_at_call 14; refine (H2.out _).mono ?_; rintro e w2 ⟨rfl, hb⟩; have BX := Lib.hid (BX.out.trans (hb.mono BX.out.size)); clear hb c0 c1 c2 c3; obtain ⟨c0, c1, c2, c3⟩ := HS.out _ BX.out)
      | (go_at_call 16; refine (H3.out _).mono ?_; rintro e w3 ⟨rfl, hb⟩; have BX := Lib.hid (BX.out.trans (hb.mono BX.out.size)); clear hb)
      | (go_at_call 18; refine (H4.out _).mono ?_; rintro e w4 ⟨rfl, hb⟩; have BX := Lib.hid (BX.out.trans (hb.mono BX.out.size)); clear hb))
    go_ret
    exact ⟨by first | rfl | simp, HB0.out.trans (BX.out.mono HB0.out.size)⟩
end Go.Proofs.Ytcllgpblebkpdaa
