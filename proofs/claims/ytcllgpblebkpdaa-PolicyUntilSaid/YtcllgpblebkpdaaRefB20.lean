/- The document's Open, Covered, Until and Pass, and the law's own item: in every world. -/
import Derived.Test.YtcllgpblebkpdaaRefA20
namespace Go.Proofs.Ytcllgpblebkpdaa
open Go.RowKit

set_option maxHeartbeats 2000000 in
theorem ropen20_any (i : Item20) (a n : Int) (w : World) : Calls Try.prog 15 #[itemVal i, .int .i64 a, .int .i64 n] w fun e w' => e = .returned (.bool (openB i a n)) ∧ Below w.heap.size w w' := by
  have X0 := Lib.hid (bx20_start w i)
  obtain ⟨c0, c1, c2, c3⟩ := X0.out.cells
  have HM : Hid (∀ W, Calls Try.prog 26 #[itemVal i, .int .i64 a, .int .i64 n] W fun e w' => e = .returned (.bool (mayB i a n)) ∧ Below W.heap.size W w') := Lib.hid fun W => rmay20_any i a n W
  have hs : (mayB i a n = false ∧ openB i a n = false) ∨ (mayB i a n = true ∧ IntKind.i64.wrap (a + i.win) = a + i.win ∧ decide (n ≤ a + i.win) = openB i a n) := by
    by_cases h : May i a n
    · have hh := h
      unfold May ItemOk TimeOk at hh
      refine Or.inr ⟨decide_eq_true h, IntWalk.i64_in _ (by omega), ?_⟩
      unfold openB
      rw [Bool.eq_iff_iff, decide_eq_true_iff, decide_eq_true_iff]
      exact ⟨fun q => ⟨h, q⟩, fun q => q.2⟩
    · exact Or.inl ⟨decide_eq_false h, decide_eq_false fun q => h q.1⟩
  generalize mayB i a n = m at *
  generalize openB i a n = o at *
  obtain ⟨ii, iv, iw, ir⟩ := i
  dsimp only at *
  rcases hs with ⟨rfl, rfl⟩ | ⟨rfl, e1, d1⟩
  · go_enter Try.func15, Try.ntmps15
    go_wp2_with (go_at_call 26; refine (HM.out _).mono ?_; rintro e w1 ⟨rfl, hb⟩; have X1 := Lib.hid (X0.out.step hb); clear hb)
    go_ret
    exact ⟨rfl, X1.out.below⟩
  · obtain ⟨S, hS⟩ : ∃ S, a + iw = S := ⟨_, rfl⟩
    have e2 : IntKind.i64.wrap (a + iw) = S := by rw [← hS]; exact e1
    rw [hS] at d1
    clear e1 hS
    cases o
    all_goals
      go_enter Try.func15, Try.ntmps15
      go_wp2_with (go_at_call 26; refine (HM.out _).mono ?_; rintro e w1 ⟨rfl, hb⟩; have X1 := Lib.hid (X0.out.step hb); obtain ⟨b0, b1, b2, b3⟩ := X1.out.cells; clear hb)
      go_ret
      exact ⟨rfl, X1.out.below⟩
set_option maxHeartbeats 2000000 in
theorem rcov20_any (i : Item20) (a n : Int) (w : World) : Calls Try.prog 17 #[itemVal i, .int .i64 a, .int .i64 n] w fun e w' => e = .returned (.bool (covB i a n)) ∧ Below w.heap.size w w' := by
  have X0 := Lib.hid (bx20_start w i)
  obtain ⟨c0, c1, c2, c3⟩ := X0.out.cells
  have HM : Hid (∀ W, Calls Try.prog 26 #[itemVal i, .int .i64 a, .int .i64 n] W fun e w' => e = .returned (.bool (mayB i a n)) ∧ Below W.heap.size W w') := Lib.hid fun W => rmay20_any i a n W
  have hs : (mayB i a n = false ∧ covB i a n = false) ∨ (mayB i a n = true ∧ IntKind.i64.wrap (a + i.war) = a + i.war ∧ decide (n ≤ a + i.war) = covB i a n) := by
    by_cases h : May i a n
    · have hh := h
      unfold May ItemOk TimeOk at hh
      refine Or.inr ⟨decide_eq_true h, IntWalk.i64_in _ (by omega), ?_⟩
      unfold covB
      rw [Bool.eq_iff_iff, decide_eq_true_iff, decide_eq_true_iff]
      exact ⟨fun q => ⟨h, q⟩, fun q => q.2⟩
    · exact Or.inl ⟨decide_eq_false h, decide_eq_false fun q => h q.1⟩
  generalize mayB i a n = m at *
  generalize covB i a n = o at *
  obtain ⟨ii, iv, iw, ir⟩ := i
  dsimp only at *
  rcases hs with ⟨rfl, rfl⟩ | ⟨rfl, e1, d1⟩
  · go_enter Try.func17, Try.ntmps17
    go_wp2_with (go_at_call 26; refine (HM.out _).mono ?_; rintro e w1 ⟨rfl, hb⟩; have X1 := Lib.hid (X0.out.step hb); clear hb)
    go_ret
    exact ⟨rfl, X1.out.below⟩
  · obtain ⟨S, hS⟩ : ∃ S, a + ir = S := ⟨_, rfl⟩
    have e2 : IntKind.i64.wrap (a + ir) = S := by rw [← hS]; exact e1
    rw [hS] at d1
    clear e1 hS
    cases o
    all_goals
      go_enter Try.func17, Try.ntmps17
      go_wp2_with (go_at_call 26; refine (HM.out _).mono ?_; rintro e w1 ⟨rfl, hb⟩; have X1 := Lib.hid (X0.out.step hb); obtain ⟨b0, b1, b2, b3⟩ := X1.out.cells; clear hb)
      go_ret
      exact ⟨rfl, X1.out.below⟩
set_option maxHeartbeats 2000000 in
theorem runtil20_any (i : Item20) (a : Int) (w : World) : Calls Try.prog 7 #[itemVal i, .int .i64 a] w fun e w' => e = .returned (.tuple #[.int .i64 (untA i a), .int .i64 (untB i a), .int .i64 (untE i a)]) ∧ Below w.heap.size w w' := by
  have X0 := Lib.hid (bx20_start w i)
  obtain ⟨c0, c1, c2, c3⟩ := X0.out.cells
  have HC : Hid (∀ W, Calls Try.prog 11 #[itemVal i] W fun e w' => e = .returned (.int .i64 (itemE i)) ∧ Below W.heap.size W w') := Lib.hid fun W => rcheck20_any i W
  have hT := rtime20_any a
  by_cases h : ¬ UntOk i a
  · have HV := Lib.hid (unt_no h)
    have hs : (itemE i != 0) = true ∨ ((itemE i != 0) = false ∧ timeB a = false) := by
      by_cases h1 : ItemOk i
      · rw [item_yes h1]
        exact Or.inr ⟨rfl, decide_eq_false fun q => h ⟨h1, q⟩⟩
      · rw [item_no h1]; exact Or.inl rfl
    clear h
    generalize untA i a = x1 at *
    generalize untB i a = x2 at *
    generalize untE i a = x3 at *
    generalize itemE i = E at *
    generalize timeB a = t at *
    obtain ⟨ii, iv, iw, ir⟩ := i
    dsimp only at *
    rcases hs with d1 | ⟨d1, rfl⟩
    all_goals
      go_enter Try.func7, Try.ntmps7
      go_wp2_with (first
        | (go_at_call 11; refine (HC.out _).mono ?_; rintro e w1 ⟨rfl, hb⟩; have X1 := Lib.hid (X0.out.step hb); clear hb)
        | (go_at_call 13; refine (hT _).mono ?_; rintro e w2 ⟨rfl, rfl⟩))
      go_ret3
      exact ⟨by rw [HV.out.1, HV.out.2.1, HV.out.2.2]; rfl, X1.out.below⟩
  have h := Decidable.not_not.1 h
  have HV := Lib.hid (unt_yes h)
  have d1 : itemE i = 0 := item_yes h.1
  have d2 : timeB a = true := decide_eq_true h.2
  have hh := h
  unfold UntOk ItemOk TimeOk at hh
  have e1 : IntKind.i64.wrap (a + i.win) = a + i.win := IntWalk.i64_in _ (by omega)
  have e2 : IntKind.i64.wrap (a + i.war) = a + i.war := IntWalk.i64_in _ (by omega)
  rw [d1] at HC
  rw [d2] at hT
  clear h hh d1 d2
  generalize untA i a = x1 at *
  generalize untB i a = x2 at *
  generalize untE i a = x3 at *
  obtain ⟨ii, iv, iw, ir⟩ := i
  dsimp only at *
  obtain ⟨S, hS⟩ : ∃ S, a + iw = S := ⟨_, rfl⟩
  obtain ⟨T, hT2⟩ : ∃ T, a + ir = T := ⟨_, rfl⟩
  have e3 : IntKind.i64.wrap (a + iw) = S := by rw [← hS]; exact e1
  have e4 : IntKind.i64.wrap (a + ir) = T := by rw [← hT2]; exact e2
  rw [hS, hT2] at HV
  clear e1 e2 hS hT2
  have h5 : ∀ W, Calls Try.prog 22 #[.int .i64 S] W fun e w' => e = .returned (.int .i64 (topN S)) ∧ w' = W := fun W => (rtop20_any S W).mono fun _ _ h => ⟨h.1, h.2.symm⟩
  have h6 : ∀ W, Calls Try.prog 22 #[.int .i64 T] W fun e w' => e = .returned (.int .i64 (topN T)) ∧ w' = W := fun W => (rtop20_any T W).mono fun _ _ h => ⟨h.1, h.2.symm⟩
  have H56 := Lib.hid (And.intro h5 h6)
  clear h5 h6
  generalize topN S = y1 at *
  generalize topN T = y2 at *
  go_enter Try.func7, Try.ntmps7
  go_upto_region 3 with (first
    | (go_at_call 11; refine (HC.out _).mono ?_; rintro e w1 ⟨rfl, hb⟩; have X1 := Lib.hid (X0.out.step hb); clear hb)
    | (go_at_call 13; refine (hT _).mono ?_; rintro e w2 ⟨rfl, rfl⟩))
  obtain ⟨b0, b1, b2, b3⟩ := X1.out.cells
  go_quiet ((first
    | (go_at_call 22; exact Calls.quiet_of_same (H56.out.1 _))
    | (go_at_call 22; exact Calls.quiet_of_same (H56.out.2 _))))
  go_wp2
  go_ret3
  exact ⟨by rw [HV.out.1, HV.out.2.1, HV.out.2.2]; rfl, drawn_below X1.out.below _⟩
set_option maxHeartbeats 1000000 in
theorem rpass20_any (n d : Int) (w : World) : Calls Try.prog 9 #[.int .i64 n, .int .i64 d] w fun e w' => e = .returned (.tuple #[.int .i64 (passV n d), .int .i64 (passE n d)]) ∧ w = w' := by
  have h1 := rtime20_any n
  have h2 := rtime20_any d
  have hs : (timeB n = false ∧ passV n d = 0 ∧ passE n d = 2) ∨ (timeB n = true ∧ timeB d = false ∧ passV n d = 0 ∧ passE n d = 2) ∨ (timeB n = true ∧ timeB d = true ∧ IntKind.i64.wrap (n + d) = n + d ∧ decide (1000000 < n + d) = true ∧ passV n d = 0 ∧ passE n d = 39) ∨ (timeB n = true ∧ timeB d = true ∧ IntKind.i64.wrap (n + d) = n + d ∧ decide (1000000 < n + d) = false ∧ passV n d = n + d ∧ passE n d = 0) := by
    by_cases q1 : TimeOk n
    · by_cases q2 : TimeOk d
      · have e1 : IntKind.i64.wrap (n + d) = n + d := IntWalk.i64_in _ (by unfold TimeOk at q1 q2; omega)
        by_cases q3 : 1000000 < n + d
        · exact Or.inr (Or.inr (Or.inl ⟨decide_eq_true q1, decide_eq_true q2, e1, decide_eq_true q3, if_neg fun z => by omega, by rw [passE, if_pos ⟨q1, q2⟩, if_pos q3]⟩))
        · exact Or.inr (Or.inr (Or.inr ⟨decide_eq_true q1, decide_eq_true q2, e1, decide_eq_false q3, if_pos ⟨q1, q2, by omega⟩, by rw [passE, if_pos ⟨q1, q2⟩, if_neg q3]⟩))
      · exact Or.inr (Or.inl ⟨decide_eq_true q1, decide_eq_false q2, if_neg fun z => q2 z.2.1, if_neg fun z => q2 z.2⟩)
    · exact Or.inl ⟨decide_eq_false q1, if_neg fun z => q1 z.1, if_neg fun z => q1 z.1⟩
  generalize timeB n = t1 at *
  generalize timeB d = t2 at *
  generalize passV n d = x at *
  generalize passE n d = y at *
  rcases hs with ⟨rfl, rfl, rfl⟩ | ⟨rfl, rfl, rfl, rfl⟩ | ⟨rfl, rfl, e1, d1, rfl, rfl⟩ | ⟨rfl, rfl, e1, d1, hx, rfl⟩
  rotate_left 2
  · obtain ⟨S, hS⟩ : ∃ S, n + d = S := ⟨_, rfl⟩
    have e3 : IntKind.i64.wrap (n + d) = S := by rw [← hS]; exact e1
    rw [hS] at d1
    clear e1 hS
    go_enter Try.func9, Try.ntmps9
    go_wp2_with (first
      | (go_at_call 13; refine (h1 _).mono ?_; rintro e w2 ⟨rfl, rfl⟩; clear h1)
      | (go_at_call 13; refine (h2 _).mono ?_; rintro e w2 ⟨rfl, rfl⟩; clear h2))
    go_ret2
    exact ⟨rfl, rfl⟩
  · obtain ⟨S, hS⟩ : ∃ S, n + d = S := ⟨_, rfl⟩
    have e3 : IntKind.i64.wrap (n + d) = S := by rw [← hS]; exact e1
    rw [hS] at d1 hx
    have HX := Lib.hid hx
    clear e1 hS hx
    go_enter Try.func9, Try.ntmps9
    go_wp2_with (first
      | (go_at_call 13; refine (h1 _).mono ?_; rintro e w2 ⟨rfl, rfl⟩; clear h1)
      | (go_at_call 13; refine (h2 _).mono ?_; rintro e w2 ⟨rfl, rfl⟩; clear h2))
    go_ret2
    exact ⟨by rw [HX.out]; rfl, rfl⟩
  all_goals
    go_enter Try.func9, Try.ntmps9
    go_wp2_with (first
      | (go_at_call 13; refine (h1 _).mono ?_; rintro e w2 ⟨rfl, rfl⟩; clear h1)
      | (go_at_call 13; refine (h2 _).mono ?_; rintro e w2 ⟨rfl, rfl⟩; clear h2))
    go_ret2
    exact ⟨rfl, rfl⟩
end Go.Proofs.Ytcllgpblebkpdaa
