/- The program's holds, Open, Covered, last, Until, Pass; all that the walks want of policy. -/
import Derived.Test.YtcllgpblebkpdaaPrgA20
import Derived.Test.YtcllgpblebkpdaaRefB20
namespace Go.Proofs.Ytcllgpblebkpdaa
open Go.RowKit Go.Shelf

theorem ewin20 : ∀ args w, (callFunc 20 args).run Try.prog w = .ok (.enter 20 args) w := enters_of Try.func20 (by kernel_rfl) rfl
theorem ewar20 : ∀ args w, (callFunc 21 args).run Try.prog w = .ok (.enter 21 args) w := enters_of Try.func21 (by kernel_rfl) rfl
set_option maxHeartbeats 4000000 in
theorem pholds20_any (g : Nat) (eg : ∀ args w, (callFunc g args).run Try.prog w = .ok (.enter g args) w) (i : Item20) (V a n : Int) (w : World)
    (hf : ∀ W (d : Int), Calls Try.prog g #[itemVal i, .int .i64 d] W fun e w' => e = .returned (.bool (decide (d ≤ V))) ∧ Below W.heap.size W w') :
    Calls Try.prog 25 #[itemVal i, .int .i64 a, .int .i64 n, .func (.func g) #[itemVal i] #[]] w fun e w' => e = .returned (.bool (decide (May i a n ∧ n ≤ a + V))) ∧ Below w.heap.size w w' := by
  have hs : (itemE i = 2 ∧ decide (May i a n ∧ n ≤ a + V) = false) ∨ (itemE i = 0 ∧ timeB a = false ∧ decide (May i a n ∧ n ≤ a + V) = false) ∨ (itemE i = 0 ∧ timeB a = true ∧ timeB n = false ∧ decide (May i a n ∧ n ≤ a + V) = false)
      ∨ (itemE i = 0 ∧ timeB a = true ∧ timeB n = true ∧ decide (a ≤ n) = false ∧ decide (May i a n ∧ n ≤ a + V) = false)
      ∨ (itemE i = 0 ∧ timeB a = true ∧ timeB n = true ∧ decide (a ≤ n) = true ∧ decide (n - a ≤ V) = decide (May i a n ∧ n ≤ a + V) ∧ IntKind.i64.wrap (n - a) = n - a) := by
    by_cases q1 : ItemOk i
    · rw [item_yes q1]
      refine Or.inr ?_
      by_cases q2 : TimeOk a
      · have t2 : timeB a = true := decide_eq_true q2
        refine Or.inr ?_
        by_cases q3 : TimeOk n
        · have t3 : timeB n = true := decide_eq_true q3
          refine Or.inr ?_
          by_cases q4 : a ≤ n
          · refine Or.inr ⟨rfl, t2, t3, decide_eq_true q4, ?_, IntWalk.i64_in _ (by unfold TimeOk at q2 q3; omega)⟩
            rw [Bool.eq_iff_iff, decide_eq_true_iff, decide_eq_true_iff]
            exact ⟨fun z => ⟨⟨q1, q2, q3, q4⟩, by omega⟩, fun z => by have := z.2; omega⟩
          · exact Or.inl ⟨rfl, t2, t3, decide_eq_false q4, decide_eq_false fun z => q4 z.1.2.2.2⟩
        · exact Or.inl ⟨rfl, t2, decide_eq_false q3, decide_eq_false fun z => q3 z.1.2.2.1⟩
      · exact Or.inl ⟨rfl, decide_eq_false q2, decide_eq_false fun z => q2 z.1.2.1⟩
    · exact Or.inl ⟨item_no q1, decide_eq_false fun z => q1 z.1.1⟩
  obtain ⟨ii, iv, iw, ir⟩ := i
  have HK : Hid (∀ W, Calls Try.prog 10 #[.agg #[.int .i64 ii, .int .i64 iv, .int .i64 iw, .int .i64 ir]] W fun e w' => e = .returned (.int .i64 (itemE ⟨ii, iv, iw, ir⟩)) ∧ Below W.heap.size W w') := Lib.hid fun W => pitem20_any ⟨ii, iv, iw, ir⟩ W
  have HA : Hid (∀ W, Calls Try.prog 12 #[.int .i64 a] W fun e w' => e = .returned (.bool (timeB a)) ∧ W = w') := Lib.hid fun W => ptime20_any _ W
  have HN : Hid (∀ W, Calls Try.prog 12 #[.int .i64 n] W fun e w' => e = .returned (.bool (timeB n)) ∧ W = w') := Lib.hid fun W => ptime20_any _ W
  have HF : Hid (∀ W, Calls Try.prog g #[.agg #[.int .i64 ii, .int .i64 iv, .int .i64 iw, .int .i64 ir], .int .i64 (n - a)] W fun e w' => e = .returned (.bool (decide (n - a ≤ V))) ∧ Below W.heap.size W w') := Lib.hid fun W => hf W (n - a)
  have BX := Lib.hid (bx20_start w ⟨ii, iv, iw, ir⟩)
  clear hf
  generalize itemE ⟨ii, iv, iw, ir⟩ = E at *
  generalize decide (May ⟨ii, iv, iw, ir⟩ a n ∧ n ≤ a + V) = R at *
  generalize timeB a = x1 at *
  generalize timeB n = x2 at *
  obtain ⟨c0, c1, c2, c3⟩ := BX.out.cells
  dsimp only at c0 c1 c2 c3
  rcases hs with ⟨rfl, rfl⟩ | ⟨rfl, rfl, rfl⟩ | ⟨rfl, rfl, rfl, rfl⟩ | ⟨rfl, rfl, rfl, d4, rfl⟩ | ⟨rfl, rfl, rfl, d4, d5, hw⟩
  rotate_left 4
  · rw [d5] at HF
    clear d5
    go_enter Try.func25, Try.ntmps25
    go_wp2_with (first
      | (go_at_call 10; refine (HK.out _).mono ?_; rintro e w1 ⟨rfl, hb⟩; have BX := Lib.hid (BX.out.step hb); clear hb HK)
      | (go_at_call 12; refine (HA.out _).mono ?_; rintro e w2 ⟨rfl, rfl⟩; clear HA)
      | (go_at_call 12; refine (HN.out _).mono ?_; rintro e w2 ⟨rfl, rfl⟩; clear HN)
      | (go_at_fn g; refine (HF.out _).mono ?_; rintro e w2 ⟨rfl, hb⟩; have BX := Lib.hid (BX.out.step hb); clear hb HF))
    go_ret
    exact ⟨rfl, BX.out.below⟩
  all_goals
    clear HF
    go_enter Try.func25, Try.ntmps25
    go_wp2_with (first
      | (go_at_call 10; refine (HK.out _).mono ?_; rintro e w1 ⟨rfl, hb⟩; have BX := Lib.hid (BX.out.step hb); clear hb HK)
      | (go_at_call 12; refine (HA.out _).mono ?_; rintro e w2 ⟨rfl, rfl⟩; clear HA)
      | (go_at_call 12; refine (HN.out _).mono ?_; rintro e w2 ⟨rfl, rfl⟩; clear HN))
    go_ret
    exact ⟨rfl, BX.out.below⟩
set_option maxHeartbeats 4000000 in
theorem popen20_any (i : Item20) (a n : Int) (w : World) : Calls Try.prog 14 #[itemVal i, .int .i64 a, .int .i64 n] w fun e w' => e = .returned (.bool (openB i a n)) ∧ Below w.heap.size w w' := by
  have hmf : ∀ (fn : Fn) (first cap : Array Value) (w : World), (Instr.makeFunc fn first cap).run Try.prog w = .ok (.func fn first cap) w := fun _ _ _ _ => rfl
  have HC : Hid (∀ W, Calls Try.prog 25 #[itemVal i, .int .i64 a, .int .i64 n, .func (.func 20) #[itemVal i] #[]] W fun e w' => e = .returned (.bool (openB i a n)) ∧ Below W.heap.size W w') := Lib.hid fun W => pholds20_any _ ewin20 i i.win a n W (fun W d => pwin20_any i d W)
  have BX := Lib.hid (bx20_start w i)
  generalize openB i a n = R at *
  obtain ⟨ii, iv, iw, ir⟩ := i
  obtain ⟨c0, c1, c2, c3⟩ := BX.out.cells
  dsimp only at c0 c1 c2 c3 HC
  go_enter Try.func14, Try.ntmps14
  go_wp2_with (go_at_call 25; refine (HC.out _).mono ?_; rintro e w1 ⟨rfl, hb⟩; have BX := Lib.hid (BX.out.step hb); clear hb HC)
  go_ret
  exact ⟨rfl, BX.out.below⟩
set_option maxHeartbeats 4000000 in
theorem pcov20_any (i : Item20) (a n : Int) (w : World) : Calls Try.prog 16 #[itemVal i, .int .i64 a, .int .i64 n] w fun e w' => e = .returned (.bool (covB i a n)) ∧ Below w.heap.size w w' := by
  have hmf : ∀ (fn : Fn) (first cap : Array Value) (w : World), (Instr.makeFunc fn first cap).run Try.prog w = .ok (.func fn first cap) w := fun _ _ _ _ => rfl
  have HC : Hid (∀ W, Calls Try.prog 25 #[itemVal i, .int .i64 a, .int .i64 n, .func (.func 21) #[itemVal i] #[]] W fun e w' => e = .returned (.bool (covB i a n)) ∧ Below W.heap.size W w') := Lib.hid fun W => pholds20_any _ ewar20 i i.war a n W (fun W d => pwar20_any i d W)
  have BX := Lib.hid (bx20_start w i)
  generalize covB i a n = R at *
  obtain ⟨ii, iv, iw, ir⟩ := i
  obtain ⟨c0, c1, c2, c3⟩ := BX.out.cells
  dsimp only at c0 c1 c2 c3 HC
  go_enter Try.func16, Try.ntmps16
  go_wp2_with (go_at_call 25; refine (HC.out _).mono ?_; rintro e w1 ⟨rfl, hb⟩; have BX := Lib.hid (BX.out.step hb); clear hb HC)
  go_ret
  exact ⟨rfl, BX.out.below⟩
theorem ppass20_any (n d : Int) (w : World) : Calls Try.prog 8 #[.int .i64 n, .int .i64 d] w fun e w' => e = .returned (.tuple #[.int .i64 (passV n d), .int .i64 (passE n d)]) ∧ Below w.heap.size w w' := by
  have hs : (timeB n = false ∧ passV n d = 0 ∧ passE n d = 2) ∨ (timeB n = true ∧ timeB d = false ∧ passV n d = 0 ∧ passE n d = 2) ∨ (timeB n = true ∧ timeB d = true ∧ decide (1000000 < n + d) = true ∧ passV n d = 0 ∧ passE n d = 39 ∧ IntKind.i64.wrap (n + d) = n + d) ∨ (timeB n = true ∧ timeB d = true ∧ decide (1000000 < n + d) = false ∧ passV n d = n + d ∧ passE n d = 0 ∧ IntKind.i64.wrap (n + d) = n + d) := by
    by_cases q1 : TimeOk n
    · refine Or.inr ?_
      by_cases q2 : TimeOk d
      · refine Or.inr ?_
        have hw : IntKind.i64.wrap (n + d) = n + d := IntWalk.i64_in _ (by unfold TimeOk at q1 q2; omega)
        by_cases q3 : 1000000 < n + d
        · exact Or.inl ⟨decide_eq_true q1, decide_eq_true q2, decide_eq_true q3, if_neg (fun z => by have := z.2.2; omega), (if_pos ⟨q1, q2⟩).trans (if_pos q3), hw⟩
        · exact Or.inr ⟨decide_eq_true q1, decide_eq_true q2, decide_eq_false q3, if_pos ⟨q1, q2, by omega⟩, (if_pos ⟨q1, q2⟩).trans (if_neg q3), hw⟩
      · exact Or.inl ⟨decide_eq_true q1, decide_eq_false q2, if_neg (fun z => q2 z.2.1), if_neg (fun z => q2 z.2)⟩
    · exact Or.inl ⟨decide_eq_false q1, if_neg (fun z => q1 z.1), if_neg (fun z => q1 z.1)⟩
  have HA : Hid (∀ W, Calls Try.prog 12 #[.int .i64 n] W fun e w' => e = .returned (.bool (timeB n)) ∧ W = w') := Lib.hid fun W => ptime20_any _ W
  have HD : Hid (∀ W, Calls Try.prog 23 #[.int .i64 d] W fun e w' => e = .returned (.bool (timeB d)) ∧ W = w') := Lib.hid fun W => pticks20_any _ W
  have HB := Lib.hid (Below.refl w.heap.size w)
  generalize timeB n = x1 at *
  generalize timeB d = x2 at *
  generalize passE n d = E at *
  generalize passV n d = V at *
  rcases hs with ⟨rfl, rfl, rfl⟩ | ⟨rfl, rfl, rfl, rfl⟩ | ⟨rfl, rfl, d3, rfl, rfl, hw⟩ | ⟨rfl, rfl, d3, hv, rfl, hw⟩
  rotate_left 3
  · have HV := Lib.hid hv
    clear hv
    go_enter Try.func8, Try.ntmps8
    go_wp2_with (first
      | (go_at_call 12; refine (HA.out _).mono ?_; rintro e w2 ⟨rfl, rfl⟩)
      | (go_at_call 23; refine (HD.out _).mono ?_; rintro e w2 ⟨rfl, rfl⟩))
    go_ret2
    exact ⟨by rw [HV.out]; rfl, HB.out⟩
  all_goals
    go_enter Try.func8, Try.ntmps8
    go_wp2_with (first
      | (go_at_call 12; refine (HA.out _).mono ?_; rintro e w2 ⟨rfl, rfl⟩)
      | (go_at_call 23; refine (HD.out _).mono ?_; rintro e w2 ⟨rfl, rfl⟩))
    go_ret2
    exact ⟨rfl, HB.out⟩
/-- The closure of last. -/
theorem plastc20_any (g b : Nat) (eg : ∀ args w, (callFunc g args).run Try.prog w = .ok (.enter g args) w) (i : Item20) (V : Int) (n : Nat) (hn : n < 2000000) (w : World)
    (hc : w.cell? ⟨b, 0, none⟩ = some (.func (.func g) #[itemVal i] #[]))
    (hf : ∀ W (d : Int), Calls Try.prog g #[itemVal i, .int .i64 d] W fun e w' => e = .returned (.bool (decide (d ≤ V))) ∧ Below W.heap.size W w') :
    Calls Try.prog 29 #[.int .i64 n, .pointer (some ⟨b, 0, none⟩)] w fun e w' => e = .returned (.bool (!decide ((n : Int) + 1 ≤ V))) ∧ Below w.heap.size w w' := by
  have hw : IntKind.i64.wrap ((n : Int) + 1) = (n : Int) + 1 := IntWalk.i64_in _ (by omega)
  obtain ⟨ii, iv, iw, ir⟩ := i
  have HF : Hid (∀ W, Calls Try.prog g #[.agg #[.int .i64 ii, .int .i64 iv, .int .i64 iw, .int .i64 ir], .int .i64 ((n : Int) + 1)] W fun e w' => e = .returned (.bool (decide ((n : Int) + 1 ≤ V))) ∧ Below W.heap.size W w') := Lib.hid fun W => hf W _
  clear hf
  generalize decide ((n : Int) + 1 ≤ V) = R at *
  go_enter Try.func29, Try.ntmps29
  go_wp2_with (go_at_fn g; refine (HF.out _).mono ?_; rintro e w2 ⟨rfl, hb⟩; have HB := Lib.hid hb; clear hb HF)
  go_ret
  exact ⟨rfl, HB.out⟩
theorem elast20 : ∀ args w, (callFunc 29 args).run Try.prog w = .ok (.enter 29 args) w := enters_of Try.func29 (by kernel_rfl) rfl
set_option maxHeartbeats 4000000 in
theorem plast20_any (g : Nat) (eg : ∀ args w, (callFunc g args).run Try.prog w = .ok (.enter g args) w) (i : Item20) (V a : Int) (w : World) (ha : TimeOk a) (hV : TimeOk V)
    (hf : ∀ W (d : Int), Calls Try.prog g #[itemVal i, .int .i64 d] W fun e w' => e = .returned (.bool (decide (d ≤ V))) ∧ Below W.heap.size W w') :
    Calls Try.prog 19 #[.int .i64 a, .func (.func g) #[itemVal i] #[]] w fun e w' => e = .returned (.int .i64 (topN (a + V))) ∧ Below w.heap.size w w' := by
  have hmf : ∀ (fn : Fn) (first cap : Array Value) (w : World), (Instr.makeFunc fn first cap).run Try.prog w = .ok (.func fn first cap) w := fun _ _ _ _ => rfl
  unfold TimeOk at ha hV
  obtain ⟨n, hn⟩ : ∃ n : Nat, 1000000 - a = (n : Int) := ⟨(1000000 - a).toNat, by omega⟩
  obtain ⟨M, hM, hM2, h1, h2⟩ : ∃ M : Nat, a + (M : Int) = topN (a + V) ∧ M ≤ n ∧ (∀ t : Nat, t < M → (!decide ((t : Int) + 1 ≤ V)) = false) ∧ (∀ t : Nat, M ≤ t → t < n → (!decide ((t : Int) + 1 ≤ V)) = true) := by
    refine ⟨min n V.toNat, ?_, Nat.min_le_left _ _, fun t ht => ?_, fun t ht1 ht2 => ?_⟩
    · unfold topN; split <;> omega
    · rw [decide_eq_true (by omega)]; rfl
    · rw [decide_eq_false (by omega)]; rfl
  have hw1 : IntKind.i64.wrap (1000000 - a) = (n : Int) := by rw [hn]; exact IntWalk.i64_in _ (by omega)
  have hw2 : IntKind.i64.wrap (a + (M : Int)) = topN (a + V) := by rw [← hM]; exact IntWalk.i64_in _ (by omega)
  have h0 := heap_alloc_new w (.cells #[.func (.func g) #[itemVal i] #[]] 35)
  have hb0 := box20 w (.cells #[.func (.func g) #[itemVal i] #[]] 35)
  obtain ⟨W, hW⟩ : ∃ W, W = w.alloc (.cells #[.func (.func g) #[itemVal i] #[]] 35) := ⟨_, rfl⟩
  have hs : W.heap.size = w.heap.size + 1 := by rw [hW, World.size_alloc]
  rw [← hW] at h0 hb0
  have c0 : W.cell? ⟨w.heap.size, 0, none⟩ = some (.func (.func g) #[itemVal i] #[]) := cell_of (j := 0) h0 rfl
  have HS := Lib.hid (psearch20_any 29 #[.pointer (some ⟨w.heap.size, 0, none⟩)] n M (fun t => !decide ((t : Int) + 1 ≤ V)) W elast20 (by omega)
    (fun W1 t hb ht => plastc20_any g w.heap.size eg i V t (by omega) W1 ((hb.cell (p := ⟨w.heap.size, 0, none⟩) (by show w.heap.size < W.heap.size; omega)).trans c0) hf) hM2 h1 h2)
  have HB := Lib.hid hb0
  have HH := Lib.hid hs
  generalize topN (a + V) = T at *
  clear h1 h2 hb0 hs c0 h0 hf hM hM2 hn
  obtain ⟨ii, iv, iw, ir⟩ := i
  go_enter Try.func19, Try.ntmps19
  go_upto_region 1 with fail
  rw [← hW]
  clear hW
  go_wp2_with (go_at_call 28; refine HS.out.mono ?_; rintro e w2 ⟨rfl, hb⟩; have HB := Lib.hid (HB.out.trans (hb.mono HB.out.size)); clear hb HS)
  go_ret
  exact ⟨rfl, HB.out⟩
set_option maxRecDepth 100000 in
set_option maxHeartbeats 4000000 in
theorem puntil20_any (i : Item20) (a : Int) (w : World) : Calls Try.prog 6 #[itemVal i, .int .i64 a] w fun e w' => e = .returned (.tuple #[.int .i64 (untA i a), .int .i64 (untB i a), .int .i64 (untE i a)]) ∧ Below w.heap.size w w' := by
  have hmf : ∀ (fn : Fn) (first cap : Array Value) (w : World), (Instr.makeFunc fn first cap).run Try.prog w = .ok (.func fn first cap) w := fun _ _ _ _ => rfl
  have hs : (itemE i = 2 ∧ untA i a = 0 ∧ untB i a = 0 ∧ untE i a = 2) ∨ (itemE i = 0 ∧ timeB a = false ∧ untA i a = 0 ∧ untB i a = 0 ∧ untE i a = 2) ∨ (itemE i = 0 ∧ timeB a = true ∧ TimeOk a ∧ TimeOk i.win ∧ TimeOk i.war ∧ untA i a = topN (a + i.win) ∧ untB i a = topN (a + i.war) ∧ untE i a = 0) := by
    by_cases q1 : ItemOk i
    · by_cases q2 : TimeOk a
      · obtain ⟨u1, u2, u3⟩ := unt_yes ⟨q1, q2⟩
        exact Or.inr (Or.inr ⟨item_yes q1, decide_eq_true q2, q2, q1.2.2.2.2.1, q1.2.2.2.2.2, u2, u3, u1⟩)
      · obtain ⟨u1, u2, u3⟩ := unt_no (i := i) (a := a) fun z => q2 z.2
        exact Or.inr (Or.inl ⟨item_yes q1, decide_eq_false q2, u2, u3, u1⟩)
    · obtain ⟨u1, u2, u3⟩ := unt_no (i := i) (a := a) fun z => q1 z.1
      exact Or.inl ⟨item_no q1, u2, u3, u1⟩
  have HK : Hid (∀ W, Calls Try.prog 10 #[itemVal i] W fun e w' => e = .returned (.int .i64 (itemE i)) ∧ Below W.heap.size W w') := Lib.hid fun W => pitem20_any i W
  have HA : Hid (∀ W, Calls Try.prog 12 #[.int .i64 a] W fun e w' => e = .returned (.bool (timeB a)) ∧ W = w') := Lib.hid fun W => ptime20_any _ W
  have HX : TimeOk a → TimeOk i.win → TimeOk i.war → Hid (∀ W, Calls Try.prog 19 #[.int .i64 a, .func (.func 20) #[itemVal i] #[]] W fun e w' => e = .returned (.int .i64 (topN (a + i.win))) ∧ Below W.heap.size W w') := fun h1 h2 _ => Lib.hid fun W => plast20_any _ ewin20 i i.win a W h1 h2 (fun W d => pwin20_any i d W)
  have HY : TimeOk a → TimeOk i.win → TimeOk i.war → Hid (∀ W, Calls Try.prog 19 #[.int .i64 a, .func (.func 21) #[itemVal i] #[]] W fun e w' => e = .returned (.int .i64 (topN (a + i.war))) ∧ Below W.heap.size W w') := fun h1 _ h2 => Lib.hid fun W => plast20_any _ ewar20 i i.war a W h1 h2 (fun W d => pwar20_any i d W)
  have BX := Lib.hid (bx20_start w i)
  generalize untA i a = A at *
  generalize untB i a = B at *
  generalize untE i a = E at *
  generalize timeB a = x1 at *
  generalize itemE i = x2 at *
  obtain ⟨ii, iv, iw, ir⟩ := i
  dsimp only at *
  generalize topN (a + iw) = T1 at *
  generalize topN (a + ir) = T2 at *
  obtain ⟨c0, c1, c2, c3⟩ := BX.out.cells
  dsimp only at c0 c1 c2 c3
  rcases hs with ⟨rfl, rfl, rfl, rfl⟩ | ⟨rfl, rfl, rfl, rfl, rfl⟩ | ⟨rfl, rfl, q1, q2, q3, rfl, rfl, rfl⟩
  rotate_left 2
  · have H1 := HX q1 q2 q3
    have H2 := HY q1 q2 q3
    clear HX HY q1 q2 q3
    have HS : Hid (∀ V, Bx20 w V w.heap.size ⟨ii, iv, iw, ir⟩ → V.cell? ⟨w.heap.size, 0, none⟩ = some (.int .i64 ii) ∧ V.cell? ⟨w.heap.size, 1, none⟩ = some (.int .i64 iv) ∧ V.cell? ⟨w.heap.size, 2, none⟩ = some (.int .i64 iw) ∧ V.cell? ⟨w.heap.size, 3, none⟩ = some (.int .i64 ir)) := Lib.hid fun V h => h.cells
    go_enter Try.func6, Try.ntmps6
    go_upto_region 2 with (go_at_call 10; refine (HK.out _).mono ?_; rintro e w1 ⟨rfl, hb⟩; have BX := Lib.hid (BX.out.step hb); clear hb HK)
    go_upto_region 6 with (go_at_call 12; refine (HA.out _).mono ?_; rintro e w2 ⟨rfl, rfl⟩; clear HA)
    clear c0 c1 c2 c3
    have BX := Lib.hid (BX.out.step (Below.refl w1.heap.size w1).drew)
    have SX := Lib.hid (HS.out _ BX.out)
    go_region_held3 (fun V => V.cell? ⟨w.heap.size, 0, none⟩ = some (.int .i64 ii) ∧ V.cell? ⟨w.heap.size, 1, none⟩ = some (.int .i64 iv) ∧ V.cell? ⟨w.heap.size, 2, none⟩ = some (.int .i64 iw) ∧ V.cell? ⟨w.heap.size, 3, none⟩ = some (.int .i64 ir)) (first
      | exact SX.out
      | assumption) (first
      | (go_at_call 19; refine (H1.out _).mono ?_; rintro e w5 ⟨rfl, hb⟩; have BX := Lib.hid (BX.out.step hb); have SX := Lib.hid (HS.out _ BX.out); clear hb H1)
      | (go_at_call 19; refine (H2.out _).mono ?_; rintro e w5 ⟨rfl, hb⟩; have BX := Lib.hid (BX.out.step hb); have SX := Lib.hid (HS.out _ BX.out); clear hb H2))
    all_goals
      go_wp2
      go_ret3
      exact ⟨rfl, BX.out.below⟩
  all_goals
    clear HX HY
    go_enter Try.func6, Try.ntmps6
    go_wp2_with (first
      | (go_at_call 10; refine (HK.out _).mono ?_; rintro e w1 ⟨rfl, hb⟩; have BX := Lib.hid (BX.out.step hb); clear hb HK)
      | (go_at_call 12; refine (HA.out _).mono ?_; rintro e w2 ⟨rfl, rfl⟩; clear HA))
    go_ret3
    exact ⟨rfl, BX.out.below⟩
theorem policy20 : Policy20 where
  check := pitem20_any
  time := fun t w _ => (ptime20_any t w).mono fun _ _ ⟨h, hw⟩ => ⟨h, hw ▸ Below.refl _ _⟩
  isopen := fun i a n w _ _ => popen20_any i a n w
  covered := fun i a n w _ _ => pcov20_any i a n w
  until_ := fun i a w _ => puntil20_any i a w
  pass := fun n d w _ _ => ppass20_any n d w
end Go.Proofs.Ytcllgpblebkpdaa
