/- The walk of GradeAll, from what is wanted of grade's functions and of quiz's Check. -/
import Derived.Test.YteeaaibcdbfmfaaWalks17
namespace Go.Proofs.Yteeaaibcdbfmfaa
open Go.RowKit

/-- What the walk wants of quiz's Check. -/
def Check17 : Prop := ∀ (a : Option Addr) (cap : Nat) (xs : List Int) (w : World), Ints w.heap.size w a xs → xs.length ≤ 1000000 →
  Calls Try.prog 17 #[.slice a xs.length cap] w fun e w' => e = .returned (.int .i64 (asksE xs)) ∧ Below w.heap.size w w'
set_option maxRecDepth 100000 in
set_option maxHeartbeats 8000000 in
theorem gradeAll_from (Q : Grade17S) (QC : Check17) (w : World) (b : Option Addr) (cap' : Nat) (xs : List Int) (_ : xs.length ≤ maxLen) (hf : Ints w.heap.size w b xs) (hcap' : xs.length ≤ cap') (s : Int) (hs : (Lit.int .i64 s).wf = true)
    (a : Option Addr) (cap : Nat) (ks : List Int) (_ : ks.length ≤ maxLen) (hx : Ints w.heap.size w a ks) (hcap : ks.length ≤ cap) :
    Calls Try.prog 6 #[.slice b xs.length cap', .int .i64 s, .slice a ks.length cap] w fun e w' => e = .returned (.bool true) ∧ Below w.heap.size w w' := by
  by_cases h1 : 100 < xs.length
  · have e1 : decide (100 < (xs.length : Int)) = true := decide_eq_true (by omega)
    have e1' : decide (100 < xs.length) = true := decide_eq_true h1
    have hA := awake17 Q w
    clear h1 hx hf hcap hcap' hs Q QC
    go_enter Try.func6, Try.ntmps6
    go_wp2_with (go_at_call 7; refine hA.mono ?_; rintro e w2 ⟨rfl, hb⟩; have HB := Lib.hid hb; clear hb)
    go_ret
    exact ⟨rfl, HB.out⟩
  have e1 : decide (100 < (xs.length : Int)) = false := decide_eq_false (by omega)
  have e1' : decide (100 < xs.length) = false := decide_eq_false h1
  by_cases h2 : 100 < ks.length
  · have e2 : decide (100 < (ks.length : Int)) = true := decide_eq_true (by omega)
    have e2' : decide (100 < ks.length) = true := decide_eq_true h2
    have hA := awake17 Q w
    clear h1 h2 hx hf hcap hcap' hs Q QC
    go_enter Try.func6, Try.ntmps6
    go_wp2_with (go_at_call 7; refine hA.mono ?_; rintro e w2 ⟨rfl, hb⟩; have HB := Lib.hid hb; clear hb)
    go_ret
    exact ⟨rfl, HB.out⟩
  have HN : Hid (ks.length ≤ 1000000 ∧ xs.length ≤ 1000000) := Lib.hid (by omega)
  have hk100 : ks.length ≤ 100 := by omega
  obtain ⟨n, hn⟩ : ∃ n, ks.length = n := ⟨_, rfl⟩
  have e2 : decide (100 < (n : Int)) = false := decide_eq_false (by omega)
  have e2' : decide (100 < n) = false := decide_eq_false (by omega)
  have A0 : Hid (At17 w w a ks b xs) := Lib.hid ⟨Below.refl _ _, hx, hf⟩
  have HAW : Hid (∀ W, Calls Try.prog 7 #[] W fun e w' => e = .returned (.bool true) ∧ Below W.heap.size W w') := Lib.hid fun W => awake17 Q W
  have HOF : Hid (∀ W, At17 w W a ks b xs → Calls Try.prog 8 #[.slice b xs.length cap', .int .i64 s] W fun e w' => e = .returned (.tuple #[.int .i64 (ofV17 xs s), .int .i64 (ofE17 xs s)]) ∧ Below W.heap.size W w') := Lib.hid fun W h => Q.of b cap' xs s W hcap' h.two HN.out.2 hs
  have HSP : Hid (∀ W (k : Nat), k < 4 → At17 w W a ks b xs → Calls Try.prog 10 #[.slice b xs.length cap', .int .i64 (k : Int)] W fun e w' => e = .returned (.tuple #[.int .i64 (spanLo xs k), .int .i64 (spanHi xs k), .int .i64 (spanE xs k)]) ∧ Below W.heap.size W w') := Lib.hid fun W k hk h => Q.span b cap' xs (k : Int) W hcap' h.two HN.out.2 (WalkArith.wf_i64 (by omega))
  have HCF : Hid (∀ W, At17 w W a ks b xs → Calls Try.prog 14 #[.slice a n cap, .slice b xs.length cap'] W fun e w' => e = .returned (.tuple #[.agg #[.int .i64 (cntV ks xs 0), .int .i64 (cntV ks xs 1), .int .i64 (cntV ks xs 2), .int .i64 (cntV ks xs 3)], .int .i64 (cntE ks xs)]) ∧ Below W.heap.size W w') := Lib.hid fun W h => by
    rw [← hn]; exact Q.count a cap ks b cap' xs W hcap h.one HN.out.1 hcap' h.two HN.out.2
  have HQC : Hid (∀ W, At17 w W a ks b xs → Calls Try.prog 17 #[.slice a n cap] W fun e w' => e = .returned (.int .i64 (asksE ks)) ∧ Below W.heap.size W w') := Lib.hid fun W h => by
    rw [← hn]; exact QC a cap ks W h.one HN.out.1
  have HO : Hid (ofE17 xs s = 0 → (Cuts xs ∧ Score17 s) ∧ ofV17 xs s = gradeN xs s) := Lib.hid fun z => ⟨of17_zero z, (of17_yes (of17_zero z).1 (of17_zero z).2).2⟩
  have HZ : Hid (cntE ks xs ≠ 0 → cntV ks xs 0 = 0 ∧ cntV ks xs 1 = 0 ∧ cntV ks xs 2 = 0 ∧ cntV ks xs 3 = 0) := Lib.hid fun z => by
    have h : ¬ (Asks ks ∧ Cuts xs) := fun q => z (cnt_yes q.1 q.2).1
    exact ⟨(cnt_no h).2 0, (cnt_no h).2 1, (cnt_no h).2 2, (cnt_no h).2 3⟩
  have HS : Hid (cntE ks xs = 0 → asksE ks = 0 ∧ (1 ≤ n ∧ n ≤ 8) ∧ (0 ≤ cntV ks xs 0 ∧ 0 ≤ cntV ks xs 1 ∧ 0 ≤ cntV ks xs 2 ∧ 0 ≤ cntV ks xs 3) ∧ cntV ks xs 0 + cntV ks xs 1 + cntV ks xs 2 + cntV ks xs 3 = ((2 ^ n : Nat) : Int)) := Lib.hid fun z => by
    have h := cnt_zero z
    have h2 := (cnt_yes h.1 h.2).2
    have h3 := cnt_sum ks xs (2 ^ ks.length)
    rw [h2 0, h2 1, h2 2, h2 3, ← hn]
    exact ⟨asks_yes h.1, ⟨h.1.1, h.1.2.1⟩, ⟨by omega, by omega, by omega, by omega⟩, by omega⟩
  rw [hn]
  clear hx hf hcap hcap' hs h1 h2 Q QC hn hk100
  generalize cntV ks xs 0 = x0 at *
  generalize cntV ks xs 1 = x1 at *
  generalize cntV ks xs 2 = x2 at *
  generalize cntV ks xs 3 = x3 at *
  generalize cntE ks xs = G at *
  generalize asksE ks = K at *
  generalize ofV17 xs s = v at *
  generalize ofE17 xs s = E at *
  go_enter Try.func6, Try.ntmps6
  go_upto_region 4 with (go_at_call 8; refine (HOF.out _ A0.out).mono ?_; rintro e w1 ⟨rfl, hb⟩; have A1 := Lib.hid (A0.out.step hb); clear hb A0)
  go_wp2
  go_loopw [9] (fun i wr => ∃ k : Nat, i = .int .i64 k ∧ k ≤ 4 ∧ Hid (At17 w wr a ks b xs)) (fun i _ => 4 - (intOf i).toNat)
  case atStart => exact ⟨0, rfl, by omega, A1⟩
  case round =>
    clear A1
    obtain ⟨k, rfl, hk, A2⟩ := hrel
    by_cases hlt : k < 4 ∧ E = 0
    · obtain ⟨hlt, hE⟩ := hlt
      have i0 : decide ((k : Int) < 4) = true := decide_eq_true (by omega)
      have b0 : (E == 0) = true := by rw [beq_iff_eq]; exact hE
      obtain ⟨⟨hc, hsc⟩, hv⟩ := HO.out hE
      have hg : Grade17 (k : Int) := ⟨by omega, by omega⟩
      have hin := in_span hc hg hsc
      have hse := (span_yes hc hg).1
      have hsp := HSP.out wr k hlt A2.out
      rw [hse] at hsp
      rw [← hv] at hin
      have hk1 : k + 1 ≤ 4 := hlt
      generalize spanLo xs (k : Int) = lo at *
      generalize spanHi xs (k : Int) = hi at *
      have cases8 : (decide (lo ≤ s) = true ∧ decide (s ≤ hi) = true ∧ ((k : Int) == v) = true) ∨ (decide (lo ≤ s) = true ∧ decide (s ≤ hi) = false ∧ ((k : Int) == v) = false) ∨ (decide (lo ≤ s) = false ∧ ((k : Int) == v) = false) := by
        by_cases q : (k : Int) = v
        · exact Or.inl ⟨decide_eq_true (hin.2 q).1, decide_eq_true (hin.2 q).2, by rw [beq_iff_eq]; exact q⟩
        · have bq : ((k : Int) == v) = false := by rw [beq_eq_false_iff_ne]; exact q
          by_cases q2 : lo ≤ s
          · exact Or.inr (Or.inl ⟨decide_eq_true q2, decide_eq_false fun q3 => q (hin.1 ⟨q2, q3⟩), bq⟩)
          · exact Or.inr (Or.inr ⟨decide_eq_false q2, bq⟩)
      clear hin hse hlt hc hsc hg hv hE
      go_upto_region 8 with (go_at_call 10; refine hsp.mono ?_; rintro e w3 ⟨rfl, hb⟩; have A3 := Lib.hid (A2.out.step hb); clear hb A2)
      clear hsp
      rcases cases8 with ⟨c1, c2, c3⟩ | ⟨c1, c2, c3⟩ | ⟨c1, c3⟩
      all_goals
        go_wp2
        go_roundw
        case rel => exact ⟨k + 1, by go_num, hk1, A3⟩
        case measure => simp [intOf]; omega
    · have hend : decide ((k : Int) < 4) = false ∨ (decide ((k : Int) < 4) = true ∧ (E == 0) = false) := by
        by_cases q : k < 4
        · exact Or.inr ⟨decide_eq_true (by omega), by rw [beq_eq_false_iff_ne]; exact fun z => hlt ⟨q, z⟩⟩
        · exact Or.inl (decide_eq_false (by omega))
      clear hlt
      clear HO HSP HOF
      rcases hend with z1 | ⟨z1, z2⟩
      all_goals
        go_upto_region 11 with (go_at_call 14; refine (HCF.out _ A2.out).mono ?_; rintro e w4 ⟨rfl, hb⟩; have A4 := Lib.hid ((A2.out.step hb).step (lit16 _ (.cells #[.int .i64 x0, .int .i64 x1, .int .i64 x2, .int .i64 x3] 36))); clear hb A2)
        have hh := heap_alloc_new w4 (.cells #[.int .i64 x0, .int .i64 x1, .int .i64 x2, .int .i64 x3] 36)
        obtain ⟨W, hW⟩ : ∃ W, W = w4.alloc (.cells #[.int .i64 x0, .int .i64 x1, .int .i64 x2, .int .i64 x3] 36) := ⟨_, rfl⟩
        rw [← hW] at hh A4 ⊢
        clear hW HCF
        generalize w4.heap.size = g at *
        have c0 : W.cell? ⟨g, 0, none⟩ = some (.int .i64 x0) := cell_of (j := 0) hh rfl
        have c1 : W.cell? ⟨g, 1, none⟩ = some (.int .i64 x1) := cell_of (j := 1) hh rfl
        have c2 : W.cell? ⟨g, 2, none⟩ = some (.int .i64 x2) := cell_of (j := 2) hh rfl
        have c3 : W.cell? ⟨g, 3, none⟩ = some (.int .i64 x3) := cell_of (j := 3) hh rfl
        clear hh
        by_cases hG : G ≠ 0
        · have b0 : (G != 0) = true := by rw [bne_iff_ne]; exact hG
          obtain ⟨rfl, rfl, rfl, rfl⟩ := HZ.out hG
          have E1 : ∀ w, (Op.equalIn 10000 36 (.agg #[.int .i64 0, .int .i64 0, .int .i64 0, .int .i64 0]) (.agg #[.int .i64 0, .int .i64 0, .int .i64 0, .int .i64 0])).run Try.prog w = .ok true w := fun w => by
            rw [same_four17]; simp
          clear hG HZ HS
          go_wp2_with (go_at_call 7; refine (HAW.out _).mono ?_; rintro e w7 ⟨rfl, hb⟩; have A7 := Lib.hid (A4.out.step hb); clear hb A4)
          go_ret
          exact ⟨rfl, A7.out.below⟩
        · have hG := Decidable.not_not.1 hG
          have b0 : (G != 0) = false := by rw [hG]; rfl
          obtain ⟨hK, ⟨hn0, hn8⟩, ⟨p0, p1, p2, p3⟩, hsum⟩ := HS.out hG
          have hp8 := pow_small hn8
          obtain ⟨T, hT⟩ : ∃ T : Int, ((2 ^ n : Nat) : Int) = T := ⟨_, rfl⟩
          have hcs : (n = 1 ∧ T = 2) ∨ (n = 2 ∧ T = 4) ∨ (n = 3 ∧ T = 8) ∨ (n = 4 ∧ T = 16) ∨ (n = 5 ∧ T = 32) ∨ (n = 6 ∧ T = 64) ∨ (n = 7 ∧ T = 128) ∨ (n = 8 ∧ T = 256) := by
            rcases (by omega : n = 1 ∨ n = 2 ∨ n = 3 ∨ n = 4 ∨ n = 5 ∨ n = 6 ∨ n = 7 ∨ n = 8) with h | h | h | h | h | h | h | h
            all_goals (rw [h] at hT ⊢; simp at hT; omega)
          obtain ⟨S1, hS1⟩ : ∃ S1 : Int, x0 + x1 = S1 := ⟨_, rfl⟩
          obtain ⟨S2, hS2⟩ : ∃ S2 : Int, S1 + x2 = S2 := ⟨_, rfl⟩
          have w1 : IntKind.i64.wrap (x0 + x1) = S1 := by rw [← hS1]; exact IntWalk.i64_in _ (by omega)
          have w2 : IntKind.i64.wrap (S1 + x2) = S2 := by rw [← hS2]; exact IntWalk.i64_in _ (by omega)
          have w3 : IntKind.i64.wrap (S2 + x3) = T := by rw [← hT, ← hsum, ← hS2, ← hS1]; exact IntWalk.i64_in _ (by omega)
          subst hK
          clear hS1 hS2 hT hsum hp8 p0 p1 p2 p3 hn0 hn8 hG HZ HS
          rcases hcs with ⟨rfl, rfl⟩ | ⟨rfl, rfl⟩ | ⟨rfl, rfl⟩ | ⟨rfl, rfl⟩ | ⟨rfl, rfl⟩ | ⟨rfl, rfl⟩ | ⟨rfl, rfl⟩ | ⟨rfl, rfl⟩
          all_goals
            go_wp2_with (first
              | (go_at_call 17; refine (HQC.out _ A4.out).mono ?_; rintro e w6 ⟨rfl, hb⟩; have A6 := Lib.hid (A4.out.step hb); clear hb A4)
              | (go_at_call 7; refine (HAW.out _).mono ?_; rintro e w7 ⟨rfl, hb⟩; have A7 := Lib.hid (A6.out.step hb); clear hb A6))
            go_ret
            exact ⟨rfl, A7.out.below⟩
end Go.Proofs.Yteeaaibcdbfmfaa
