/- The walk of GradeSteps, from what is wanted of grade's functions. -/
import Derived.Test.YteeaaibcdbfmfaaWalks17
import Derived.Deep.RegionHeld3
import Derived.Deep.CutBlock
import Derived.Deep.DeepCutAuto
namespace Go.Proofs.Yteeaaibcdbfmfaa
open Go.RowKit

/-- Two cells of a new block. -/
theorem pair17 (w : World) (x y : Int) (t : TypeId) : (w.alloc (.cells #[.int .i64 x, .int .i64 y] t)).heap[w.heap.size]? = some (.cells #[.int .i64 x, .int .i64 y] t (0, 0)) := heap_alloc_new w _
set_option linter.unusedSimpArgs false in
set_option maxRecDepth 100000 in
set_option maxHeartbeats 8000000 in
theorem gradeSteps_from (Q : Grade17S) (w : World) (a : Option Addr) (cap : Nat) (xs : List Int) (_ : xs.length ≤ maxLen) (hx : Ints w.heap.size w a xs) (hcap : xs.length ≤ cap)
    (b : Option Addr) (cap' : Nat) (ys : List Int) (_ : ys.length ≤ maxLen) (hf : Ints w.heap.size w b ys) (hcap' : ys.length ≤ cap') (p q : Int) (hp : (Lit.int .i64 p).wf = true) (hq : (Lit.int .i64 q).wf = true) :
    Calls Try.prog 5 #[.slice a xs.length cap, .slice b ys.length cap', .agg #[.int .i64 p, .int .i64 q]] w fun e w' => e = .returned (.bool true) ∧ Below w.heap.size w w' := by
  have HB0 : Hid (Below w.heap.size w (w.alloc (.cells #[.int .i64 p, .int .i64 q] 45))) := Lib.hid (lit16 w _)
  by_cases h1 : 100 < xs.length
  · have e1 : decide (100 < (xs.length : Int)) = true := decide_eq_true (by omega)
    have e1' : decide (100 < xs.length) = true := decide_eq_true h1
    have hA := awake17 Q (w.alloc (.cells #[.int .i64 p, .int .i64 q] 45))
    clear h1 hx hf hcap hcap' hp hq Q
    go_enter Try.func5, Try.ntmps5
    go_wp2_with (go_at_call 7; refine hA.mono ?_; rintro e w2 ⟨rfl, hb⟩; have HB := Lib.hid (HB0.out.trans (hb.mono HB0.out.size)); clear hb)
    go_ret
    exact ⟨rfl, HB.out⟩
  have e1 : decide (100 < (xs.length : Int)) = false := decide_eq_false (by omega)
  have e1' : decide (100 < xs.length) = false := decide_eq_false h1
  by_cases h2 : 100 < ys.length
  · have e2 : decide (100 < (ys.length : Int)) = true := decide_eq_true (by omega)
    have e2' : decide (100 < ys.length) = true := decide_eq_true h2
    have hA := awake17 Q (w.alloc (.cells #[.int .i64 p, .int .i64 q] 45))
    clear h1 h2 hx hf hcap hcap' hp hq Q
    go_enter Try.func5, Try.ntmps5
    go_wp2_with (go_at_call 7; refine hA.mono ?_; rintro e w2 ⟨rfl, hb⟩; have HB := Lib.hid (HB0.out.trans (hb.mono HB0.out.size)); clear hb)
    go_ret
    exact ⟨rfl, HB.out⟩
  have e2 : decide (100 < (ys.length : Int)) = false := decide_eq_false (by omega)
  have e2' : decide (100 < ys.length) = false := decide_eq_false h2
  have HN : Hid (xs.length ≤ 1000000 ∧ ys.length ≤ 1000000) := Lib.hid (by omega)
  have A0 : Hid (At17 w (w.alloc (.cells #[.int .i64 p, .int .i64 q] 45)) a xs b ys) := Lib.hid ⟨lit16 w _, hx.lit _, hf.lit _⟩
  have HAW : Hid (∀ W, Calls Try.prog 7 #[] W fun e w' => e = .returned (.bool true) ∧ Below W.heap.size W w') := Lib.hid fun W => awake17 Q W
  have H1 : Hid (∀ W, At17 w W a xs b ys → Calls Try.prog 8 #[.slice a xs.length cap, .int .i64 p] W fun e w' => e = .returned (.tuple #[.int .i64 (ofV17 xs p), .int .i64 (ofE17 xs p)]) ∧ Below W.heap.size W w') := Lib.hid fun W h => Q.of a cap xs p W hcap h.one HN.out.1 hp
  have H2 : Hid (∀ W, At17 w W a xs b ys → Calls Try.prog 8 #[.slice a xs.length cap, .int .i64 q] W fun e w' => e = .returned (.tuple #[.int .i64 (ofV17 xs q), .int .i64 (ofE17 xs q)]) ∧ Below W.heap.size W w') := Lib.hid fun W h => Q.of a cap xs q W hcap h.one HN.out.1 hq
  have H3 : Hid (∀ W, At17 w W a xs b ys → Calls Try.prog 8 #[.slice b ys.length cap', .int .i64 p] W fun e w' => e = .returned (.tuple #[.int .i64 (ofV17 ys p), .int .i64 (ofE17 ys p)]) ∧ Below W.heap.size W w') := Lib.hid fun W h => Q.of b cap' ys p W hcap' h.two HN.out.2 hp
  have K1 : Hid (ofE17 xs p = 0 → ofE17 xs q = 0 → p ≤ q → ofV17 xs p ≤ ofV17 xs q) := Lib.hid fun z1 z2 z3 => by
    have y1 := of17_zero z1
    have y2 := of17_zero z2
    rw [(of17_yes y1.1 y1.2).2, (of17_yes y2.1 y2.2).2]
    have := (grade_mono xs z3).resolve_right (fun n => n y1.1)
    omega
  have K2 : Hid (ofE17 xs p = 0 → ofE17 ys p = 0 → (xs.length = 3 ∧ ys.length = 3) ∧ (numAt xs 0 ≤ numAt ys 0 → numAt xs 1 ≤ numAt ys 1 → numAt xs 2 ≤ numAt ys 2 → ofV17 ys p ≤ ofV17 xs p)) := Lib.hid fun z1 z2 => by
    have y1 := of17_zero z1
    have y2 := of17_zero z2
    refine ⟨⟨y1.1.1, y2.1.1⟩, fun c0 c1 c2 => ?_⟩
    rw [(of17_yes y1.1 y1.2).2, (of17_yes y2.1 y2.2).2]
    have := grade_cuts p c0 c1 c2
    omega
  clear hx hf hcap hcap' hp hq h1 h2 Q
  generalize ofV17 xs p = x at *
  generalize ofE17 xs p = E at *
  generalize ofV17 xs q = y at *
  generalize ofE17 xs q = F at *
  generalize ofV17 ys p = z at *
  generalize ofE17 ys p = G at *
  have P0 := Lib.hid (pair17 w p q 45)
  go_enter Try.func5, Try.ntmps5
  go_upto_region 4 with (go_at_call 8; refine (H1.out _ A0.out).mono ?_; rintro e w1 ⟨rfl, hb⟩; have A1 := Lib.hid (A0.out.step hb); have P1 := Lib.hid (kept17 P0.out hb); clear hb A0 P0)
  have p0 := cell_of (j := 0) P1.out rfl
  have p1 := cell_of (j := 1) P1.out rfl
  go_upto_region 5 with (go_at_call 8; refine (H2.out _ A1.out).mono ?_; rintro e w2 ⟨rfl, hb⟩; have A2 := Lib.hid (A1.out.step hb); have P2 := Lib.hid (kept17 P1.out hb); clear hb A1 P1)
  clear p0 p1
  have p0 := cell_of (j := 0) P2.out rfl
  have p1 := cell_of (j := 1) P2.out rfl
  go_upto_region 6 with (go_at_call 8; refine (H3.out _ A2.out).mono ?_; rintro e w3 ⟨rfl, hb⟩; have A3 := Lib.hid (A2.out.step hb); have P3 := Lib.hid (kept17 P2.out hb); clear hb A2 P2)
  clear p0 p1
  have p0 := cell_of (j := 0) P3.out rfl
  have p1 := cell_of (j := 1) P3.out rfl
  clear P3 H1 H2 H3
  generalize w.heap.size = g0 at p0 p1 ⊢
  have cases6 : (E == 0) = false ∨ ((E == 0) = true ∧ (F == 0) = false) ∨ ((E == 0) = true ∧ (F == 0) = true ∧ decide (p ≤ q) = false) ∨ ((E == 0) = true ∧ (F == 0) = true ∧ decide (p ≤ q) = true ∧ decide (y < x) = false) := by
    by_cases hE : E = 0
    · have bE : (E == 0) = true := by rw [beq_iff_eq]; exact hE
      by_cases hF : F = 0
      · have bF : (F == 0) = true := by rw [beq_iff_eq]; exact hF
        by_cases hpq : p ≤ q
        · exact Or.inr (Or.inr (Or.inr ⟨bE, bF, decide_eq_true hpq, decide_eq_false (by have := K1.out hE hF hpq; omega)⟩))
        · exact Or.inr (Or.inr (Or.inl ⟨bE, bF, decide_eq_false hpq⟩))
      · exact Or.inr (Or.inl ⟨bE, by rw [beq_eq_false_iff_ne]; exact hF⟩)
    · exact Or.inl (by rw [beq_eq_false_iff_ne]; exact hE)
  go_cut [60] (fun s60 wx => s60 = .bool false ∧ w3 = wx)
  case first =>
    rcases cases6 with b1 | ⟨b1, b2⟩ | ⟨b1, b2, b3⟩ | ⟨b1, b2, b3, b4⟩
    all_goals
      go_wp2
      go_meet
      exact ⟨rfl, rfl⟩
  case rest =>
    obtain ⟨rfl, rfl⟩ := hcut
    clear cases6 K1 p0 p1
    by_cases hE : E ≠ 0
    · have b9 : (E != 0) = true := by rw [bne_iff_ne]; exact hE
      clear hE K2
      go_wp2_with (go_at_call 7; refine (HAW.out _).mono ?_; rintro e w7 ⟨rfl, hb⟩; have A7 := Lib.hid (A3.out.step hb); clear hb A3)
      go_ret
      exact ⟨rfl, A7.out.below⟩
    have hE := Decidable.not_not.1 hE
    have b9 : (E != 0) = false := by rw [hE]; rfl
    by_cases hG : G ≠ 0
    · have b10 : (G != 0) = true := by rw [bne_iff_ne]; exact hG
      clear hE hG K2
      go_wp2_with (go_at_call 7; refine (HAW.out _).mono ?_; rintro e w7 ⟨rfl, hb⟩; have A7 := Lib.hid (A3.out.step hb); clear hb A3)
      go_ret
      exact ⟨rfl, A7.out.below⟩
    have hG := Decidable.not_not.1 hG
    have b10 : (G != 0) = false := by rw [hG]; rfl
    obtain ⟨⟨hl1, hl2⟩, hz⟩ := K2.out hE hG
    have b11 : ((xs.length : Int) != 3) = false := by rw [hl1]; rfl
    have b12 : ((ys.length : Int) != 3) = false := by rw [hl2]; rfl
    obtain ⟨ba, oa, u0, u1, u2, rfl, hBa, rfl, s0, s1, s2⟩ := three_at17 A3.out.one hl1
    obtain ⟨bb, ob, v0, v1, v2, rfl, hBb, rfl, t0, t1, t2⟩ := three_at17 A3.out.two hl2
    have hz2 : u0 ≤ v0 → u1 ≤ v1 → u2 ≤ v2 → z ≤ x := hz
    have HZ := Lib.hid hz2
    clear hz hz2 hl1 hl2 hE hG K2
    go_upto_region 10 with fail
    have i0 : (0 : Int) < 3 := by omega
    have i1 : (1 : Int) < 3 := by omega
    have i2 : (2 : Int) < 3 := by omega
    have cases10 : decide (v0 < u0) = true ∨ (decide (v0 < u0) = false ∧ decide (v1 < u1) = true) ∨ (decide (v0 < u0) = false ∧ decide (v1 < u1) = false ∧ decide (v2 < u2) = true) ∨ (decide (v0 < u0) = false ∧ decide (v1 < u1) = false ∧ decide (v2 < u2) = false ∧ decide (z ≤ x) = true) := by
      by_cases r0 : v0 < u0
      · exact Or.inl (decide_eq_true r0)
      by_cases r1 : v1 < u1
      · exact Or.inr (Or.inl ⟨decide_eq_false r0, decide_eq_true r1⟩)
      by_cases r2 : v2 < u2
      · exact Or.inr (Or.inr (Or.inl ⟨decide_eq_false r0, decide_eq_false r1, decide_eq_true r2⟩))
      · exact Or.inr (Or.inr (Or.inr ⟨decide_eq_false r0, decide_eq_false r1, decide_eq_false r2, decide_eq_true (HZ.out (by omega) (by omega) (by omega))⟩))
    -- BEGIN drawn
    have SS : (fun v => v.cell? ⟨ba, oa, none⟩ = some (.int .i64 u0) ∧ v.cell? ⟨ba, oa + 1, none⟩ = some (.int .i64 u1) ∧ v.cell? ⟨ba, oa + 2, none⟩ = some (.int .i64 u2) ∧ v.cell? ⟨bb, ob, none⟩ = some (.int .i64 v0) ∧ v.cell? ⟨bb, ob + 1, none⟩ = some (.int .i64 v1) ∧ v.cell? ⟨bb, ob + 2, none⟩ = some (.int .i64 v2)) w3.drew := ⟨s0, s1, s2, t0, t1, t2⟩
    have HSS : Hid (∀ V, Below w3.drew.heap.size w3.drew V → (fun v => v.cell? ⟨ba, oa, none⟩ = some (.int .i64 u0) ∧ v.cell? ⟨ba, oa + 1, none⟩ = some (.int .i64 u1) ∧ v.cell? ⟨ba, oa + 2, none⟩ = some (.int .i64 u2) ∧ v.cell? ⟨bb, ob, none⟩ = some (.int .i64 v0) ∧ v.cell? ⟨bb, ob + 1, none⟩ = some (.int .i64 v1) ∧ v.cell? ⟨bb, ob + 2, none⟩ = some (.int .i64 v2)) V) := Lib.hid fun V hb => ⟨(hb.cell (p := ⟨ba, oa, none⟩) hBa).trans s0, (hb.cell (p := ⟨ba, oa + 1, none⟩) hBa).trans s1, (hb.cell (p := ⟨ba, oa + 2, none⟩) hBa).trans s2, (hb.cell (p := ⟨bb, ob, none⟩) hBb).trans t0, (hb.cell (p := ⟨bb, ob + 1, none⟩) hBb).trans t1, (hb.cell (p := ⟨bb, ob + 2, none⟩) hBb).trans t2⟩
    rcases cases10 with r0 | ⟨r0, r1⟩ | ⟨r0, r1, r2⟩ | ⟨r0, r1, r2, r3⟩
    · refine wp_region_held_drew (S := (fun v => v.cell? ⟨ba, oa, none⟩ = some (.int .i64 u0) ∧ v.cell? ⟨ba, oa + 1, none⟩ = some (.int .i64 u1) ∧ v.cell? ⟨ba, oa + 2, none⟩ = some (.int .i64 u2) ∧ v.cell? ⟨bb, ob, none⟩ = some (.int .i64 v0) ∧ v.cell? ⟨bb, ob + 1, none⟩ = some (.int .i64 v1) ∧ v.cell? ⟨bb, ob + 2, none⟩ = some (.int .i64 v2))) (by kernel_rfl) SS (fun hHeld => ?_)
      refine wpAnyH_take (i := 0) (v := ?v0a) rfl (by kernel_rfl) (by kernel_rfl) (by kernel_rfl) (fun _ _ _ h => h) (Or.inl ⟨by kernel_rfl, ?y0a⟩) (by assumption) ?r0a
      case y0a => (intro v hSv; (try dsimp only at hSv); go_simp; all_goals with_reducible rfl)
      try simp only [Act.put, List.setIfInBounds_toArray, List.set_cons_zero, List.set_cons_succ]
      refine wpAnyH_take (i := 1) (v := ?v1a) rfl (by kernel_rfl) (by kernel_rfl) (by kernel_rfl) (fun _ _ _ h => h) (Or.inl ⟨by kernel_rfl, ?y1a⟩) (by assumption) ?r1a
      case y1a => (intro v hSv; (try dsimp only at hSv); go_simp; all_goals with_reducible rfl)
      try simp only [Act.put, List.setIfInBounds_toArray, List.set_cons_zero, List.set_cons_succ]
      refine wpAnyH_take (i := 2) (v := ?v2a) rfl (by kernel_rfl) (by kernel_rfl) (by kernel_rfl) (fun _ _ _ h => h) (Or.inl ⟨by kernel_rfl, ?y2a⟩) (by assumption) ?r2a
      case y2a => (intro v hSv; (try dsimp only at hSv); go_simp; all_goals with_reducible rfl)
      try simp only [Act.put, List.setIfInBounds_toArray, List.set_cons_zero, List.set_cons_succ]
      refine wpAnyH_take (i := 3) (v := ?v3a) rfl (by kernel_rfl) (by kernel_rfl) (by kernel_rfl) (fun _ _ _ h => h) (Or.inl ⟨by kernel_rfl, ?y3a⟩) (by assumption) ?r3a
      case y3a => (intro v hSv; (try dsimp only at hSv); go_simp; all_goals with_reducible rfl)
      try simp only [Act.put, List.setIfInBounds_toArray, List.set_cons_zero, List.set_cons_succ]
      refine wpAnyH_take (i := 4) (v := ?v4a) rfl (by kernel_rfl) (by kernel_rfl) (by kernel_rfl) (fun _ _ _ h => h) (Or.inl ⟨by kernel_rfl, ?y4a⟩) (by assumption) ?r4a
      case y4a => (intro v hSv; (try dsimp only at hSv); go_simp; all_goals with_reducible rfl)
      try simp only [Act.put, List.setIfInBounds_toArray, List.set_cons_zero, List.set_cons_succ]
      refine wpAnyH_take (i := 5) (v := ?v5a) rfl (by kernel_rfl) (by kernel_rfl) (by kernel_rfl) (fun _ _ _ h => h) (Or.inl ⟨by kernel_rfl, ?y5a⟩) (by assumption) ?r5a
      case y5a => (intro v hSv; (try dsimp only at hSv); go_simp; all_goals with_reducible rfl)
      try simp only [Act.put, List.setIfInBounds_toArray, List.set_cons_zero, List.set_cons_succ]
      refine wpAnyH_take (i := 6) (v := .bool true) rfl (by kernel_rfl) (by kernel_rfl) (by kernel_rfl) (fun _ _ _ h => h) (Or.inl ⟨by kernel_rfl, ?y6a⟩) (by assumption) ?r6a
      case y6a => (intro v hSv; (try dsimp only at hSv); go_simp; all_goals first | (with_reducible rfl) | (rw [r0]) | (simp [r0]))
      try simp only [Act.put, List.setIfInBounds_toArray, List.set_cons_zero, List.set_cons_succ]
      refine wpAnyH_take (i := 7) (v := ?v7a) rfl (by kernel_rfl) (by kernel_rfl) (by kernel_rfl) (fun _ _ _ h => h) (Or.inl ⟨by kernel_rfl, ?y7a⟩) (by assumption) ?r7a
      case y7a => (intro v hSv; (try dsimp only at hSv); go_simp; all_goals with_reducible rfl)
      try simp only [Act.put, List.setIfInBounds_toArray, List.set_cons_zero, List.set_cons_succ]
      refine wpAnyH_take (i := 8) (v := undef) rfl (by kernel_rfl) (by kernel_rfl) (by kernel_rfl) (fun _ _ _ h => h) (Or.inr ⟨by kernel_rfl, rfl⟩) (by assumption) ?r8a
      try simp only [Act.put, List.setIfInBounds_toArray, List.set_cons_zero, List.set_cons_succ]
      refine wpAnyH_take (i := 9) (v := undef) rfl (by kernel_rfl) (by kernel_rfl) (by kernel_rfl) (fun _ _ _ h => h) (Or.inr ⟨by kernel_rfl, rfl⟩) (by assumption) ?r9a
      try simp only [Act.put, List.setIfInBounds_toArray, List.set_cons_zero, List.set_cons_succ]
      refine wpAnyH_take (i := 10) (v := undef) rfl (by kernel_rfl) (by kernel_rfl) (by kernel_rfl) (fun _ _ _ h => h) (Or.inr ⟨by kernel_rfl, rfl⟩) (by assumption) ?r10a
      try simp only [Act.put, List.setIfInBounds_toArray, List.set_cons_zero, List.set_cons_succ]
      refine wpAnyH_take (i := 11) (v := undef) rfl (by kernel_rfl) (by kernel_rfl) (by kernel_rfl) (fun _ _ _ h => h) (Or.inr ⟨by kernel_rfl, rfl⟩) (by assumption) ?r11a
      try simp only [Act.put, List.setIfInBounds_toArray, List.set_cons_zero, List.set_cons_succ]
      refine wpAnyH_take (i := 12) (v := undef) rfl (by kernel_rfl) (by kernel_rfl) (by kernel_rfl) (fun _ _ _ h => h) (Or.inr ⟨by kernel_rfl, rfl⟩) (by assumption) ?r12a
      try simp only [Act.put, List.setIfInBounds_toArray, List.set_cons_zero, List.set_cons_succ]
      refine wpAnyH_take (i := 13) (v := undef) rfl (by kernel_rfl) (by kernel_rfl) (by kernel_rfl) (fun _ _ _ h => h) (Or.inr ⟨by kernel_rfl, rfl⟩) (by assumption) ?r13a
      try simp only [Act.put, List.setIfInBounds_toArray, List.set_cons_zero, List.set_cons_succ]
      refine wpAnyH_take (i := 14) (v := undef) rfl (by kernel_rfl) (by kernel_rfl) (by kernel_rfl) (fun _ _ _ h => h) (Or.inr ⟨by kernel_rfl, rfl⟩) (by assumption) ?r14a
      try simp only [Act.put, List.setIfInBounds_toArray, List.set_cons_zero, List.set_cons_succ]
      refine wpAnyH_take (i := 15) (v := ?v15a) rfl (by kernel_rfl) (by kernel_rfl) (by kernel_rfl) (fun _ _ _ h => h) (Or.inl ⟨by kernel_rfl, ?y15a⟩) (by assumption) ?r15a
      case y15a => (intro v hSv; (try dsimp only at hSv); go_simp; all_goals with_reducible rfl)
      try simp only [Act.put, List.setIfInBounds_toArray, List.set_cons_zero, List.set_cons_succ]
      refine wpAnyH_take (i := 16) (v := ?v16a) rfl (by kernel_rfl) (by kernel_rfl) (by kernel_rfl) (fun _ _ _ h => h) (Or.inl ⟨by kernel_rfl, ?y16a⟩) (by assumption) ?r16a
      case y16a => (intro v hSv; (try dsimp only at hSv); go_simp; all_goals with_reducible rfl)
      try simp only [Act.put, List.setIfInBounds_toArray, List.set_cons_zero, List.set_cons_succ]
      refine wpAnyH_take (i := 17) (v := undef) rfl (by kernel_rfl) (by kernel_rfl) (by kernel_rfl) (fun _ _ _ h => h) (Or.inr ⟨by kernel_rfl, rfl⟩) (by assumption) ?r17a
      try simp only [Act.put, List.setIfInBounds_toArray, List.set_cons_zero, List.set_cons_succ]
      refine wpAnyH_take (i := 18) (v := undef) rfl (by kernel_rfl) (by kernel_rfl) (by kernel_rfl) (fun _ _ _ h => h) (Or.inr ⟨by kernel_rfl, rfl⟩) (by assumption) ?r18a
      try simp only [Act.put, List.setIfInBounds_toArray, List.set_cons_zero, List.set_cons_succ]
      refine wpAnyH_take (i := 19) (v := undef) rfl (by kernel_rfl) (by kernel_rfl) (by kernel_rfl) (fun _ _ _ h => h) (Or.inr ⟨by kernel_rfl, rfl⟩) (by assumption) ?r19a
      try simp only [Act.put, List.setIfInBounds_toArray, List.set_cons_zero, List.set_cons_succ]
      refine wpAnyH_take (i := 20) (v := undef) rfl (by kernel_rfl) (by kernel_rfl) (by kernel_rfl) (fun _ _ _ h => h) (Or.inr ⟨by kernel_rfl, rfl⟩) (by assumption) ?r20a
      try simp only [Act.put, List.setIfInBounds_toArray, List.set_cons_zero, List.set_cons_succ]
      refine wpAnyH_take (i := 21) (v := undef) rfl (by kernel_rfl) (by kernel_rfl) (by kernel_rfl) (fun _ _ _ h => h) (Or.inr ⟨by kernel_rfl, rfl⟩) (by assumption) ?r21a
      try simp only [Act.put, List.setIfInBounds_toArray, List.set_cons_zero, List.set_cons_succ]
      refine wpAnyH_take (i := 22) (v := undef) rfl (by kernel_rfl) (by kernel_rfl) (by kernel_rfl) (fun _ _ _ h => h) (Or.inr ⟨by kernel_rfl, rfl⟩) (by assumption) ?r22a
      try simp only [Act.put, List.setIfInBounds_toArray, List.set_cons_zero, List.set_cons_succ]
      refine wpAnyH_take (i := 23) (v := undef) rfl (by kernel_rfl) (by kernel_rfl) (by kernel_rfl) (fun _ _ _ h => h) (Or.inr ⟨by kernel_rfl, rfl⟩) (by assumption) ?r23a
      try simp only [Act.put, List.setIfInBounds_toArray, List.set_cons_zero, List.set_cons_succ]
      refine wpAnyH_take (i := 24) (v := ?v24a) rfl (by kernel_rfl) (by kernel_rfl) (by kernel_rfl) (fun _ _ _ h => h) (Or.inl ⟨by kernel_rfl, ?y24a⟩) (by assumption) ?r24a
      case y24a => (intro v hSv; (try dsimp only at hSv); go_simp; all_goals with_reducible rfl)
      try simp only [Act.put, List.setIfInBounds_toArray, List.set_cons_zero, List.set_cons_succ]
      refine wpAnyH_take (i := 25) (v := ?v25a) rfl (by kernel_rfl) (by kernel_rfl) (by kernel_rfl) (fun _ _ _ h => h) (Or.inl ⟨by kernel_rfl, ?y25a⟩) (by assumption) ?r25a
      case y25a => (intro v hSv; (try dsimp only at hSv); go_simp; all_goals with_reducible rfl)
      try simp only [Act.put, List.setIfInBounds_toArray, List.set_cons_zero, List.set_cons_succ]
      refine wpAnyH_take (i := 26) (v := undef) rfl (by kernel_rfl) (by kernel_rfl) (by kernel_rfl) (fun _ _ _ h => h) (Or.inr ⟨by kernel_rfl, rfl⟩) (by assumption) ?r26a
      try simp only [Act.put, List.setIfInBounds_toArray, List.set_cons_zero, List.set_cons_succ]
      refine wpAnyH_take (i := 27) (v := undef) rfl (by kernel_rfl) (by kernel_rfl) (by kernel_rfl) (fun _ _ _ h => h) (Or.inr ⟨by kernel_rfl, rfl⟩) (by assumption) ?r27a
      try simp only [Act.put, List.setIfInBounds_toArray, List.set_cons_zero, List.set_cons_succ]
      refine wpAnyH_take (i := 28) (v := undef) rfl (by kernel_rfl) (by kernel_rfl) (by kernel_rfl) (fun _ _ _ h => h) (Or.inr ⟨by kernel_rfl, rfl⟩) (by assumption) ?r28a
      try simp only [Act.put, List.setIfInBounds_toArray, List.set_cons_zero, List.set_cons_succ]
      refine wpAnyH_take (i := 29) (v := ?v29a) rfl (by kernel_rfl) (by kernel_rfl) (by kernel_rfl) (fun _ _ _ h => h) (Or.inl ⟨by kernel_rfl, ?y29a⟩) (by assumption) ?r29a
      case y29a => (intro v hSv; (try dsimp only at hSv); go_simp; all_goals with_reducible rfl)
      try simp only [Act.put, List.setIfInBounds_toArray, List.set_cons_zero, List.set_cons_succ]
      refine wpAnyH_take (i := 30) (v := ?v30a) rfl (by kernel_rfl) (by kernel_rfl) (by kernel_rfl) (fun _ _ _ h => h) (Or.inl ⟨by kernel_rfl, ?y30a⟩) (by assumption) ?r30a
      case y30a => (intro v hSv; (try dsimp only at hSv); go_simp; all_goals with_reducible rfl)
      try simp only [Act.put, List.setIfInBounds_toArray, List.set_cons_zero, List.set_cons_succ]
      refine wpAnyH_ready (rs := [31]) (by kernel_rfl) (by simp) ?_
      refine AllReadyH.cons rfl (fun K hK => ?_) AllReadyH.nil
      go_simp
      go_at_call 7
      refine (HAW.out _).mono ?_
      rintro e w7 ⟨rfl, hb⟩
      have A7 := Lib.hid ((A3.out.step (Below.refl _ w3).drew).step hb)
      have hS7 := HSS.out _ hb
      clear hb
      go_simp
      refine hK.out _ _ hS7 (fun hHeld => ?_)
      clear hK K
      try simp only [Act.put, List.setIfInBounds_toArray, List.set_cons_zero, List.set_cons_succ]
      refine wpAnyH_take (i := 32) (v := ?v32a) rfl (by kernel_rfl) (by kernel_rfl) (by kernel_rfl) (fun _ _ _ h => h) (Or.inl ⟨by kernel_rfl, ?y32a⟩) (by assumption) ?r32a
      case y32a => (intro v hSv; (try dsimp only at hSv); go_simp; all_goals with_reducible rfl)
      try simp only [Act.put, List.setIfInBounds_toArray, List.set_cons_zero, List.set_cons_succ]
      refine wpAnyH_take (i := 33) (v := ?v33a) rfl (by kernel_rfl) (by kernel_rfl) (by kernel_rfl) (fun _ _ _ h => h) (Or.inl ⟨by kernel_rfl, ?y33a⟩) (by assumption) ?r33a
      case y33a => (intro v hSv; (try dsimp only at hSv); go_simp; all_goals with_reducible rfl)
      try simp only [Act.put, List.setIfInBounds_toArray, List.set_cons_zero, List.set_cons_succ]
      refine wpAnyH_done (by kernel_rfl) ?_ _
      go_wp2
      go_ret
      exact ⟨rfl, A7.out.below⟩
    · refine wp_region_held_drew (S := (fun v => v.cell? ⟨ba, oa, none⟩ = some (.int .i64 u0) ∧ v.cell? ⟨ba, oa + 1, none⟩ = some (.int .i64 u1) ∧ v.cell? ⟨ba, oa + 2, none⟩ = some (.int .i64 u2) ∧ v.cell? ⟨bb, ob, none⟩ = some (.int .i64 v0) ∧ v.cell? ⟨bb, ob + 1, none⟩ = some (.int .i64 v1) ∧ v.cell? ⟨bb, ob + 2, none⟩ = some (.int .i64 v2))) (by kernel_rfl) SS (fun hHeld => ?_)
      refine wpAnyH_take (i := 0) (v := ?v0b) rfl (by kernel_rfl) (by kernel_rfl) (by kernel_rfl) (fun _ _ _ h => h) (Or.inl ⟨by kernel_rfl, ?y0b⟩) (by assumption) ?r0b
      case y0b => (intro v hSv; (try dsimp only at hSv); go_simp; all_goals with_reducible rfl)
      try simp only [Act.put, List.setIfInBounds_toArray, List.set_cons_zero, List.set_cons_succ]
      refine wpAnyH_take (i := 1) (v := ?v1b) rfl (by kernel_rfl) (by kernel_rfl) (by kernel_rfl) (fun _ _ _ h => h) (Or.inl ⟨by kernel_rfl, ?y1b⟩) (by assumption) ?r1b
      case y1b => (intro v hSv; (try dsimp only at hSv); go_simp; all_goals with_reducible rfl)
      try simp only [Act.put, List.setIfInBounds_toArray, List.set_cons_zero, List.set_cons_succ]
      refine wpAnyH_take (i := 2) (v := ?v2b) rfl (by kernel_rfl) (by kernel_rfl) (by kernel_rfl) (fun _ _ _ h => h) (Or.inl ⟨by kernel_rfl, ?y2b⟩) (by assumption) ?r2b
      case y2b => (intro v hSv; (try dsimp only at hSv); go_simp; all_goals with_reducible rfl)
      try simp only [Act.put, List.setIfInBounds_toArray, List.set_cons_zero, List.set_cons_succ]
      refine wpAnyH_take (i := 3) (v := ?v3b) rfl (by kernel_rfl) (by kernel_rfl) (by kernel_rfl) (fun _ _ _ h => h) (Or.inl ⟨by kernel_rfl, ?y3b⟩) (by assumption) ?r3b
      case y3b => (intro v hSv; (try dsimp only at hSv); go_simp; all_goals with_reducible rfl)
      try simp only [Act.put, List.setIfInBounds_toArray, List.set_cons_zero, List.set_cons_succ]
      refine wpAnyH_take (i := 4) (v := ?v4b) rfl (by kernel_rfl) (by kernel_rfl) (by kernel_rfl) (fun _ _ _ h => h) (Or.inl ⟨by kernel_rfl, ?y4b⟩) (by assumption) ?r4b
      case y4b => (intro v hSv; (try dsimp only at hSv); go_simp; all_goals with_reducible rfl)
      try simp only [Act.put, List.setIfInBounds_toArray, List.set_cons_zero, List.set_cons_succ]
      refine wpAnyH_take (i := 5) (v := ?v5b) rfl (by kernel_rfl) (by kernel_rfl) (by kernel_rfl) (fun _ _ _ h => h) (Or.inl ⟨by kernel_rfl, ?y5b⟩) (by assumption) ?r5b
      case y5b => (intro v hSv; (try dsimp only at hSv); go_simp; all_goals with_reducible rfl)
      try simp only [Act.put, List.setIfInBounds_toArray, List.set_cons_zero, List.set_cons_succ]
      refine wpAnyH_take (i := 6) (v := .bool false) rfl (by kernel_rfl) (by kernel_rfl) (by kernel_rfl) (fun _ _ _ h => h) (Or.inl ⟨by kernel_rfl, ?y6b⟩) (by assumption) ?r6b
      case y6b => (intro v hSv; (try dsimp only at hSv); go_simp; all_goals first | (with_reducible rfl) | (rw [r0]) | (simp [r0]))
      try simp only [Act.put, List.setIfInBounds_toArray, List.set_cons_zero, List.set_cons_succ]
      refine wpAnyH_take (i := 7) (v := ?v7b) rfl (by kernel_rfl) (by kernel_rfl) (by kernel_rfl) (fun _ _ _ h => h) (Or.inl ⟨by kernel_rfl, ?y7b⟩) (by assumption) ?r7b
      case y7b => (intro v hSv; (try dsimp only at hSv); go_simp; all_goals with_reducible rfl)
      try simp only [Act.put, List.setIfInBounds_toArray, List.set_cons_zero, List.set_cons_succ]
      refine wpAnyH_take (i := 8) (v := ?v8b) rfl (by kernel_rfl) (by kernel_rfl) (by kernel_rfl) (fun _ _ _ h => h) (Or.inl ⟨by kernel_rfl, ?y8b⟩) (by assumption) ?r8b
      case y8b => (intro v hSv; (try dsimp only at hSv); go_simp; all_goals with_reducible rfl)
      try simp only [Act.put, List.setIfInBounds_toArray, List.set_cons_zero, List.set_cons_succ]
      refine wpAnyH_take (i := 9) (v := ?v9b) rfl (by kernel_rfl) (by kernel_rfl) (by kernel_rfl) (fun _ _ _ h => h) (Or.inl ⟨by kernel_rfl, ?y9b⟩) (by assumption) ?r9b
      case y9b => (intro v hSv; (try dsimp only at hSv); go_simp; all_goals with_reducible rfl)
      try simp only [Act.put, List.setIfInBounds_toArray, List.set_cons_zero, List.set_cons_succ]
      refine wpAnyH_take (i := 10) (v := ?v10b) rfl (by kernel_rfl) (by kernel_rfl) (by kernel_rfl) (fun _ _ _ h => h) (Or.inl ⟨by kernel_rfl, ?y10b⟩) (by assumption) ?r10b
      case y10b => (intro v hSv; (try dsimp only at hSv); go_simp; all_goals with_reducible rfl)
      try simp only [Act.put, List.setIfInBounds_toArray, List.set_cons_zero, List.set_cons_succ]
      refine wpAnyH_take (i := 11) (v := ?v11b) rfl (by kernel_rfl) (by kernel_rfl) (by kernel_rfl) (fun _ _ _ h => h) (Or.inl ⟨by kernel_rfl, ?y11b⟩) (by assumption) ?r11b
      case y11b => (intro v hSv; (try dsimp only at hSv); go_simp; all_goals with_reducible rfl)
      try simp only [Act.put, List.setIfInBounds_toArray, List.set_cons_zero, List.set_cons_succ]
      refine wpAnyH_take (i := 12) (v := ?v12b) rfl (by kernel_rfl) (by kernel_rfl) (by kernel_rfl) (fun _ _ _ h => h) (Or.inl ⟨by kernel_rfl, ?y12b⟩) (by assumption) ?r12b
      case y12b => (intro v hSv; (try dsimp only at hSv); go_simp; all_goals with_reducible rfl)
      try simp only [Act.put, List.setIfInBounds_toArray, List.set_cons_zero, List.set_cons_succ]
      refine wpAnyH_take (i := 13) (v := ?v13b) rfl (by kernel_rfl) (by kernel_rfl) (by kernel_rfl) (fun _ _ _ h => h) (Or.inl ⟨by kernel_rfl, ?y13b⟩) (by assumption) ?r13b
      case y13b => (intro v hSv; (try dsimp only at hSv); go_simp; all_goals with_reducible rfl)
      try simp only [Act.put, List.setIfInBounds_toArray, List.set_cons_zero, List.set_cons_succ]
      refine wpAnyH_take (i := 14) (v := .bool true) rfl (by kernel_rfl) (by kernel_rfl) (by kernel_rfl) (fun _ _ _ h => h) (Or.inl ⟨by kernel_rfl, ?y14b⟩) (by assumption) ?r14b
      case y14b => (intro v hSv; (try dsimp only at hSv); go_simp; all_goals first | (with_reducible rfl) | (rw [r1]) | (simp [r1]))
      try simp only [Act.put, List.setIfInBounds_toArray, List.set_cons_zero, List.set_cons_succ]
      refine wpAnyH_take (i := 15) (v := ?v15b) rfl (by kernel_rfl) (by kernel_rfl) (by kernel_rfl) (fun _ _ _ h => h) (Or.inl ⟨by kernel_rfl, ?y15b⟩) (by assumption) ?r15b
      case y15b => (intro v hSv; (try dsimp only at hSv); go_simp; all_goals with_reducible rfl)
      try simp only [Act.put, List.setIfInBounds_toArray, List.set_cons_zero, List.set_cons_succ]
      refine wpAnyH_take (i := 16) (v := ?v16b) rfl (by kernel_rfl) (by kernel_rfl) (by kernel_rfl) (fun _ _ _ h => h) (Or.inl ⟨by kernel_rfl, ?y16b⟩) (by assumption) ?r16b
      case y16b => (intro v hSv; (try dsimp only at hSv); go_simp; all_goals with_reducible rfl)
      try simp only [Act.put, List.setIfInBounds_toArray, List.set_cons_zero, List.set_cons_succ]
      refine wpAnyH_take (i := 17) (v := undef) rfl (by kernel_rfl) (by kernel_rfl) (by kernel_rfl) (fun _ _ _ h => h) (Or.inr ⟨by kernel_rfl, rfl⟩) (by assumption) ?r17b
      try simp only [Act.put, List.setIfInBounds_toArray, List.set_cons_zero, List.set_cons_succ]
      refine wpAnyH_take (i := 18) (v := undef) rfl (by kernel_rfl) (by kernel_rfl) (by kernel_rfl) (fun _ _ _ h => h) (Or.inr ⟨by kernel_rfl, rfl⟩) (by assumption) ?r18b
      try simp only [Act.put, List.setIfInBounds_toArray, List.set_cons_zero, List.set_cons_succ]
      refine wpAnyH_take (i := 19) (v := undef) rfl (by kernel_rfl) (by kernel_rfl) (by kernel_rfl) (fun _ _ _ h => h) (Or.inr ⟨by kernel_rfl, rfl⟩) (by assumption) ?r19b
      try simp only [Act.put, List.setIfInBounds_toArray, List.set_cons_zero, List.set_cons_succ]
      refine wpAnyH_take (i := 20) (v := undef) rfl (by kernel_rfl) (by kernel_rfl) (by kernel_rfl) (fun _ _ _ h => h) (Or.inr ⟨by kernel_rfl, rfl⟩) (by assumption) ?r20b
      try simp only [Act.put, List.setIfInBounds_toArray, List.set_cons_zero, List.set_cons_succ]
      refine wpAnyH_take (i := 21) (v := undef) rfl (by kernel_rfl) (by kernel_rfl) (by kernel_rfl) (fun _ _ _ h => h) (Or.inr ⟨by kernel_rfl, rfl⟩) (by assumption) ?r21b
      try simp only [Act.put, List.setIfInBounds_toArray, List.set_cons_zero, List.set_cons_succ]
      refine wpAnyH_take (i := 22) (v := undef) rfl (by kernel_rfl) (by kernel_rfl) (by kernel_rfl) (fun _ _ _ h => h) (Or.inr ⟨by kernel_rfl, rfl⟩) (by assumption) ?r22b
      try simp only [Act.put, List.setIfInBounds_toArray, List.set_cons_zero, List.set_cons_succ]
      refine wpAnyH_take (i := 23) (v := undef) rfl (by kernel_rfl) (by kernel_rfl) (by kernel_rfl) (fun _ _ _ h => h) (Or.inr ⟨by kernel_rfl, rfl⟩) (by assumption) ?r23b
      try simp only [Act.put, List.setIfInBounds_toArray, List.set_cons_zero, List.set_cons_succ]
      refine wpAnyH_take (i := 24) (v := ?v24b) rfl (by kernel_rfl) (by kernel_rfl) (by kernel_rfl) (fun _ _ _ h => h) (Or.inl ⟨by kernel_rfl, ?y24b⟩) (by assumption) ?r24b
      case y24b => (intro v hSv; (try dsimp only at hSv); go_simp; all_goals with_reducible rfl)
      try simp only [Act.put, List.setIfInBounds_toArray, List.set_cons_zero, List.set_cons_succ]
      refine wpAnyH_take (i := 25) (v := ?v25b) rfl (by kernel_rfl) (by kernel_rfl) (by kernel_rfl) (fun _ _ _ h => h) (Or.inl ⟨by kernel_rfl, ?y25b⟩) (by assumption) ?r25b
      case y25b => (intro v hSv; (try dsimp only at hSv); go_simp; all_goals with_reducible rfl)
      try simp only [Act.put, List.setIfInBounds_toArray, List.set_cons_zero, List.set_cons_succ]
      refine wpAnyH_take (i := 26) (v := undef) rfl (by kernel_rfl) (by kernel_rfl) (by kernel_rfl) (fun _ _ _ h => h) (Or.inr ⟨by kernel_rfl, rfl⟩) (by assumption) ?r26b
      try simp only [Act.put, List.setIfInBounds_toArray, List.set_cons_zero, List.set_cons_succ]
      refine wpAnyH_take (i := 27) (v := undef) rfl (by kernel_rfl) (by kernel_rfl) (by kernel_rfl) (fun _ _ _ h => h) (Or.inr ⟨by kernel_rfl, rfl⟩) (by assumption) ?r27b
      try simp only [Act.put, List.setIfInBounds_toArray, List.set_cons_zero, List.set_cons_succ]
      refine wpAnyH_take (i := 28) (v := undef) rfl (by kernel_rfl) (by kernel_rfl) (by kernel_rfl) (fun _ _ _ h => h) (Or.inr ⟨by kernel_rfl, rfl⟩) (by assumption) ?r28b
      try simp only [Act.put, List.setIfInBounds_toArray, List.set_cons_zero, List.set_cons_succ]
      refine wpAnyH_take (i := 29) (v := ?v29b) rfl (by kernel_rfl) (by kernel_rfl) (by kernel_rfl) (fun _ _ _ h => h) (Or.inl ⟨by kernel_rfl, ?y29b⟩) (by assumption) ?r29b
      case y29b => (intro v hSv; (try dsimp only at hSv); go_simp; all_goals with_reducible rfl)
      try simp only [Act.put, List.setIfInBounds_toArray, List.set_cons_zero, List.set_cons_succ]
      refine wpAnyH_take (i := 30) (v := ?v30b) rfl (by kernel_rfl) (by kernel_rfl) (by kernel_rfl) (fun _ _ _ h => h) (Or.inl ⟨by kernel_rfl, ?y30b⟩) (by assumption) ?r30b
      case y30b => (intro v hSv; (try dsimp only at hSv); go_simp; all_goals with_reducible rfl)
      try simp only [Act.put, List.setIfInBounds_toArray, List.set_cons_zero, List.set_cons_succ]
      refine wpAnyH_ready (rs := [31]) (by kernel_rfl) (by simp) ?_
      refine AllReadyH.cons rfl (fun K hK => ?_) AllReadyH.nil
      go_simp
      go_at_call 7
      refine (HAW.out _).mono ?_
      rintro e w7 ⟨rfl, hb⟩
      have A7 := Lib.hid ((A3.out.step (Below.refl _ w3).drew).step hb)
      have hS7 := HSS.out _ hb
      clear hb
      go_simp
      refine hK.out _ _ hS7 (fun hHeld => ?_)
      clear hK K
      try simp only [Act.put, List.setIfInBounds_toArray, List.set_cons_zero, List.set_cons_succ]
      refine wpAnyH_take (i := 32) (v := ?v32b) rfl (by kernel_rfl) (by kernel_rfl) (by kernel_rfl) (fun _ _ _ h => h) (Or.inl ⟨by kernel_rfl, ?y32b⟩) (by assumption) ?r32b
      case y32b => (intro v hSv; (try dsimp only at hSv); go_simp; all_goals with_reducible rfl)
      try simp only [Act.put, List.setIfInBounds_toArray, List.set_cons_zero, List.set_cons_succ]
      refine wpAnyH_take (i := 33) (v := ?v33b) rfl (by kernel_rfl) (by kernel_rfl) (by kernel_rfl) (fun _ _ _ h => h) (Or.inl ⟨by kernel_rfl, ?y33b⟩) (by assumption) ?r33b
      case y33b => (intro v hSv; (try dsimp only at hSv); go_simp; all_goals with_reducible rfl)
      try simp only [Act.put, List.setIfInBounds_toArray, List.set_cons_zero, List.set_cons_succ]
      refine wpAnyH_done (by kernel_rfl) ?_ _
      go_wp2
      go_ret
      exact ⟨rfl, A7.out.below⟩
    · refine wp_region_held_drew (S := (fun v => v.cell? ⟨ba, oa, none⟩ = some (.int .i64 u0) ∧ v.cell? ⟨ba, oa + 1, none⟩ = some (.int .i64 u1) ∧ v.cell? ⟨ba, oa + 2, none⟩ = some (.int .i64 u2) ∧ v.cell? ⟨bb, ob, none⟩ = some (.int .i64 v0) ∧ v.cell? ⟨bb, ob + 1, none⟩ = some (.int .i64 v1) ∧ v.cell? ⟨bb, ob + 2, none⟩ = some (.int .i64 v2))) (by kernel_rfl) SS (fun hHeld => ?_)
      refine wpAnyH_take (i := 0) (v := ?v0c) rfl (by kernel_rfl) (by kernel_rfl) (by kernel_rfl) (fun _ _ _ h => h) (Or.inl ⟨by kernel_rfl, ?y0c⟩) (by assumption) ?r0c
      case y0c => (intro v hSv; (try dsimp only at hSv); go_simp; all_goals with_reducible rfl)
      try simp only [Act.put, List.setIfInBounds_toArray, List.set_cons_zero, List.set_cons_succ]
      refine wpAnyH_take (i := 1) (v := ?v1c) rfl (by kernel_rfl) (by kernel_rfl) (by kernel_rfl) (fun _ _ _ h => h) (Or.inl ⟨by kernel_rfl, ?y1c⟩) (by assumption) ?r1c
      case y1c => (intro v hSv; (try dsimp only at hSv); go_simp; all_goals with_reducible rfl)
      try simp only [Act.put, List.setIfInBounds_toArray, List.set_cons_zero, List.set_cons_succ]
      refine wpAnyH_take (i := 2) (v := ?v2c) rfl (by kernel_rfl) (by kernel_rfl) (by kernel_rfl) (fun _ _ _ h => h) (Or.inl ⟨by kernel_rfl, ?y2c⟩) (by assumption) ?r2c
      case y2c => (intro v hSv; (try dsimp only at hSv); go_simp; all_goals with_reducible rfl)
      try simp only [Act.put, List.setIfInBounds_toArray, List.set_cons_zero, List.set_cons_succ]
      refine wpAnyH_take (i := 3) (v := ?v3c) rfl (by kernel_rfl) (by kernel_rfl) (by kernel_rfl) (fun _ _ _ h => h) (Or.inl ⟨by kernel_rfl, ?y3c⟩) (by assumption) ?r3c
      case y3c => (intro v hSv; (try dsimp only at hSv); go_simp; all_goals with_reducible rfl)
      try simp only [Act.put, List.setIfInBounds_toArray, List.set_cons_zero, List.set_cons_succ]
      refine wpAnyH_take (i := 4) (v := ?v4c) rfl (by kernel_rfl) (by kernel_rfl) (by kernel_rfl) (fun _ _ _ h => h) (Or.inl ⟨by kernel_rfl, ?y4c⟩) (by assumption) ?r4c
      case y4c => (intro v hSv; (try dsimp only at hSv); go_simp; all_goals with_reducible rfl)
      try simp only [Act.put, List.setIfInBounds_toArray, List.set_cons_zero, List.set_cons_succ]
      refine wpAnyH_take (i := 5) (v := ?v5c) rfl (by kernel_rfl) (by kernel_rfl) (by kernel_rfl) (fun _ _ _ h => h) (Or.inl ⟨by kernel_rfl, ?y5c⟩) (by assumption) ?r5c
      case y5c => (intro v hSv; (try dsimp only at hSv); go_simp; all_goals with_reducible rfl)
      try simp only [Act.put, List.setIfInBounds_toArray, List.set_cons_zero, List.set_cons_succ]
      refine wpAnyH_take (i := 6) (v := .bool false) rfl (by kernel_rfl) (by kernel_rfl) (by kernel_rfl) (fun _ _ _ h => h) (Or.inl ⟨by kernel_rfl, ?y6c⟩) (by assumption) ?r6c
      case y6c => (intro v hSv; (try dsimp only at hSv); go_simp; all_goals first | (with_reducible rfl) | (rw [r0]) | (simp [r0]))
      try simp only [Act.put, List.setIfInBounds_toArray, List.set_cons_zero, List.set_cons_succ]
      refine wpAnyH_take (i := 7) (v := ?v7c) rfl (by kernel_rfl) (by kernel_rfl) (by kernel_rfl) (fun _ _ _ h => h) (Or.inl ⟨by kernel_rfl, ?y7c⟩) (by assumption) ?r7c
      case y7c => (intro v hSv; (try dsimp only at hSv); go_simp; all_goals with_reducible rfl)
      try simp only [Act.put, List.setIfInBounds_toArray, List.set_cons_zero, List.set_cons_succ]
      refine wpAnyH_take (i := 8) (v := ?v8c) rfl (by kernel_rfl) (by kernel_rfl) (by kernel_rfl) (fun _ _ _ h => h) (Or.inl ⟨by kernel_rfl, ?y8c⟩) (by assumption) ?r8c
      case y8c => (intro v hSv; (try dsimp only at hSv); go_simp; all_goals with_reducible rfl)
      try simp only [Act.put, List.setIfInBounds_toArray, List.set_cons_zero, List.set_cons_succ]
      refine wpAnyH_take (i := 9) (v := ?v9c) rfl (by kernel_rfl) (by kernel_rfl) (by kernel_rfl) (fun _ _ _ h => h) (Or.inl ⟨by kernel_rfl, ?y9c⟩) (by assumption) ?r9c
      case y9c => (intro v hSv; (try dsimp only at hSv); go_simp; all_goals with_reducible rfl)
      try simp only [Act.put, List.setIfInBounds_toArray, List.set_cons_zero, List.set_cons_succ]
      refine wpAnyH_take (i := 10) (v := ?v10c) rfl (by kernel_rfl) (by kernel_rfl) (by kernel_rfl) (fun _ _ _ h => h) (Or.inl ⟨by kernel_rfl, ?y10c⟩) (by assumption) ?r10c
      case y10c => (intro v hSv; (try dsimp only at hSv); go_simp; all_goals with_reducible rfl)
      try simp only [Act.put, List.setIfInBounds_toArray, List.set_cons_zero, List.set_cons_succ]
      refine wpAnyH_take (i := 11) (v := ?v11c) rfl (by kernel_rfl) (by kernel_rfl) (by kernel_rfl) (fun _ _ _ h => h) (Or.inl ⟨by kernel_rfl, ?y11c⟩) (by assumption) ?r11c
      case y11c => (intro v hSv; (try dsimp only at hSv); go_simp; all_goals with_reducible rfl)
      try simp only [Act.put, List.setIfInBounds_toArray, List.set_cons_zero, List.set_cons_succ]
      refine wpAnyH_take (i := 12) (v := ?v12c) rfl (by kernel_rfl) (by kernel_rfl) (by kernel_rfl) (fun _ _ _ h => h) (Or.inl ⟨by kernel_rfl, ?y12c⟩) (by assumption) ?r12c
      case y12c => (intro v hSv; (try dsimp only at hSv); go_simp; all_goals with_reducible rfl)
      try simp only [Act.put, List.setIfInBounds_toArray, List.set_cons_zero, List.set_cons_succ]
      refine wpAnyH_take (i := 13) (v := ?v13c) rfl (by kernel_rfl) (by kernel_rfl) (by kernel_rfl) (fun _ _ _ h => h) (Or.inl ⟨by kernel_rfl, ?y13c⟩) (by assumption) ?r13c
      case y13c => (intro v hSv; (try dsimp only at hSv); go_simp; all_goals with_reducible rfl)
      try simp only [Act.put, List.setIfInBounds_toArray, List.set_cons_zero, List.set_cons_succ]
      refine wpAnyH_take (i := 14) (v := .bool false) rfl (by kernel_rfl) (by kernel_rfl) (by kernel_rfl) (fun _ _ _ h => h) (Or.inl ⟨by kernel_rfl, ?y14c⟩) (by assumption) ?r14c
      case y14c => (intro v hSv; (try dsimp only at hSv); go_simp; all_goals first | (with_reducible rfl) | (rw [r1]) | (simp [r1]))
      try simp only [Act.put, List.setIfInBounds_toArray, List.set_cons_zero, List.set_cons_succ]
      refine wpAnyH_take (i := 15) (v := ?v15c) rfl (by kernel_rfl) (by kernel_rfl) (by kernel_rfl) (fun _ _ _ h => h) (Or.inl ⟨by kernel_rfl, ?y15c⟩) (by assumption) ?r15c
      case y15c => (intro v hSv; (try dsimp only at hSv); go_simp; all_goals with_reducible rfl)
      try simp only [Act.put, List.setIfInBounds_toArray, List.set_cons_zero, List.set_cons_succ]
      refine wpAnyH_take (i := 16) (v := ?v16c) rfl (by kernel_rfl) (by kernel_rfl) (by kernel_rfl) (fun _ _ _ h => h) (Or.inl ⟨by kernel_rfl, ?y16c⟩) (by assumption) ?r16c
      case y16c => (intro v hSv; (try dsimp only at hSv); go_simp; all_goals with_reducible rfl)
      try simp only [Act.put, List.setIfInBounds_toArray, List.set_cons_zero, List.set_cons_succ]
      refine wpAnyH_take (i := 17) (v := ?v17c) rfl (by kernel_rfl) (by kernel_rfl) (by kernel_rfl) (fun _ _ _ h => h) (Or.inl ⟨by kernel_rfl, ?y17c⟩) (by assumption) ?r17c
      case y17c => (intro v hSv; (try dsimp only at hSv); go_simp; all_goals with_reducible rfl)
      try simp only [Act.put, List.setIfInBounds_toArray, List.set_cons_zero, List.set_cons_succ]
      refine wpAnyH_take (i := 18) (v := ?v18c) rfl (by kernel_rfl) (by kernel_rfl) (by kernel_rfl) (fun _ _ _ h => h) (Or.inl ⟨by kernel_rfl, ?y18c⟩) (by assumption) ?r18c
      case y18c => (intro v hSv; (try dsimp only at hSv); go_simp; all_goals with_reducible rfl)
      try simp only [Act.put, List.setIfInBounds_toArray, List.set_cons_zero, List.set_cons_succ]
      refine wpAnyH_take (i := 19) (v := ?v19c) rfl (by kernel_rfl) (by kernel_rfl) (by kernel_rfl) (fun _ _ _ h => h) (Or.inl ⟨by kernel_rfl, ?y19c⟩) (by assumption) ?r19c
      case y19c => (intro v hSv; (try dsimp only at hSv); go_simp; all_goals with_reducible rfl)
      try simp only [Act.put, List.setIfInBounds_toArray, List.set_cons_zero, List.set_cons_succ]
      refine wpAnyH_take (i := 20) (v := ?v20c) rfl (by kernel_rfl) (by kernel_rfl) (by kernel_rfl) (fun _ _ _ h => h) (Or.inl ⟨by kernel_rfl, ?y20c⟩) (by assumption) ?r20c
      case y20c => (intro v hSv; (try dsimp only at hSv); go_simp; all_goals with_reducible rfl)
      try simp only [Act.put, List.setIfInBounds_toArray, List.set_cons_zero, List.set_cons_succ]
      refine wpAnyH_take (i := 21) (v := ?v21c) rfl (by kernel_rfl) (by kernel_rfl) (by kernel_rfl) (fun _ _ _ h => h) (Or.inl ⟨by kernel_rfl, ?y21c⟩) (by assumption) ?r21c
      case y21c => (intro v hSv; (try dsimp only at hSv); go_simp; all_goals with_reducible rfl)
      try simp only [Act.put, List.setIfInBounds_toArray, List.set_cons_zero, List.set_cons_succ]
      refine wpAnyH_take (i := 22) (v := ?v22c) rfl (by kernel_rfl) (by kernel_rfl) (by kernel_rfl) (fun _ _ _ h => h) (Or.inl ⟨by kernel_rfl, ?y22c⟩) (by assumption) ?r22c
      case y22c => (intro v hSv; (try dsimp only at hSv); go_simp; all_goals with_reducible rfl)
      try simp only [Act.put, List.setIfInBounds_toArray, List.set_cons_zero, List.set_cons_succ]
      refine wpAnyH_take (i := 23) (v := .bool true) rfl (by kernel_rfl) (by kernel_rfl) (by kernel_rfl) (fun _ _ _ h => h) (Or.inl ⟨by kernel_rfl, ?y23c⟩) (by assumption) ?r23c
      case y23c => (intro v hSv; (try dsimp only at hSv); go_simp; all_goals first | (with_reducible rfl) | (rw [r2]) | (simp [r2]))
      try simp only [Act.put, List.setIfInBounds_toArray, List.set_cons_zero, List.set_cons_succ]
      refine wpAnyH_take (i := 24) (v := ?v24c) rfl (by kernel_rfl) (by kernel_rfl) (by kernel_rfl) (fun _ _ _ h => h) (Or.inl ⟨by kernel_rfl, ?y24c⟩) (by assumption) ?r24c
      case y24c => (intro v hSv; (try dsimp only at hSv); go_simp; all_goals with_reducible rfl)
      try simp only [Act.put, List.setIfInBounds_toArray, List.set_cons_zero, List.set_cons_succ]
      refine wpAnyH_take (i := 25) (v := ?v25c) rfl (by kernel_rfl) (by kernel_rfl) (by kernel_rfl) (fun _ _ _ h => h) (Or.inl ⟨by kernel_rfl, ?y25c⟩) (by assumption) ?r25c
      case y25c => (intro v hSv; (try dsimp only at hSv); go_simp; all_goals with_reducible rfl)
      try simp only [Act.put, List.setIfInBounds_toArray, List.set_cons_zero, List.set_cons_succ]
      refine wpAnyH_take (i := 26) (v := undef) rfl (by kernel_rfl) (by kernel_rfl) (by kernel_rfl) (fun _ _ _ h => h) (Or.inr ⟨by kernel_rfl, rfl⟩) (by assumption) ?r26c
      try simp only [Act.put, List.setIfInBounds_toArray, List.set_cons_zero, List.set_cons_succ]
      refine wpAnyH_take (i := 27) (v := undef) rfl (by kernel_rfl) (by kernel_rfl) (by kernel_rfl) (fun _ _ _ h => h) (Or.inr ⟨by kernel_rfl, rfl⟩) (by assumption) ?r27c
      try simp only [Act.put, List.setIfInBounds_toArray, List.set_cons_zero, List.set_cons_succ]
      refine wpAnyH_take (i := 28) (v := undef) rfl (by kernel_rfl) (by kernel_rfl) (by kernel_rfl) (fun _ _ _ h => h) (Or.inr ⟨by kernel_rfl, rfl⟩) (by assumption) ?r28c
      try simp only [Act.put, List.setIfInBounds_toArray, List.set_cons_zero, List.set_cons_succ]
      refine wpAnyH_take (i := 29) (v := ?v29c) rfl (by kernel_rfl) (by kernel_rfl) (by kernel_rfl) (fun _ _ _ h => h) (Or.inl ⟨by kernel_rfl, ?y29c⟩) (by assumption) ?r29c
      case y29c => (intro v hSv; (try dsimp only at hSv); go_simp; all_goals with_reducible rfl)
      try simp only [Act.put, List.setIfInBounds_toArray, List.set_cons_zero, List.set_cons_succ]
      refine wpAnyH_take (i := 30) (v := ?v30c) rfl (by kernel_rfl) (by kernel_rfl) (by kernel_rfl) (fun _ _ _ h => h) (Or.inl ⟨by kernel_rfl, ?y30c⟩) (by assumption) ?r30c
      case y30c => (intro v hSv; (try dsimp only at hSv); go_simp; all_goals with_reducible rfl)
      try simp only [Act.put, List.setIfInBounds_toArray, List.set_cons_zero, List.set_cons_succ]
      refine wpAnyH_ready (rs := [31]) (by kernel_rfl) (by simp) ?_
      refine AllReadyH.cons rfl (fun K hK => ?_) AllReadyH.nil
      go_simp
      go_at_call 7
      refine (HAW.out _).mono ?_
      rintro e w7 ⟨rfl, hb⟩
      have A7 := Lib.hid ((A3.out.step (Below.refl _ w3).drew).step hb)
      have hS7 := HSS.out _ hb
      clear hb
      go_simp
      refine hK.out _ _ hS7 (fun hHeld => ?_)
      clear hK K
      try simp only [Act.put, List.setIfInBounds_toArray, List.set_cons_zero, List.set_cons_succ]
      refine wpAnyH_take (i := 32) (v := ?v32c) rfl (by kernel_rfl) (by kernel_rfl) (by kernel_rfl) (fun _ _ _ h => h) (Or.inl ⟨by kernel_rfl, ?y32c⟩) (by assumption) ?r32c
      case y32c => (intro v hSv; (try dsimp only at hSv); go_simp; all_goals with_reducible rfl)
      try simp only [Act.put, List.setIfInBounds_toArray, List.set_cons_zero, List.set_cons_succ]
      refine wpAnyH_take (i := 33) (v := ?v33c) rfl (by kernel_rfl) (by kernel_rfl) (by kernel_rfl) (fun _ _ _ h => h) (Or.inl ⟨by kernel_rfl, ?y33c⟩) (by assumption) ?r33c
      case y33c => (intro v hSv; (try dsimp only at hSv); go_simp; all_goals with_reducible rfl)
      try simp only [Act.put, List.setIfInBounds_toArray, List.set_cons_zero, List.set_cons_succ]
      refine wpAnyH_done (by kernel_rfl) ?_ _
      go_wp2
      go_ret
      exact ⟨rfl, A7.out.below⟩
    · refine wp_region_held_drew (S := (fun v => v.cell? ⟨ba, oa, none⟩ = some (.int .i64 u0) ∧ v.cell? ⟨ba, oa + 1, none⟩ = some (.int .i64 u1) ∧ v.cell? ⟨ba, oa + 2, none⟩ = some (.int .i64 u2) ∧ v.cell? ⟨bb, ob, none⟩ = some (.int .i64 v0) ∧ v.cell? ⟨bb, ob + 1, none⟩ = some (.int .i64 v1) ∧ v.cell? ⟨bb, ob + 2, none⟩ = some (.int .i64 v2))) (by kernel_rfl) SS (fun hHeld => ?_)
      refine wpAnyH_take (i := 0) (v := ?v0d) rfl (by kernel_rfl) (by kernel_rfl) (by kernel_rfl) (fun _ _ _ h => h) (Or.inl ⟨by kernel_rfl, ?y0d⟩) (by assumption) ?r0d
      case y0d => (intro v hSv; (try dsimp only at hSv); go_simp; all_goals with_reducible rfl)
      try simp only [Act.put, List.setIfInBounds_toArray, List.set_cons_zero, List.set_cons_succ]
      refine wpAnyH_take (i := 1) (v := ?v1d) rfl (by kernel_rfl) (by kernel_rfl) (by kernel_rfl) (fun _ _ _ h => h) (Or.inl ⟨by kernel_rfl, ?y1d⟩) (by assumption) ?r1d
      case y1d => (intro v hSv; (try dsimp only at hSv); go_simp; all_goals with_reducible rfl)
      try simp only [Act.put, List.setIfInBounds_toArray, List.set_cons_zero, List.set_cons_succ]
      refine wpAnyH_take (i := 2) (v := ?v2d) rfl (by kernel_rfl) (by kernel_rfl) (by kernel_rfl) (fun _ _ _ h => h) (Or.inl ⟨by kernel_rfl, ?y2d⟩) (by assumption) ?r2d
      case y2d => (intro v hSv; (try dsimp only at hSv); go_simp; all_goals with_reducible rfl)
      try simp only [Act.put, List.setIfInBounds_toArray, List.set_cons_zero, List.set_cons_succ]
      refine wpAnyH_take (i := 3) (v := ?v3d) rfl (by kernel_rfl) (by kernel_rfl) (by kernel_rfl) (fun _ _ _ h => h) (Or.inl ⟨by kernel_rfl, ?y3d⟩) (by assumption) ?r3d
      case y3d => (intro v hSv; (try dsimp only at hSv); go_simp; all_goals with_reducible rfl)
      try simp only [Act.put, List.setIfInBounds_toArray, List.set_cons_zero, List.set_cons_succ]
      refine wpAnyH_take (i := 4) (v := ?v4d) rfl (by kernel_rfl) (by kernel_rfl) (by kernel_rfl) (fun _ _ _ h => h) (Or.inl ⟨by kernel_rfl, ?y4d⟩) (by assumption) ?r4d
      case y4d => (intro v hSv; (try dsimp only at hSv); go_simp; all_goals with_reducible rfl)
      try simp only [Act.put, List.setIfInBounds_toArray, List.set_cons_zero, List.set_cons_succ]
      refine wpAnyH_take (i := 5) (v := ?v5d) rfl (by kernel_rfl) (by kernel_rfl) (by kernel_rfl) (fun _ _ _ h => h) (Or.inl ⟨by kernel_rfl, ?y5d⟩) (by assumption) ?r5d
      case y5d => (intro v hSv; (try dsimp only at hSv); go_simp; all_goals with_reducible rfl)
      try simp only [Act.put, List.setIfInBounds_toArray, List.set_cons_zero, List.set_cons_succ]
      refine wpAnyH_take (i := 6) (v := .bool false) rfl (by kernel_rfl) (by kernel_rfl) (by kernel_rfl) (fun _ _ _ h => h) (Or.inl ⟨by kernel_rfl, ?y6d⟩) (by assumption) ?r6d
      case y6d => (intro v hSv; (try dsimp only at hSv); go_simp; all_goals first | (with_reducible rfl) | (rw [r0]) | (simp [r0]))
      try simp only [Act.put, List.setIfInBounds_toArray, List.set_cons_zero, List.set_cons_succ]
      refine wpAnyH_take (i := 7) (v := ?v7d) rfl (by kernel_rfl) (by kernel_rfl) (by kernel_rfl) (fun _ _ _ h => h) (Or.inl ⟨by kernel_rfl, ?y7d⟩) (by assumption) ?r7d
      case y7d => (intro v hSv; (try dsimp only at hSv); go_simp; all_goals with_reducible rfl)
      try simp only [Act.put, List.setIfInBounds_toArray, List.set_cons_zero, List.set_cons_succ]
      refine wpAnyH_take (i := 8) (v := ?v8d) rfl (by kernel_rfl) (by kernel_rfl) (by kernel_rfl) (fun _ _ _ h => h) (Or.inl ⟨by kernel_rfl, ?y8d⟩) (by assumption) ?r8d
      case y8d => (intro v hSv; (try dsimp only at hSv); go_simp; all_goals with_reducible rfl)
      try simp only [Act.put, List.setIfInBounds_toArray, List.set_cons_zero, List.set_cons_succ]
      refine wpAnyH_take (i := 9) (v := ?v9d) rfl (by kernel_rfl) (by kernel_rfl) (by kernel_rfl) (fun _ _ _ h => h) (Or.inl ⟨by kernel_rfl, ?y9d⟩) (by assumption) ?r9d
      case y9d => (intro v hSv; (try dsimp only at hSv); go_simp; all_goals with_reducible rfl)
      try simp only [Act.put, List.setIfInBounds_toArray, List.set_cons_zero, List.set_cons_succ]
      refine wpAnyH_take (i := 10) (v := ?v10d) rfl (by kernel_rfl) (by kernel_rfl) (by kernel_rfl) (fun _ _ _ h => h) (Or.inl ⟨by kernel_rfl, ?y10d⟩) (by assumption) ?r10d
      case y10d => (intro v hSv; (try dsimp only at hSv); go_simp; all_goals with_reducible rfl)
      try simp only [Act.put, List.setIfInBounds_toArray, List.set_cons_zero, List.set_cons_succ]
      refine wpAnyH_take (i := 11) (v := ?v11d) rfl (by kernel_rfl) (by kernel_rfl) (by kernel_rfl) (fun _ _ _ h => h) (Or.inl ⟨by kernel_rfl, ?y11d⟩) (by assumption) ?r11d
      case y11d => (intro v hSv; (try dsimp only at hSv); go_simp; all_goals with_reducible rfl)
      try simp only [Act.put, List.setIfInBounds_toArray, List.set_cons_zero, List.set_cons_succ]
      refine wpAnyH_take (i := 12) (v := ?v12d) rfl (by kernel_rfl) (by kernel_rfl) (by kernel_rfl) (fun _ _ _ h => h) (Or.inl ⟨by kernel_rfl, ?y12d⟩) (by assumption) ?r12d
      case y12d => (intro v hSv; (try dsimp only at hSv); go_simp; all_goals with_reducible rfl)
      try simp only [Act.put, List.setIfInBounds_toArray, List.set_cons_zero, List.set_cons_succ]
      refine wpAnyH_take (i := 13) (v := ?v13d) rfl (by kernel_rfl) (by kernel_rfl) (by kernel_rfl) (fun _ _ _ h => h) (Or.inl ⟨by kernel_rfl, ?y13d⟩) (by assumption) ?r13d
      case y13d => (intro v hSv; (try dsimp only at hSv); go_simp; all_goals with_reducible rfl)
      try simp only [Act.put, List.setIfInBounds_toArray, List.set_cons_zero, List.set_cons_succ]
      refine wpAnyH_take (i := 14) (v := .bool false) rfl (by kernel_rfl) (by kernel_rfl) (by kernel_rfl) (fun _ _ _ h => h) (Or.inl ⟨by kernel_rfl, ?y14d⟩) (by assumption) ?r14d
      case y14d => (intro v hSv; (try dsimp only at hSv); go_simp; all_goals first | (with_reducible rfl) | (rw [r1]) | (simp [r1]))
      try simp only [Act.put, List.setIfInBounds_toArray, List.set_cons_zero, List.set_cons_succ]
      refine wpAnyH_take (i := 15) (v := ?v15d) rfl (by kernel_rfl) (by kernel_rfl) (by kernel_rfl) (fun _ _ _ h => h) (Or.inl ⟨by kernel_rfl, ?y15d⟩) (by assumption) ?r15d
      case y15d => (intro v hSv; (try dsimp only at hSv); go_simp; all_goals with_reducible rfl)
      try simp only [Act.put, List.setIfInBounds_toArray, List.set_cons_zero, List.set_cons_succ]
      refine wpAnyH_take (i := 16) (v := ?v16d) rfl (by kernel_rfl) (by kernel_rfl) (by kernel_rfl) (fun _ _ _ h => h) (Or.inl ⟨by kernel_rfl, ?y16d⟩) (by assumption) ?r16d
      case y16d => (intro v hSv; (try dsimp only at hSv); go_simp; all_goals with_reducible rfl)
      try simp only [Act.put, List.setIfInBounds_toArray, List.set_cons_zero, List.set_cons_succ]
      refine wpAnyH_take (i := 17) (v := ?v17d) rfl (by kernel_rfl) (by kernel_rfl) (by kernel_rfl) (fun _ _ _ h => h) (Or.inl ⟨by kernel_rfl, ?y17d⟩) (by assumption) ?r17d
      case y17d => (intro v hSv; (try dsimp only at hSv); go_simp; all_goals with_reducible rfl)
      try simp only [Act.put, List.setIfInBounds_toArray, List.set_cons_zero, List.set_cons_succ]
      refine wpAnyH_take (i := 18) (v := ?v18d) rfl (by kernel_rfl) (by kernel_rfl) (by kernel_rfl) (fun _ _ _ h => h) (Or.inl ⟨by kernel_rfl, ?y18d⟩) (by assumption) ?r18d
      case y18d => (intro v hSv; (try dsimp only at hSv); go_simp; all_goals with_reducible rfl)
      try simp only [Act.put, List.setIfInBounds_toArray, List.set_cons_zero, List.set_cons_succ]
      refine wpAnyH_take (i := 19) (v := ?v19d) rfl (by kernel_rfl) (by kernel_rfl) (by kernel_rfl) (fun _ _ _ h => h) (Or.inl ⟨by kernel_rfl, ?y19d⟩) (by assumption) ?r19d
      case y19d => (intro v hSv; (try dsimp only at hSv); go_simp; all_goals with_reducible rfl)
      try simp only [Act.put, List.setIfInBounds_toArray, List.set_cons_zero, List.set_cons_succ]
      refine wpAnyH_take (i := 20) (v := ?v20d) rfl (by kernel_rfl) (by kernel_rfl) (by kernel_rfl) (fun _ _ _ h => h) (Or.inl ⟨by kernel_rfl, ?y20d⟩) (by assumption) ?r20d
      case y20d => (intro v hSv; (try dsimp only at hSv); go_simp; all_goals with_reducible rfl)
      try simp only [Act.put, List.setIfInBounds_toArray, List.set_cons_zero, List.set_cons_succ]
      refine wpAnyH_take (i := 21) (v := ?v21d) rfl (by kernel_rfl) (by kernel_rfl) (by kernel_rfl) (fun _ _ _ h => h) (Or.inl ⟨by kernel_rfl, ?y21d⟩) (by assumption) ?r21d
      case y21d => (intro v hSv; (try dsimp only at hSv); go_simp; all_goals with_reducible rfl)
      try simp only [Act.put, List.setIfInBounds_toArray, List.set_cons_zero, List.set_cons_succ]
      refine wpAnyH_take (i := 22) (v := ?v22d) rfl (by kernel_rfl) (by kernel_rfl) (by kernel_rfl) (fun _ _ _ h => h) (Or.inl ⟨by kernel_rfl, ?y22d⟩) (by assumption) ?r22d
      case y22d => (intro v hSv; (try dsimp only at hSv); go_simp; all_goals with_reducible rfl)
      try simp only [Act.put, List.setIfInBounds_toArray, List.set_cons_zero, List.set_cons_succ]
      refine wpAnyH_take (i := 23) (v := .bool false) rfl (by kernel_rfl) (by kernel_rfl) (by kernel_rfl) (fun _ _ _ h => h) (Or.inl ⟨by kernel_rfl, ?y23d⟩) (by assumption) ?r23d
      case y23d => (intro v hSv; (try dsimp only at hSv); go_simp; all_goals first | (with_reducible rfl) | (rw [r2]) | (simp [r2]))
      try simp only [Act.put, List.setIfInBounds_toArray, List.set_cons_zero, List.set_cons_succ]
      refine wpAnyH_take (i := 24) (v := ?v24d) rfl (by kernel_rfl) (by kernel_rfl) (by kernel_rfl) (fun _ _ _ h => h) (Or.inl ⟨by kernel_rfl, ?y24d⟩) (by assumption) ?r24d
      case y24d => (intro v hSv; (try dsimp only at hSv); go_simp; all_goals with_reducible rfl)
      try simp only [Act.put, List.setIfInBounds_toArray, List.set_cons_zero, List.set_cons_succ]
      refine wpAnyH_take (i := 25) (v := ?v25d) rfl (by kernel_rfl) (by kernel_rfl) (by kernel_rfl) (fun _ _ _ h => h) (Or.inl ⟨by kernel_rfl, ?y25d⟩) (by assumption) ?r25d
      case y25d => (intro v hSv; (try dsimp only at hSv); go_simp; all_goals with_reducible rfl)
      try simp only [Act.put, List.setIfInBounds_toArray, List.set_cons_zero, List.set_cons_succ]
      refine wpAnyH_take (i := 26) (v := ?v26d) rfl (by kernel_rfl) (by kernel_rfl) (by kernel_rfl) (fun _ _ _ h => h) (Or.inl ⟨by kernel_rfl, ?y26d⟩) (by assumption) ?r26d
      case y26d => (intro v hSv; (try dsimp only at hSv); go_simp; all_goals with_reducible rfl)
      try simp only [Act.put, List.setIfInBounds_toArray, List.set_cons_zero, List.set_cons_succ]
      refine wpAnyH_take (i := 27) (v := ?v27d) rfl (by kernel_rfl) (by kernel_rfl) (by kernel_rfl) (fun _ _ _ h => h) (Or.inl ⟨by kernel_rfl, ?y27d⟩) (by assumption) ?r27d
      case y27d => (intro v hSv; (try dsimp only at hSv); go_simp; all_goals with_reducible rfl)
      try simp only [Act.put, List.setIfInBounds_toArray, List.set_cons_zero, List.set_cons_succ]
      refine wpAnyH_take (i := 28) (v := .bool true) rfl (by kernel_rfl) (by kernel_rfl) (by kernel_rfl) (fun _ _ _ h => h) (Or.inl ⟨by kernel_rfl, ?y28d⟩) (by assumption) ?r28d
      case y28d => (intro v hSv; (try dsimp only at hSv); go_simp; all_goals first | (with_reducible rfl) | (rw [r3]) | (simp [r3]))
      try simp only [Act.put, List.setIfInBounds_toArray, List.set_cons_zero, List.set_cons_succ]
      refine wpAnyH_take (i := 29) (v := ?v29d) rfl (by kernel_rfl) (by kernel_rfl) (by kernel_rfl) (fun _ _ _ h => h) (Or.inl ⟨by kernel_rfl, ?y29d⟩) (by assumption) ?r29d
      case y29d => (intro v hSv; (try dsimp only at hSv); go_simp; all_goals with_reducible rfl)
      try simp only [Act.put, List.setIfInBounds_toArray, List.set_cons_zero, List.set_cons_succ]
      refine wpAnyH_take (i := 30) (v := ?v30d) rfl (by kernel_rfl) (by kernel_rfl) (by kernel_rfl) (fun _ _ _ h => h) (Or.inl ⟨by kernel_rfl, ?y30d⟩) (by assumption) ?r30d
      case y30d => (intro v hSv; (try dsimp only at hSv); go_simp; all_goals with_reducible rfl)
      try simp only [Act.put, List.setIfInBounds_toArray, List.set_cons_zero, List.set_cons_succ]
      refine wpAnyH_ready (rs := [31]) (by kernel_rfl) (by simp) ?_
      refine AllReadyH.cons rfl (fun K hK => ?_) AllReadyH.nil
      go_simp
      go_at_call 7
      refine (HAW.out _).mono ?_
      rintro e w7 ⟨rfl, hb⟩
      have A7 := Lib.hid ((A3.out.step (Below.refl _ w3).drew).step hb)
      have hS7 := HSS.out _ hb
      clear hb
      go_simp
      refine hK.out _ _ hS7 (fun hHeld => ?_)
      clear hK K
      try simp only [Act.put, List.setIfInBounds_toArray, List.set_cons_zero, List.set_cons_succ]
      refine wpAnyH_take (i := 32) (v := ?v32d) rfl (by kernel_rfl) (by kernel_rfl) (by kernel_rfl) (fun _ _ _ h => h) (Or.inl ⟨by kernel_rfl, ?y32d⟩) (by assumption) ?r32d
      case y32d => (intro v hSv; (try dsimp only at hSv); go_simp; all_goals with_reducible rfl)
      try simp only [Act.put, List.setIfInBounds_toArray, List.set_cons_zero, List.set_cons_succ]
      refine wpAnyH_take (i := 33) (v := ?v33d) rfl (by kernel_rfl) (by kernel_rfl) (by kernel_rfl) (fun _ _ _ h => h) (Or.inl ⟨by kernel_rfl, ?y33d⟩) (by assumption) ?r33d
      case y33d => (intro v hSv; (try dsimp only at hSv); go_simp; all_goals with_reducible rfl)
      try simp only [Act.put, List.setIfInBounds_toArray, List.set_cons_zero, List.set_cons_succ]
      refine wpAnyH_done (by kernel_rfl) ?_ _
      go_wp2
      go_ret
      exact ⟨rfl, A7.out.below⟩
    -- END drawn
end Go.Proofs.Yteeaaibcdbfmfaa
