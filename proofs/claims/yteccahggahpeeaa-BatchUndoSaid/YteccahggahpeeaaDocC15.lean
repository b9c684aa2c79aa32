/- The document's Get of a store, and its word on a change that can't be done; for every store and in every world. (Written by gen_docc15.py.) -/
import Derived.Test.YteccahggahpeeaaMDocA15
namespace Go.Proofs.Yteccahggahpeeaa
open Go.RowKit

set_option maxHeartbeats 4000000 in
theorem rget15_any (n : Nat) (a : Option Addr) (c : Nat) (cs : List Cl15) (t id : Int) (w : World) (h : Els clE 0 w.heap.size w a cs) (hcn : n ≤ 100000) (hn : cs.length ≤ 100000) :
    Calls Try.prog 18 #[docVal n a c cs, .int .i64 t, .int .i64 id] w fun e w' => e = .returned (.tuple #[.string (tx (getVC n cs t id)), .bool (getBC n cs t id)]) ∧ Below w.heap.size w w' := by
  have hb0 := boxD_start w n a c cs
  have HB := Lib.hid hb0
  have HX := Lib.hid h
  have HAT : Hid (∀ W, BoxD w W n a c cs → Calls Try.prog 36 #[docVal n a c cs, .int .i64 t, .int .i64 id] W fun e w' => e = .returned (.int .i64 (atC cs t id)) ∧ Below W.heap.size W w') := Lib.hid fun W hW => rat15_any n a c cs t id W (h.step hW.1) hn
  have HCK : Hid (∀ W, BoxD w W n a c cs → Calls Try.prog 20 #[docVal n a c cs] W fun e w' => e = .returned (.int .i64 (checkC n cs)) ∧ Below W.heap.size W w') := Lib.hid fun W hW => rcheck15_any n a c cs W (h.step hW.1) hcn hn
  obtain ⟨_, c0, c1⟩ := hb0
  clear h
  by_cases hf : ¬ fineC n cs
  · have hq : checkC n cs = 40 := check_bad hf
    have HR : Hid (getVC n cs t id = [] ∧ getBC n cs t id = false) := Lib.hid ⟨by unfold getVC; rw [if_neg fun q => hf q.1], by unfold getBC; exact decide_eq_false fun q => hf q.1⟩
    rw [hq] at HCK
    clear hf hq
    go_enter Try.func18, Try.ntmps18
    go_wp2_with (first
      | (go_at_call 36; refine (HAT.out _ HB.out).mono ?_; rintro e w1 ⟨rfl, hb⟩; have B1 := Lib.hid (HB.out.step hb); obtain ⟨_, d0, d1⟩ := B1.out; clear hb)
      | (go_at_call 20; refine (HCK.out _ B1.out).mono ?_; rintro e w2 ⟨rfl, hb⟩; have B2 := Lib.hid (B1.out.step hb); clear hb))
    go_ret2
    rw [HR.out.1, HR.out.2]
    exact ⟨rfl, B2.out.below⟩
  have hf := Decidable.not_not.1 hf
  have hq : checkC n cs = 0 := by unfold checkC; rw [if_pos hf]
  rw [hq] at HCK
  rcases atC_cases cs t id with ⟨i, e1, hi, e2, e3⟩ | ⟨e1, e3⟩
  · have HR : Hid (getVC n cs t id = (clAt cs i).2.2 ∧ getBC n cs t id = true) := Lib.hid ⟨by unfold getVC; rw [if_pos ⟨hf, e3⟩, e2], by unfold getBC; exact decide_eq_true ⟨hf, e3⟩⟩
    have HC : Hid (∀ W, BoxD w W n a c cs → ∃ b off, a = some ⟨b, off, none⟩ ∧ W.cell? ⟨b, off + i * 3 + 2, none⟩ = some (.string (tx (clAt cs i).2.2))) := Lib.hid fun W hW => by
      obtain ⟨b, off, ea, _, _, _, x2⟩ := cls_at (HX.out.step hW.1) hi
      exact ⟨b, off, ea, x2⟩
    rw [e1] at HAT
    have i1 : (i : Int) < (cs.length : Int) := by omega
    have i3 : (0 : Int) ≤ (i : Int) := by omega
    obtain ⟨s, hs⟩ : ∃ s, (clAt cs i).2.2 = s := ⟨_, rfl⟩
    rw [hs] at HR HC
    clear hf hq e1 e2 e3 hs
    go_enter Try.func18, Try.ntmps18
    go_upto_region 4 with (first
      | (go_at_call 36; refine (HAT.out _ HB.out).mono ?_; rintro e w1 ⟨rfl, hb⟩; have B1 := Lib.hid (HB.out.step hb); obtain ⟨_, d0, d1⟩ := B1.out; clear hb)
      | (go_at_call 20; refine (HCK.out _ B1.out).mono ?_; rintro e w2 ⟨rfl, hb⟩; have B2 := Lib.hid (B1.out.step hb); obtain ⟨_, f0, f1⟩ := B2.out; clear hb))
    obtain ⟨b, off, ea, x2⟩ := HC.out _ B2.out
    subst ea
    go_wp2
    go_ret2
    rw [HR.out.1, HR.out.2]
    exact ⟨rfl, B2.out.below⟩
  · have HR : Hid (getVC n cs t id = [] ∧ getBC n cs t id = false) := Lib.hid ⟨by unfold getVC; rw [if_neg fun q => by rw [e3] at q; cases q.2], by unfold getBC; exact decide_eq_false fun q => by rw [e3] at q; cases q.2⟩
    rw [e1] at HAT
    clear hf hq e1 e3
    go_enter Try.func18, Try.ntmps18
    go_wp2_with (first
      | (go_at_call 36; refine (HAT.out _ HB.out).mono ?_; rintro e w1 ⟨rfl, hb⟩; have B1 := Lib.hid (HB.out.step hb); obtain ⟨_, d0, d1⟩ := B1.out; clear hb)
      | (go_at_call 20; refine (HCK.out _ B1.out).mono ?_; rintro e w2 ⟨rfl, hb⟩; have B2 := Lib.hid (B1.out.step hb); clear hb))
    go_ret2
    rw [HR.out.1, HR.out.2]
    exact ⟨rfl, B2.out.below⟩
/-- A store and a change by value, each in a block of its own. -/
structure SO15 (w : World) (n : Nat) (a : Option Addr) (c : Nat) (cs : List Cl15) (o : Op15) (W : World) : Prop where
  old : Below w.heap.size w W
  sto : W.heap[w.heap.size]? = some (.cells #[.int .i64 n, .slice a cs.length c] 32 (0, 0))
  opr : W.heap[w.heap.size + 1]? = some (.cells #[.int .i64 o.t, .int .i64 o.k, .int .i64 o.id, .string (tx o.x)] 76 (0, 0))
theorem SO15.step {w : World} {n : Nat} {a : Option Addr} {c : Nat} {cs : List Cl15} {o : Op15} {W V : World} (h : SO15 w n a c cs o W) (hb : Below W.heap.size W V) : SO15 w n a c cs o V :=
  ⟨h.old.trans (hb.mono h.old.size), old_obj hb h.sto, old_obj hb h.opr⟩
theorem SO15.start (w : World) (n : Nat) (a : Option Addr) (c : Nat) (cs : List Cl15) (o : Op15) : SO15 w n a c cs o ((w.alloc (.cells #[.int .i64 n, .slice a cs.length c] 32)).alloc (.cells #[.int .i64 o.t, .int .i64 o.k, .int .i64 o.id, .string (tx o.x)] 76)) :=
  ⟨((Below.refl _ w).alloc (Nat.le_refl _) _).alloc (by simp) _, heap_alloc2_old w _ _, heap_alloc2_new w _ _⟩
theorem SO15.facts {w : World} {n : Nat} {a : Option Addr} {c : Nat} {cs : List Cl15} {o : Op15} {W : World} (h : SO15 w n a c cs o W) :
    W.cell? ⟨w.heap.size, 0, none⟩ = some (.int .i64 n) ∧ W.cell? ⟨w.heap.size, 1, none⟩ = some (.slice a cs.length c) ∧ W.cell? ⟨w.heap.size + 1, 0, none⟩ = some (.int .i64 o.t) ∧ W.cell? ⟨w.heap.size + 1, 1, none⟩ = some (.int .i64 o.k) ∧ W.cell? ⟨w.heap.size + 1, 2, none⟩ = some (.int .i64 o.id) ∧ W.cell? ⟨w.heap.size + 1, 3, none⟩ = some (.string (tx o.x)) :=
  ⟨cell_of h.sto rfl, cell_of h.sto rfl, cell_of h.opr rfl, cell_of h.opr rfl, cell_of h.opr rfl, cell_of h.opr rfl⟩
set_option maxRecDepth 100000 in
set_option maxHeartbeats 8000000 in
theorem rwrong15_any (n : Nat) (a : Option Addr) (c : Nat) (cs : List Cl15) (o : Op15) (w : World) (h : Els clE 0 w.heap.size w a cs) (hn : cs.length ≤ 100000) :
    Calls Try.prog 31 #[docVal n a c cs, opVal o] w fun e w' => e = .returned (.int .i64 (wrongC n cs o)) ∧ Below w.heap.size w w' := by
  obtain ⟨t, k, id, x⟩ := o
  have hs0 := SO15.start w n a c cs ⟨t, k, id, x⟩
  have HS := Lib.hid hs0
  have HW : Hid (wrongC n cs ⟨t, k, id, x⟩ = if k < 1 ∨ 3 < k then 30 else if t < 0 ∨ (n : Int) ≤ t then 2 else if id < 1 ∨ 999999 < id then 31 else if k < 3 ∧ 200 < x.length then 3 else if k = 1 ∧ hasC cs t id = true then 32 else if k = 1 ∧ 60 ≤ manyC cs t then 37 else if 1 < k ∧ hasC cs t id = false then 31 else 0) := Lib.hid rfl
  have HAT : Hid (∀ W, SO15 w n a c cs ⟨t, k, id, x⟩ W → Calls Try.prog 36 #[docVal n a c cs, .int .i64 t, .int .i64 id] W fun e w' => e = .returned (.int .i64 (atC cs t id)) ∧ Below W.heap.size W w') := Lib.hid fun W hW => rat15_any n a c cs t id W (h.step hW.old) hn
  have HMY : Hid (∀ W, SO15 w n a c cs ⟨t, k, id, x⟩ W → Calls Try.prog 39 #[docVal n a c cs, .int .i64 t] W fun e w' => e = .returned (.int .i64 (manyC cs t)) ∧ Below W.heap.size W w') := Lib.hid fun W hW => rmany15_any n a c cs t W (h.step hW.old) hn
  obtain ⟨c0, c1, o0, o1, o2, o3⟩ := hs0.facts
  have hsz : (tx x).size = x.length := tx_size x
  clear h hs0
  dsimp only at o0 o1 o2 o3
  by_cases q1 : k < 1
  · have d1 : decide (k < 1) = true := decide_eq_true q1
    have HR : Hid (wrongC n cs ⟨t, k, id, x⟩ = 30) := Lib.hid (by rw [HW.out, if_pos (Or.inl q1)])
    clear q1 hsz
    go_enter Try.func31, Try.ntmps31
    go_wp2
    go_ret
    exact ⟨by rw [HR.out]; rfl, HS.out.old⟩
  have d1 : decide (k < 1) = false := decide_eq_false q1
  by_cases q2 : 3 < k
  · have d2 : decide (3 < k) = true := decide_eq_true q2
    have HR : Hid (wrongC n cs ⟨t, k, id, x⟩ = 30) := Lib.hid (by rw [HW.out, if_pos (Or.inr q2)])
    clear q1 q2 hsz
    go_enter Try.func31, Try.ntmps31
    go_wp2
    go_ret
    exact ⟨by rw [HR.out]; rfl, HS.out.old⟩
  have d2 : decide (3 < k) = false := decide_eq_false q2
  by_cases q3 : t < 0
  · have d3 : decide (t < 0) = true := decide_eq_true q3
    have HR : Hid (wrongC n cs ⟨t, k, id, x⟩ = 2) := Lib.hid (by rw [HW.out, if_neg (by omega), if_pos (Or.inl q3)])
    clear q1 q2 q3 hsz
    go_enter Try.func31, Try.ntmps31
    go_wp2
    go_ret
    exact ⟨by rw [HR.out]; rfl, HS.out.old⟩
  have d3 : decide (t < 0) = false := decide_eq_false q3
  by_cases q4 : (n : Int) ≤ t
  · have d4 : decide ((n : Int) ≤ t) = true := decide_eq_true q4
    have HR : Hid (wrongC n cs ⟨t, k, id, x⟩ = 2) := Lib.hid (by rw [HW.out, if_neg (by omega), if_pos (Or.inr q4)])
    clear q1 q2 q3 q4 hsz
    go_enter Try.func31, Try.ntmps31
    go_wp2
    go_ret
    exact ⟨by rw [HR.out]; rfl, HS.out.old⟩
  have d4 : decide ((n : Int) ≤ t) = false := decide_eq_false q4
  by_cases q5 : id < 1
  · have d5 : decide (id < 1) = true := decide_eq_true q5
    have HR : Hid (wrongC n cs ⟨t, k, id, x⟩ = 31) := Lib.hid (by rw [HW.out, if_neg (by omega), if_neg (by omega), if_pos (Or.inl q5)])
    clear q1 q2 q3 q4 q5 hsz
    go_enter Try.func31, Try.ntmps31
    go_wp2
    go_ret
    exact ⟨by rw [HR.out]; rfl, HS.out.old⟩
  have d5 : decide (id < 1) = false := decide_eq_false q5
  by_cases q6 : 999999 < id
  · have d6 : decide (999999 < id) = true := decide_eq_true q6
    have HR : Hid (wrongC n cs ⟨t, k, id, x⟩ = 31) := Lib.hid (by rw [HW.out, if_neg (by omega), if_neg (by omega), if_pos (Or.inr q6)])
    clear q1 q2 q3 q4 q5 q6 hsz
    go_enter Try.func31, Try.ntmps31
    go_wp2
    go_ret
    exact ⟨by rw [HR.out]; rfl, HS.out.old⟩
  have d6 : decide (999999 < id) = false := decide_eq_false q6
  have hk : k = 1 ∨ k = 2 ∨ k = 3 := by omega
  clear q1 q2 d1 d2
  rcases hk with rfl | rfl | rfl
  · skip
    by_cases q7 : 200 < x.length
    · have d7 : decide (200 < ((tx x).size : Int)) = true := decide_eq_true (by omega)
      have d7' : decide (200 < (tx x).size) = true := decide_eq_true (by omega)
      have HR : Hid (wrongC n cs ⟨t, 1, id, x⟩ = 3) := Lib.hid (by rw [HW.out, if_neg (by omega), if_neg (by omega), if_neg (by omega), if_pos ⟨by decide, q7⟩])
      clear q3 q4 q5 q6 q7 hsz
      go_enter Try.func31, Try.ntmps31
      go_wp2
      go_ret
      exact ⟨by rw [HR.out]; rfl, HS.out.old⟩
    have d7 : decide (200 < ((tx x).size : Int)) = false := decide_eq_false (by omega)
    have d7' : decide (200 < (tx x).size) = false := decide_eq_false (by omega)
    rcases atC_cases cs t id with ⟨i, e1, _, _, e3⟩ | ⟨e1, e3⟩
    · rw [e1] at HAT
      have g1 : decide ((0 : Int) ≤ (i : Int)) = true := decide_eq_true (by omega)
      have HR : Hid (wrongC n cs ⟨t, 1, id, x⟩ = 32) := Lib.hid (by rw [HW.out, if_neg (by omega), if_neg (by omega), if_neg (by omega), if_neg (fun q => q7 q.2), if_pos ⟨rfl, e3⟩])
      clear q3 q4 q5 q6 q7 hsz e1 e3
      go_enter Try.func31, Try.ntmps31
      go_wp2_with ((go_at_call 36; refine (HAT.out _ HS.out).mono ?_; rintro e w1 ⟨rfl, hb⟩; have S1 := Lib.hid (HS.out.step hb); obtain ⟨d0, d1, p0, p1, p2, p3⟩ := S1.out.facts; dsimp only at p0 p1 p2 p3; clear hb))
      go_ret
      exact ⟨by rw [HR.out]; rfl, S1.out.old⟩
    · rw [e1] at HAT
      by_cases q8 : 60 ≤ manyC cs t
      · have d8 : decide ((60 : Int) ≤ ((manyC cs t : Nat) : Int)) = true := decide_eq_true (by omega)
        have d8' : decide (60 ≤ manyC cs t) = true := decide_eq_true q8
        have HR : Hid (wrongC n cs ⟨t, 1, id, x⟩ = 37) := Lib.hid (by rw [HW.out, if_neg (by omega), if_neg (by omega), if_neg (by omega), if_neg (fun q => q7 q.2), if_neg (fun q => by rw [e3] at q; cases q.2), if_pos ⟨rfl, q8⟩])
        clear q3 q4 q5 q6 q7 q8 hsz e1 e3
        go_enter Try.func31, Try.ntmps31
        go_wp2_with (first | (go_at_call 36; refine (HAT.out _ HS.out).mono ?_; rintro e w1 ⟨rfl, hb⟩; have S1 := Lib.hid (HS.out.step hb); obtain ⟨d0, d1, p0, p1, p2, p3⟩ := S1.out.facts; dsimp only at p0 p1 p2 p3; clear hb) | (go_at_call 39; refine (HMY.out _ S1.out).mono ?_; rintro e w2 ⟨rfl, hb⟩; have S2 := Lib.hid (S1.out.step hb); obtain ⟨f0, f1, r0, r1, r2, r3⟩ := S2.out.facts; dsimp only at r0 r1 r2 r3; clear hb))
        go_ret
        exact ⟨by rw [HR.out]; rfl, S2.out.old⟩
      · have d8 : decide ((60 : Int) ≤ ((manyC cs t : Nat) : Int)) = false := decide_eq_false (by omega)
        have d8' : decide (60 ≤ manyC cs t) = false := decide_eq_false q8
        have HR : Hid (wrongC n cs ⟨t, 1, id, x⟩ = 0) := Lib.hid (by rw [HW.out, if_neg (by omega), if_neg (by omega), if_neg (by omega), if_neg (fun q => q7 q.2), if_neg (fun q => by rw [e3] at q; cases q.2), if_neg (fun q => q8 q.2), if_neg (fun q => absurd q.1 (by decide))])
        clear q3 q4 q5 q6 q7 q8 hsz e1 e3
        go_enter Try.func31, Try.ntmps31
        go_wp2_with (first | (go_at_call 36; refine (HAT.out _ HS.out).mono ?_; rintro e w1 ⟨rfl, hb⟩; have S1 := Lib.hid (HS.out.step hb); obtain ⟨d0, d1, p0, p1, p2, p3⟩ := S1.out.facts; dsimp only at p0 p1 p2 p3; clear hb) | (go_at_call 39; refine (HMY.out _ S1.out).mono ?_; rintro e w2 ⟨rfl, hb⟩; have S2 := Lib.hid (S1.out.step hb); obtain ⟨f0, f1, r0, r1, r2, r3⟩ := S2.out.facts; dsimp only at r0 r1 r2 r3; clear hb))
        go_ret
        exact ⟨by rw [HR.out]; rfl, S2.out.old⟩
  · skip
    by_cases q7 : 200 < x.length
    · have d7 : decide (200 < ((tx x).size : Int)) = true := decide_eq_true (by omega)
      have d7' : decide (200 < (tx x).size) = true := decide_eq_true (by omega)
      have HR : Hid (wrongC n cs ⟨t, 2, id, x⟩ = 3) := Lib.hid (by rw [HW.out, if_neg (by omega), if_neg (by omega), if_neg (by omega), if_pos ⟨by decide, q7⟩])
      clear q3 q4 q5 q6 q7 hsz
      go_enter Try.func31, Try.ntmps31
      go_wp2
      go_ret
      exact ⟨by rw [HR.out]; rfl, HS.out.old⟩
    have d7 : decide (200 < ((tx x).size : Int)) = false := decide_eq_false (by omega)
    have d7' : decide (200 < (tx x).size) = false := decide_eq_false (by omega)
    rcases atC_cases cs t id with ⟨i, e1, _, _, e3⟩ | ⟨e1, e3⟩
    · rw [e1] at HAT
      have g1 : decide ((0 : Int) ≤ (i : Int)) = true := decide_eq_true (by omega)
      have HR : Hid (wrongC n cs ⟨t, 2, id, x⟩ = 0) := Lib.hid (by rw [HW.out, if_neg (by omega), if_neg (by omega), if_neg (by omega), if_neg (fun q => q7 q.2), if_neg (fun q => absurd q.1 (by decide)), if_neg (fun q => absurd q.1 (by decide)), if_neg (fun q => by rw [e3] at q; cases q.2)])
      clear q3 q4 q5 q6 q7 hsz e1 e3
      go_enter Try.func31, Try.ntmps31
      go_wp2_with ((go_at_call 36; refine (HAT.out _ HS.out).mono ?_; rintro e w1 ⟨rfl, hb⟩; have S1 := Lib.hid (HS.out.step hb); obtain ⟨d0, d1, p0, p1, p2, p3⟩ := S1.out.facts; dsimp only at p0 p1 p2 p3; clear hb))
      go_ret
      exact ⟨by rw [HR.out]; rfl, S1.out.old⟩
    · rw [e1] at HAT
      have HR : Hid (wrongC n cs ⟨t, 2, id, x⟩ = 31) := Lib.hid (by rw [HW.out, if_neg (by omega), if_neg (by omega), if_neg (by omega), if_neg (fun q => q7 q.2), if_neg (fun q => absurd q.1 (by decide)), if_neg (fun q => absurd q.1 (by decide)), if_pos ⟨by decide, e3⟩])
      clear q3 q4 q5 q6 q7 hsz e1 e3
      go_enter Try.func31, Try.ntmps31
      go_wp2_with ((go_at_call 36; refine (HAT.out _ HS.out).mono ?_; rintro e w1 ⟨rfl, hb⟩; have S1 := Lib.hid (HS.out.step hb); obtain ⟨d0, d1, p0, p1, p2, p3⟩ := S1.out.facts; dsimp only at p0 p1 p2 p3; clear hb))
      go_ret
      exact ⟨by rw [HR.out]; rfl, S1.out.old⟩
  · skip
    rcases atC_cases cs t id with ⟨i, e1, _, _, e3⟩ | ⟨e1, e3⟩
    · rw [e1] at HAT
      have g1 : decide ((0 : Int) ≤ (i : Int)) = true := decide_eq_true (by omega)
      have HR : Hid (wrongC n cs ⟨t, 3, id, x⟩ = 0) := Lib.hid (by rw [HW.out, if_neg (by omega), if_neg (by omega), if_neg (by omega), if_neg (fun q => absurd q.1 (by decide)), if_neg (fun q => absurd q.1 (by decide)), if_neg (fun q => absurd q.1 (by decide)), if_neg (fun q => by rw [e3] at q; cases q.2)])
      clear q3 q4 q5 q6 hsz e1 e3
      go_enter Try.func31, Try.ntmps31
      go_wp2_with ((go_at_call 36; refine (HAT.out _ HS.out).mono ?_; rintro e w1 ⟨rfl, hb⟩; have S1 := Lib.hid (HS.out.step hb); obtain ⟨d0, d1, p0, p1, p2, p3⟩ := S1.out.facts; dsimp only at p0 p1 p2 p3; clear hb))
      go_ret
      exact ⟨by rw [HR.out]; rfl, S1.out.old⟩
    · rw [e1] at HAT
      have HR : Hid (wrongC n cs ⟨t, 3, id, x⟩ = 31) := Lib.hid (by rw [HW.out, if_neg (by omega), if_neg (by omega), if_neg (by omega), if_neg (fun q => absurd q.1 (by decide)), if_neg (fun q => absurd q.1 (by decide)), if_neg (fun q => absurd q.1 (by decide)), if_pos ⟨by decide, e3⟩])
      clear q3 q4 q5 q6 hsz e1 e3
      go_enter Try.func31, Try.ntmps31
      go_wp2_with ((go_at_call 36; refine (HAT.out _ HS.out).mono ?_; rintro e w1 ⟨rfl, hb⟩; have S1 := Lib.hid (HS.out.step hb); obtain ⟨d0, d1, p0, p1, p2, p3⟩ := S1.out.facts; dsimp only at p0 p1 p2 p3; clear hb))
      go_ret
      exact ⟨by rw [HR.out]; rfl, S1.out.old⟩
end Go.Proofs.Yteccahggahpeeaa
