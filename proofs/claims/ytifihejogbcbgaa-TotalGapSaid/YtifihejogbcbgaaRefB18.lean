/- The document's Match and Check of rows: in every world. -/
import Derived.Test.YtifihejogbcbgaaRefA18
namespace Go.Proofs.Ytifihejogbcbgaa
open Go.RowKit

/-- A row and facts in boxes of their own. -/
structure Bx18 (w W : World) (r : Row18) (f : Fact18) : Prop where
  below : Below w.heap.size w W
  row : W.heap[w.heap.size]? = some (.cells #[.int .i64 r.g, .int .i64 r.v, .int .i64 r.lo, .int .i64 r.hi, .int .i64 r.way] 52 (0, 0))
  fact : W.heap[w.heap.size + 1]? = some (.cells #[.int .i64 f.g, .bool f.v, .int .i64 f.n] 31 (0, 0))
theorem Bx18.step {w W V : World} {r : Row18} {f : Fact18} (h : Bx18 w W r f) (hb : Below W.heap.size W V) : Bx18 w V r f :=
  ⟨h.below.trans (hb.mono h.below.size), old_obj hb h.row, old_obj hb h.fact⟩
theorem bx18_start (w : World) (r : Row18) (f : Fact18) : Bx18 w ((w.alloc (.cells #[.int .i64 r.g, .int .i64 r.v, .int .i64 r.lo, .int .i64 r.hi, .int .i64 r.way] 52)).alloc (.cells #[.int .i64 f.g, .bool f.v, .int .i64 f.n] 31)) r f :=
  ⟨((Below.refl _ w).alloc (Nat.le_refl _) _).alloc ((Below.refl _ w).alloc (Nat.le_refl _) _).size _, heap_alloc2_old w _ _, heap_alloc2_new w _ _⟩
theorem Bx18.cells {w W : World} {r : Row18} {f : Fact18} (h : Bx18 w W r f) : (W.cell? ⟨w.heap.size, 0, none⟩ = some (.int .i64 r.g) ∧ W.cell? ⟨w.heap.size, 1, none⟩ = some (.int .i64 r.v) ∧ W.cell? ⟨w.heap.size, 2, none⟩ = some (.int .i64 r.lo) ∧ W.cell? ⟨w.heap.size, 3, none⟩ = some (.int .i64 r.hi) ∧ W.cell? ⟨w.heap.size, 4, none⟩ = some (.int .i64 r.way)) ∧
    W.cell? ⟨w.heap.size + 1, 0, none⟩ = some (.int .i64 f.g) ∧ W.cell? ⟨w.heap.size + 1, 1, none⟩ = some (.bool f.v) ∧ W.cell? ⟨w.heap.size + 1, 2, none⟩ = some (.int .i64 f.n) :=
  ⟨⟨cell_of (j := 0) h.row rfl, cell_of (j := 1) h.row rfl, cell_of (j := 2) h.row rfl, cell_of (j := 3) h.row rfl, cell_of (j := 4) h.row rfl⟩, cell_of (j := 0) h.fact rfl, cell_of (j := 1) h.fact rfl, cell_of (j := 2) h.fact rfl⟩
theorem hit_cases (r : Row18) (f : Fact18) : (hitB r f = false ∧ bitB r.g f.g = false) ∨ (hitB r f = false ∧ bitB r.g f.g = true ∧ bitB r.v (warN f) = false) ∨ (hitB r f = false ∧ bitB r.g f.g = true ∧ bitB r.v (warN f) = true ∧ decide (r.lo ≤ f.n) = false) ∨ (hitB r f = false ∧ bitB r.g f.g = true ∧ bitB r.v (warN f) = true ∧ decide (r.lo ≤ f.n) = true ∧ decide (f.n ≤ r.hi) = false) ∨ (hitB r f = true ∧ bitB r.g f.g = true ∧ bitB r.v (warN f) = true ∧ decide (r.lo ≤ f.n) = true ∧ decide (f.n ≤ r.hi) = true) := by
  unfold hitB
  cases bitB r.g f.g <;> cases bitB r.v (warN f) <;> cases decide (r.lo ≤ f.n) <;> cases decide (f.n ≤ r.hi) <;> simp
set_option maxHeartbeats 4000000 in
theorem rmatch18_any (r : Row18) (f : Fact18) (w : World) : Calls Try.prog 29 #[rowVal r, factVal f] w fun e w' => e = .returned (.bool (matchB r f)) ∧ Below w.heap.size w w' := by
  have X0 := Lib.hid (bx18_start w r f)
  obtain ⟨⟨c0, c1, c2, c3, c4⟩, x0, x1, x2⟩ := X0.out.cells
  have HR : Hid (∀ W, Calls Try.prog 46 #[rowVal r] W fun e w' => e = .returned (.int .i64 (rowE r)) ∧ Below W.heap.size W w') := Lib.hid fun W => rrow18_any r W
  have HF : Hid (∀ W, Calls Try.prog 48 #[factVal f] W fun e w' => e = .returned (.int .i64 (factE f)) ∧ Below W.heap.size W w') := Lib.hid fun W => rfact18_any f W
  by_cases hr : ¬ RowOk r
  · have HE := Lib.hid (match_row (f := f) hr)
    rw [row_no hr] at HR
    clear hr
    generalize matchB r f = m at *
    obtain ⟨rg, rv, rl, rh, rw⟩ := r
    obtain ⟨fg, fv, fn⟩ := f
    dsimp only at *
    go_enter Try.func29, Try.ntmps29
    go_wp2_with (go_at_call 46; refine (HR.out _).mono ?_; rintro e w1 ⟨rfl, hb⟩; have X1 := Lib.hid (X0.out.step hb); clear hb)
    go_ret
    exact ⟨by rw [HE.out]; rfl, X1.out.below⟩
  have hr := Decidable.not_not.1 hr
  rw [row_yes hr] at HR
  by_cases hf : ¬ FactOk f
  · have HE := Lib.hid (match_fact (r := r) hf)
    rw [fact_no hf] at HF
    clear hr hf
    generalize matchB r f = m at *
    obtain ⟨rg, rv, rl, rh, rw⟩ := r
    obtain ⟨fg, fv, fn⟩ := f
    dsimp only at *
    go_enter Try.func29, Try.ntmps29
    go_wp2_with (first
      | (go_at_call 46; refine (HR.out _).mono ?_; rintro e w1 ⟨rfl, hb⟩; have X1 := Lib.hid (X0.out.step hb); obtain ⟨⟨a0, a1, a2, a3, a4⟩, y0, y1, y2⟩ := X1.out.cells; clear hb)
      | (go_at_call 48; refine (HF.out _).mono ?_; rintro e w2 ⟨rfl, hb⟩; have X2 := Lib.hid (X1.out.step hb); clear hb))
    go_ret
    exact ⟨by rw [HE.out]; rfl, X2.out.below⟩
  have hf := Decidable.not_not.1 hf
  rw [fact_yes hf] at HF
  have HE := Lib.hid (match_in hr hf)
  have hh := hit_cases r f
  have HB1 : Hid (∀ W, Calls Try.prog 49 #[.int .i64 r.g, .int .i64 f.g] W fun e w' => e = .returned (.bool (bitB r.g f.g)) ∧ W = w') := Lib.hid fun W => by
    obtain ⟨n, hn⟩ : ∃ n : Nat, r.g = n := ⟨r.g.toNat, by have := hr.1; omega⟩
    obtain ⟨k, hk⟩ : ∃ k : Nat, f.g = k := ⟨f.g.toNat, by have := hf.1; omega⟩
    rw [hn, hk]
    exact rbit18_any n k (by have := hr.2.1; omega) (by have := hf.2.1; omega) W
  have HB2 : Hid (∀ W, Calls Try.prog 49 #[.int .i64 r.v, .int .i64 (warN f)] W fun e w' => e = .returned (.bool (bitB r.v (warN f))) ∧ W = w') := Lib.hid fun W => by
    obtain ⟨n, hn⟩ : ∃ n : Nat, r.v = n := ⟨r.v.toNat, by have := hr.2.2.1; omega⟩
    obtain ⟨k, hk, hk1⟩ : ∃ k : Nat, warN f = k ∧ k ≤ 1 := by
      unfold warN
      split
      · exact ⟨1, rfl, Nat.le_refl _⟩
      · exact ⟨0, rfl, by omega⟩
    rw [hn, hk]
    exact rbit18_any n k (by have := hr.2.2.2.1; omega) (by omega) W
  have hw : (f.v = true ∧ warN f = 1) ∨ (f.v = false ∧ warN f = 0) := by
    unfold warN
    cases f.v <;> simp
  clear hr hf
  generalize matchB r f = m at *
  generalize hitB r f = h at *
  generalize bitB r.g f.g = b1 at *
  generalize bitB r.v (warN f) = b2 at *
  generalize warN f = kk at *
  obtain ⟨rg, rv, rl, rh, rw⟩ := r
  obtain ⟨fg, fv, fn⟩ := f
  dsimp only at *
  rcases hw with ⟨rfl, rfl⟩ | ⟨rfl, rfl⟩
  all_goals
    rcases hh with ⟨rfl, rfl⟩ | ⟨rfl, rfl, rfl⟩ | ⟨rfl, rfl, rfl, d3⟩ | ⟨rfl, rfl, rfl, d3, d4⟩ | ⟨rfl, rfl, rfl, d3, d4⟩
    all_goals
      go_enter Try.func29, Try.ntmps29
      go_wp2_with (first
        | (go_at_call 46; refine (HR.out _).mono ?_; rintro e w1 ⟨rfl, hb⟩; have X1 := Lib.hid (X0.out.step hb); obtain ⟨⟨a0, a1, a2, a3, a4⟩, y0, y1, y2⟩ := X1.out.cells; clear hb X0)
        | (go_at_call 48; refine (HF.out _).mono ?_; rintro e w2 ⟨rfl, hb⟩; have X2 := Lib.hid (X1.out.step hb); clear a0 a1 a2 a3 a4 y0 y1 y2; obtain ⟨⟨a0, a1, a2, a3, a4⟩, y0, y1, y2⟩ := X2.out.cells; clear hb X1)
        | (go_at_call 49; refine (HB1.out _).mono ?_; rintro e w3 ⟨rfl, rfl⟩; clear HB1)
        | (go_at_call 49; refine (HB2.out _).mono ?_; rintro e w3 ⟨rfl, rfl⟩; clear HB2))
      go_ret
      exact ⟨by rw [HE.out]; rfl, X2.out.below⟩
set_option maxHeartbeats 2000000 in
theorem rcheck18_any (a : Option Addr) (cap : Nat) (l : List Row18) (w : World) (hx : RowsIn w.heap.size w a l) (hn : l.length ≤ 1000000) :
    Calls Try.prog 25 #[.slice a l.length cap] w fun e w' => e = .returned (.int .i64 (tabE l)) ∧ Below w.heap.size w w' := by
  have HX := Lib.hid hx
  clear hx
  by_cases h0 : l.length = 0
  · have d0 : ((l.length : Int) == 0) = true := by rw [h0]; rfl
    have HE : Hid (tabE l = 36) := Lib.hid (tab_no fun q => absurd q.1 (by omega))
    clear h0
    go_enter Try.func25, Try.ntmps25
    go_wp2
    go_ret
    exact ⟨by rw [HE.out]; rfl, Below.refl _ _⟩
  have d0 : ((l.length : Int) == 0) = false := by rw [beq_eq_false_iff_ne]; omega
  by_cases h8 : 20 < l.length
  · have d1 : decide (20 < (l.length : Int)) = true := decide_eq_true (by omega)
    have d1' : decide (20 < l.length) = true := decide_eq_true h8
    have HE : Hid (tabE l = 36) := Lib.hid (tab_no fun q => absurd q.2.1 (by omega))
    clear h0 h8
    go_enter Try.func25, Try.ntmps25
    go_wp2
    go_ret
    exact ⟨by rw [HE.out]; rfl, Below.refl _ _⟩
  have d1 : decide (20 < (l.length : Int)) = false := decide_eq_false (by omega)
  have d1' : decide (20 < l.length) = false := decide_eq_false h8
  go_enter Try.func25, Try.ntmps25
  go_wp2
  go_loopw [3] (fun i wr => ∃ k : Nat, i = .int .i64 k ∧ Hid (Below w.heap.size w wr) ∧ k ≤ l.length ∧ Hid (∀ j, j < k → RowOk (rowAt18 l j))) (fun i _ => l.length - (intOf i).toNat)
  case atStart => exact ⟨0, rfl, Lib.hid (Below.refl _ _), by omega, Lib.hid fun j h => absurd h (by omega)⟩
  case round =>
    obtain ⟨k, rfl, HB, hk, hr⟩ := hrel
    by_cases hlt : k < l.length
    · obtain ⟨b, off, rfl, _, c0, c1, c2, c3, c4⟩ := rows_at18 (rowsIn_step HX.out HB.out) hlt
      have i1 : (k : Int) < (l.length : Int) := by omega
      have i3 : (0 : Int) ≤ (k : Int) := by omega
      have HR : Hid (∀ W, Calls Try.prog 46 #[rowVal (rowAt18 l k)] W fun e w' => e = .returned (.int .i64 (rowE (rowAt18 l k))) ∧ Below W.heap.size W w') := Lib.hid fun W => rrow18_any _ W
      by_cases q1 : RowOk (rowAt18 l k)
      · rw [row_yes q1] at HR
        have HN : Hid (∀ j, j < k + 1 → RowOk (rowAt18 l j)) := Lib.hid fun j hj => by
          rcases (by omega : j < k ∨ j = k) with h | h
          · exact hr.out j h
          · rw [h]; exact q1
        have hk1 : k + 1 ≤ l.length := hlt
        clear q1 hlt
        generalize rowAt18 l k = r at *
        obtain ⟨rg, rv, rl, rh, rw⟩ := r
        dsimp only at *
        go_wp2_with (go_at_call 46; refine (HR.out _).mono ?_; rintro e w1 ⟨rfl, hb⟩; have HB1 := Lib.hid (HB.out.trans (hb.mono HB.out.size)); clear hb)
        go_roundw
        case rel => exact ⟨k + 1, by go_num, HB1, hk1, HN⟩
        case measure => simp [intOf]; omega
      · rw [row_no q1] at HR
        have HE : Hid (tabE l = 36) := Lib.hid (tab_no fun q => q1 (q.2.2 k hlt))
        clear q1
        generalize rowAt18 l k = r at *
        obtain ⟨rg, rv, rl, rh, rw⟩ := r
        dsimp only at *
        go_wp2_with (go_at_call 46; refine (HR.out _).mono ?_; rintro e w1 ⟨rfl, hb⟩; have HB1 := Lib.hid (HB.out.trans (hb.mono HB.out.size)); clear hb)
        go_ret
        exact ⟨by rw [HE.out]; rfl, HB1.out⟩
    · obtain rfl : k = l.length := by omega
      have HE : Hid (tabE l = 0) := Lib.hid (tab_yes ⟨by omega, by omega, hr.out⟩)
      go_wp2
      go_ret
      exact ⟨by rw [HE.out]; rfl, HB.out⟩
end Go.Proofs.Ytifihejogbcbgaa
