/- The walk of RuleTells, from what is wanted of rule's functions. -/
import Derived.Test.YtkefbgjbgblalaaWake18
namespace Go.Proofs.Ytkefbgjbgblalaa
open Go.RowKit

set_option maxRecDepth 100000 in
set_option maxHeartbeats 8000000 in
theorem ruleTells_from (H : Rule18) (w : World) (r : Row18) (f : Fact18) :
    Calls Try.prog 3 #[rowVal r, factVal f] w fun e w' => e = .returned (.bool true) ∧ Below w.heap.size w w' := by
  obtain ⟨W0, hW0⟩ : ∃ W, W = (w.alloc (.cells #[.int .i64 r.g, .int .i64 r.v, .int .i64 r.lo, .int .i64 r.hi, .int .i64 r.way] 23)).alloc (.cells #[.int .i64 f.g, .bool f.v, .int .i64 f.n] 25) := ⟨_, rfl⟩
  have hb0 : Below w.heap.size w W0 := by rw [hW0]; exact ((Below.refl _ w).alloc (Nat.le_refl _) _).alloc ((Below.refl _ w).alloc (Nat.le_refl _) _).size _
  have h0 := heap_alloc2_old w (.cells #[.int .i64 r.g, .int .i64 r.v, .int .i64 r.lo, .int .i64 r.hi, .int .i64 r.way] 23) (.cells #[.int .i64 f.g, .bool f.v, .int .i64 f.n] 25)
  have h1 := heap_alloc2_new w (.cells #[.int .i64 r.g, .int .i64 r.v, .int .i64 r.lo, .int .i64 r.hi, .int .i64 r.way] 23) (.cells #[.int .i64 f.g, .bool f.v, .int .i64 f.n] 25)
  rw [← hW0] at h0 h1
  have H1 : Hid (∀ W, Calls Try.prog 7 #[rowVal r] W fun e w' => e = .returned (.int .i64 (rowE r)) ∧ Below W.heap.size W w') := Lib.hid fun W => H.row r W
  have H2 : Hid (∀ W, Calls Try.prog 8 #[rowVal r] W fun e w' => e = .returned (.int .i64 (rowE r)) ∧ Below W.heap.size W w') := Lib.hid fun W => rrow18_any r W
  have H3 : Hid (∀ W, Calls Try.prog 9 #[factVal f] W fun e w' => e = .returned (.int .i64 (factE f)) ∧ Below W.heap.size W w') := Lib.hid fun W => H.fact f W
  have H4 : Hid (∀ W, Calls Try.prog 10 #[factVal f] W fun e w' => e = .returned (.int .i64 (factE f)) ∧ Below W.heap.size W w') := Lib.hid fun W => rfact18_any f W
  have H5 : Hid (∀ W, Calls Try.prog 11 #[factVal f] W fun e w' => e = .returned (factVal f) ∧ Below W.heap.size W w') := Lib.hid fun W => of18_any f W
  have H6 : Hid (∀ W, Calls Try.prog 12 #[rowVal r, factVal f] W fun e w' => e = .returned (.bool (matchB r f)) ∧ Below W.heap.size W w') := Lib.hid fun W => H.fits r f W
  have H7 : Hid (∀ W, Calls Try.prog 13 #[rowVal r, factVal f] W fun e w' => e = .returned (.bool (matchB r f)) ∧ Below W.heap.size W w') := Lib.hid fun W => rmatch18_any r f W
  have H8 : Hid (∀ W, Calls Try.prog 14 #[] W fun e w' => e = .returned (.bool true) ∧ Below W.heap.size W w') := Lib.hid fun W => awake18 H W
  clear H
  generalize rowE r = x1 at *
  generalize factE f = x2 at *
  generalize matchB r f = x3 at *
  obtain ⟨rg, rv, rl, rh, rw⟩ := r
  obtain ⟨fg, fv, fn⟩ := f
  dsimp only at *
  have HS : Hid (∀ V, Below W0.heap.size W0 V → (V.cell? ⟨w.heap.size, 0, none⟩ = some (.int .i64 rg) ∧ V.cell? ⟨w.heap.size, 1, none⟩ = some (.int .i64 rv) ∧ V.cell? ⟨w.heap.size, 2, none⟩ = some (.int .i64 rl) ∧ V.cell? ⟨w.heap.size, 3, none⟩ = some (.int .i64 rh) ∧ V.cell? ⟨w.heap.size, 4, none⟩ = some (.int .i64 rw)) ∧ V.cell? ⟨w.heap.size + 1, 0, none⟩ = some (.int .i64 fg) ∧ V.cell? ⟨w.heap.size + 1, 1, none⟩ = some (.bool fv) ∧ V.cell? ⟨w.heap.size + 1, 2, none⟩ = some (.int .i64 fn)) := Lib.hid fun V hV => by
    have k0 := old_obj hV h0
    have k1 := old_obj hV h1
    exact ⟨⟨cell_of (j := 0) k0 rfl, cell_of (j := 1) k0 rfl, cell_of (j := 2) k0 rfl, cell_of (j := 3) k0 rfl, cell_of (j := 4) k0 rfl⟩, cell_of (j := 0) k1 rfl, cell_of (j := 1) k1 rfl, cell_of (j := 2) k1 rfl⟩
  have HB0 := Lib.hid hb0
  have BX := Lib.hid ((Below.refl W0.heap.size W0).drew)
  have SX := Lib.hid (HS.out _ BX.out)
  clear h0 h1 hb0
  go_enter Try.func3, Try.ntmps3
  go_upto_region 1 with fail
  rw [← hW0]
  clear hW0
  go_region_held3 (fun V => (V.cell? ⟨w.heap.size, 0, none⟩ = some (.int .i64 rg) ∧ V.cell? ⟨w.heap.size, 1, none⟩ = some (.int .i64 rv) ∧ V.cell? ⟨w.heap.size, 2, none⟩ = some (.int .i64 rl) ∧ V.cell? ⟨w.heap.size, 3, none⟩ = some (.int .i64 rh) ∧ V.cell? ⟨w.heap.size, 4, none⟩ = some (.int .i64 rw)) ∧ V.cell? ⟨w.heap.size + 1, 0, none⟩ = some (.int .i64 fg) ∧ V.cell? ⟨w.heap.size + 1, 1, none⟩ = some (.bool fv) ∧ V.cell? ⟨w.heap.size + 1, 2, none⟩ = some (.int .i64 fn)) (first
    | exact SX.out
    | assumption) (first
    | (go_at_call 7; refine (H1.out _).mono ?_; rintro e w1 ⟨rfl, hb⟩; have BX := Lib.hid (BX.out.trans (hb.mono BX.out.size)); have SX := Lib.hid (HS.out _ BX.out); clear hb)
    | (go_at_call 8; refine (H2.out _).mono ?_; rintro e w1 ⟨rfl, hb⟩; have BX := Lib.hid (BX.out.trans (hb.mono BX.out.size)); have SX := Lib.hid (HS.out _ BX.out); clear hb)
    | (go_at_call 9; refine (H3.out _).mono ?_; rintro e w1 ⟨rfl, hb⟩; have BX := Lib.hid (BX.out.trans (hb.mono BX.out.size)); have SX := Lib.hid (HS.out _ BX.out); clear hb)
    | (go_at_call 10; refine (H4.out _).mono ?_; rintro e w1 ⟨rfl, hb⟩; have BX := Lib.hid (BX.out.trans (hb.mono BX.out.size)); have SX := Lib.hid (HS.out _ BX.out); clear hb)
    | (go_at_call 11; refine (H5.out _).mono ?_; rintro e w1 ⟨rfl, hb⟩; have BX := Lib.hid (BX.out.trans (hb.mono BX.out.size)); have SX := Lib.hid (HS.out _ BX.out); clear hb)
    | (go_at_call 12; refine (H6.out _).mono ?_; rintro e w1 ⟨rfl, hb⟩; have BX := Lib.hid (BX.out.trans (hb.mono BX.out.size)); have SX := Lib.hid (HS.out _ BX.out); clear hb)
    | (go_at_call 13; refine (H7.out _).mono ?_; rintro e w1 ⟨rfl, hb⟩; have BX := Lib.hid (BX.out.trans (hb.mono BX.out.size)); have SX := Lib.hid (HS.out _ BX.out); clear hb)
    | (go_at_call 14; refine (H8.out _).mono ?_; rintro e w1 ⟨rfl, hb⟩; have BX := Lib.hid (BX.out.trans (hb.mono BX.out.size)); have SX := Lib.hid (HS.out _ BX.out); clear hb))
  all_goals
    go_wp2
    go_ret
    exact ⟨by first | rfl | simp, HB0.out.trans (BX.out.mono HB0.out.size)⟩
end Go.Proofs.Ytkefbgjbgblalaa
