/- The walk of PolicyTells, from what is wanted of policy's functions. -/
import Derived.Test.YtcllgpblebkpdaaWake20
namespace Go.Proofs.Ytcllgpblebkpdaa
open Go.RowKit

set_option maxRecDepth 100000 in
set_option maxHeartbeats 8000000 in
theorem policyTells_from (H : Policy20) (w : World) (i : Item20) (a n : Int) (ha : (Lit.int .i64 a).wf = true) (hn : (Lit.int .i64 n).wf = true) :
    Calls Try.prog 3 #[itemVal i, .int .i64 a, .int .i64 n] w fun e w' => e = .returned (.bool true) ∧ Below w.heap.size w w' := by
  obtain ⟨W0, hW0⟩ : ∃ W, W = w.alloc (.cells #[.int .i64 i.id, .int .i64 i.ven, .int .i64 i.win, .int .i64 i.war] 23) := ⟨_, rfl⟩
  have hb0 : Below w.heap.size w W0 := by rw [hW0]; exact box20 w _
  have h0 := heap_alloc_new w (.cells #[.int .i64 i.id, .int .i64 i.ven, .int .i64 i.win, .int .i64 i.war] 23)
  rw [← hW0] at h0
  have H1 : Hid (∀ W, Calls Try.prog 6 #[itemVal i, .int .i64 a] W fun e w' => e = .returned (.tuple #[.int .i64 (untA i a), .int .i64 (untB i a), .int .i64 (untE i a)]) ∧ Below W.heap.size W w') := Lib.hid fun W => H.until_ i a W ha
  have H2 : Hid (∀ W, Calls Try.prog 7 #[itemVal i, .int .i64 a] W fun e w' => e = .returned (.tuple #[.int .i64 (untA i a), .int .i64 (untB i a), .int .i64 (untE i a)]) ∧ Below W.heap.size W w') := Lib.hid fun W => runtil20_any i a W
  have H3 : Hid (∀ W, Calls Try.prog 8 #[.int .i64 a, .int .i64 n] W fun e w' => e = .returned (.tuple #[.int .i64 (passV a n), .int .i64 (passE a n)]) ∧ Below W.heap.size W w') := Lib.hid fun W => H.pass a n W ha hn
  have H4 : Hid (∀ W, Calls Try.prog 9 #[.int .i64 a, .int .i64 n] W fun e w' => e = .returned (.tuple #[.int .i64 (passV a n), .int .i64 (passE a n)]) ∧ W = w') := Lib.hid fun W => rpass20_any a n W
  have H5 : Hid (∀ W, Calls Try.prog 10 #[itemVal i] W fun e w' => e = .returned (.int .i64 (itemE i)) ∧ Below W.heap.size W w') := Lib.hid fun W => H.check i W
  have H6 : Hid (∀ W, Calls Try.prog 11 #[itemVal i] W fun e w' => e = .returned (.int .i64 (itemE i)) ∧ Below W.heap.size W w') := Lib.hid fun W => rcheck20_any i W
  have H7 : Hid (∀ W, Calls Try.prog 12 #[.int .i64 a] W fun e w' => e = .returned (.bool (timeB a)) ∧ Below W.heap.size W w') := Lib.hid fun W => H.time a W ha
  have H8 : Hid (∀ W, Calls Try.prog 13 #[.int .i64 a] W fun e w' => e = .returned (.bool (timeB a)) ∧ Below W.heap.size W w') := Lib.hid fun W => (rtime20_any a W).mono fun _ _ h => ⟨h.1, h.2 ▸ Below.refl _ _⟩
  have H9 : Hid (∀ W, Calls Try.prog 14 #[itemVal i, .int .i64 a, .int .i64 n] W fun e w' => e = .returned (.bool (openB i a n)) ∧ Below W.heap.size W w') := Lib.hid fun W => H.isopen i a n W ha hn
  have H10 : Hid (∀ W, Calls Try.prog 15 #[itemVal i, .int .i64 a, .int .i64 n] W fun e w' => e = .returned (.bool (openB i a n)) ∧ Below W.heap.size W w') := Lib.hid fun W => ropen20_any i a n W
  have H11 : Hid (∀ W, Calls Try.prog 16 #[itemVal i, .int .i64 a, .int .i64 n] W fun e w' => e = .returned (.bool (covB i a n)) ∧ Below W.heap.size W w') := Lib.hid fun W => H.covered i a n W ha hn
  have H12 : Hid (∀ W, Calls Try.prog 17 #[itemVal i, .int .i64 a, .int .i64 n] W fun e w' => e = .returned (.bool (covB i a n)) ∧ Below W.heap.size W w') := Lib.hid fun W => rcov20_any i a n W
  have H13 : Hid (∀ W, Calls Try.prog 18 #[] W fun e w' => e = .returned (.bool true) ∧ Below W.heap.size W w') := Lib.hid fun W => awake20 H W
  clear H ha hn
  generalize untA i a = x1 at *
  generalize untB i a = x2 at *
  generalize untE i a = x3 at *
  generalize passV a n = x4 at *
  generalize passE a n = x5 at *
  generalize itemE i = x6 at *
  generalize timeB a = x7 at *
  generalize openB i a n = x8 at *
  generalize covB i a n = x9 at *
  obtain ⟨ii, iv, iw, ir⟩ := i
  dsimp only at *
  have HS : Hid (∀ V, Below W0.heap.size W0 V → V.cell? ⟨w.heap.size, 0, none⟩ = some (.int .i64 ii) ∧ V.cell? ⟨w.heap.size, 1, none⟩ = some (.int .i64 iv) ∧ V.cell? ⟨w.heap.size, 2, none⟩ = some (.int .i64 iw) ∧ V.cell? ⟨w.heap.size, 3, none⟩ = some (.int .i64 ir)) := Lib.hid fun V hV => by
    have k0 := old_obj hV h0
    exact ⟨cell_of (j := 0) k0 rfl, cell_of (j := 1) k0 rfl, cell_of (j := 2) k0 rfl, cell_of (j := 3) k0 rfl⟩
  have HB0 := Lib.hid hb0
  have BX : Hid (Below W0.heap.size W0 W0) := Lib.hid (Below.refl _ _)
  obtain ⟨c0, c1, c2, c3⟩ := HS.out _ BX.out
  clear h0 hb0
  go_enter Try.func3, Try.ntmps3
  go_upto_region 1 with fail
  rw [← hW0]
  clear hW0
  go_upto_region 2 with (go_at_call 6; refine (H1.out _).mono ?_; rintro e w1 ⟨rfl, hb⟩; have BX := Lib.hid (BX.out.trans (hb.mono BX.out.size)); clear hb)
  clear c0 c1 c2 c3
  obtain ⟨c0, c1, c2, c3⟩ := HS.out _ BX.out
  go_upto_region 5 with (first
    | (go_at_call 7; refine (H2.out _).mono ?_; rintro e w2 ⟨rfl, hb⟩; have BX := Lib.hid (BX.out.trans (hb.mono BX.out.size)); clear hb)
    | (go_at_call 8; refine (H3.out _).mono ?_; rintro e w3 ⟨rfl, hb⟩; have BX := Lib.hid (BX.out.trans (hb.mono BX.out.size)); clear hb)
    | (go_at_call 9; refine (H4.out _).mono ?_; rintro e w4 ⟨rfl, rfl⟩))
  clear c0 c1 c2 c3
  have BX := Lib.hid (BX.out.trans ((Below.refl w3.heap.size w3).drew.mono BX.out.size))
  have SX := Lib.hid (HS.out _ BX.out)
  go_region_held3 (fun V => V.cell? ⟨w.heap.size, 0, none⟩ = some (.int .i64 ii) ∧ V.cell? ⟨w.heap.size, 1, none⟩ = some (.int .i64 iv) ∧ V.cell? ⟨w.heap.size, 2, none⟩ = some (.int .i64 iw) ∧ V.cell? ⟨w.heap.size, 3, none⟩ = some (.int .i64 ir)) (first
    | exact SX.out
    | assumption) (first
    | (go_at_call 10; refine (H5.out _).mono ?_; rintro e w5 ⟨rfl, hb⟩; have BX := Lib.hid (BX.out.trans (hb.mono BX.out.size)); have SX := Lib.hid (HS.out _ BX.out); clear hb)
    | (go_at_call 11; refine (H6.out _).mono ?_; rintro e w5 ⟨rfl, hb⟩; have BX := Lib.hid (BX.out.trans (hb.mono BX.out.size)); have SX := Lib.hid (HS.out _ BX.out); clear hb)
    | (go_at_call 12; refine (H7.out _).mono ?_; rintro e w5 ⟨rfl, hb⟩; have BX := Lib.hid (BX.out.trans (hb.mono BX.out.size)); have SX := Lib.hid (HS.out _ BX.out); clear hb)
    | (go_at_call 13; refine (H8.out _).mono ?_; rintro e w5 ⟨rfl, hb⟩; have BX := Lib.hid (BX.out.trans (hb.mono BX.out.size)); have SX := Lib.hid (HS.out _ BX.out); clear hb)
    | (go_at_call 14; refine (H9.out _).mono ?_; rintro e w5 ⟨rfl, hb⟩; have BX := Lib.hid (BX.out.trans (hb.mono BX.out.size)); have SX := Lib.hid (HS.out _ BX.out); clear hb)
    | (go_at_call 15; refine (H10.out _).mono ?_; rintro e w5 ⟨rfl, hb⟩; have BX := Lib.hid (BX.out.trans (hb.mono BX.out.size)); have SX := Lib.hid (HS.out _ BX.out); clear hb)
    | (go_at_call 16; refine (H11.out _).mono ?_; rintro e w5 ⟨rfl, hb⟩; have BX := Lib.hid (BX.out.trans (hb.mono BX.out.size)); have SX := Lib.hid (HS.out _ BX.out); clear hb)
    | (go_at_call 17; refine (H12.out _).mono ?_; rintro e w5 ⟨rfl, hb⟩; have BX := Lib.hid (BX.out.trans (hb.mono BX.out.size)); have SX := Lib.hid (HS.out _ BX.out); clear hb)
    | (go_at_call 18; refine (H13.out _).mono ?_; rintro e w5 ⟨rfl, hb⟩; have BX := Lib.hid (BX.out.trans (hb.mono BX.out.size)); have SX := Lib.hid (HS.out _ BX.out); clear hb))
  all_goals
    go_wp2
    go_ret
    exact ⟨by first | rfl | simp, HB0.out.trans (BX.out.mono HB0.out.size)⟩
end Go.Proofs.Ytcllgpblebkpdaa
