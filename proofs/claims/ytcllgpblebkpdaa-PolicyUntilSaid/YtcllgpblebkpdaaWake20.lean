/- The probes of layer 20's laws come out true, from what is wanted of policy's functions. -/
import Derived.Test.YtcllgpblebkpdaaRefB20
namespace Go.Proofs.Ytcllgpblebkpdaa
open Go.RowKit

theorem results_one20 {fn : Func} {p : Tmp} {T : TypeId} (h : fn.results = #[.cell p T]) (tmps : Array Value) (w : World) (g : Nat) (v : Value)
    (hp : tmps.getD p undef = .pointer (some ⟨g, 0, none⟩)) (hl : (loadVar T ⟨g, 0, none⟩).run Try.prog w = .ok v w) :
    (results fn tmps).run Try.prog w = .ok v w := by
  have hp' : tmps[p]?.getD undef = .pointer (some ⟨g, 0, none⟩) := by simpa using hp
  simp only [results, h]
  simp [hp', asAddr, hl]
theorem item_load20 {w : World} {g : Nat} {x y z u : Value} (h : w.heap[g]? = some (.cells #[x, y, z, u] 23 (0, 0))) : (loadVar 23 ⟨g, 0, none⟩).run Try.prog w = .ok (.agg #[x, y, z, u]) w :=
  run_loadVar_row (P := Try.prog) w g _ 23 #[x, y, z, u] (0, 0) _ h Try.underlying23 rfl (by kernel_rfl)
theorem four_stored20 {w : World} {g : Nat} {t : TypeId} {x0 x1 x2 x3 v0 v1 v2 v3 : Value} (h : w.heap[g]? = some (.cells #[x0, x1, x2, x3] t (0, 0))) :
    ((((w.setCell ⟨g, 0, none⟩ v0).setCell ⟨g, 1, none⟩ v1).setCell ⟨g, 2, none⟩ v2).setCell ⟨g, 3, none⟩ v3).heap[g]? = some (.cells #[v0, v1, v2, v3] t (0, 0)) := by
  have h0 := heap_setCell_same w g 0 _ t v0 h
  have h1 := heap_setCell_same _ g 1 _ t v1 h0
  have h2 := heap_setCell_same _ g 2 _ t v2 h1
  have h3 := heap_setCell_same _ g 3 _ t v3 h2
  exact h3
theorem four_below20 {B : Nat} {w w' : World} (h : Below B w w') {g : Nat} (hg : B ≤ g) (v0 v1 v2 v3 : Value) :
    Below B w ((((w'.setCell ⟨g, 0, none⟩ v0).setCell ⟨g, 1, none⟩ v1).setCell ⟨g, 2, none⟩ v2).setCell ⟨g, 3, none⟩ v3) :=
  (((h.setCell (p := ⟨g, 0, none⟩) hg v0).setCell (p := ⟨g, 1, none⟩) hg v1).setCell (p := ⟨g, 2, none⟩) hg v2).setCell (p := ⟨g, 3, none⟩) hg v3
theorem four_frozen20 {w : World} {g : Nat} {t : TypeId} {a b c d : Value} (h : w.heap[g]? = some (.cells #[a, b, c, d] t (0, 0))) :
    w.frozen? ⟨g, 0, none⟩ = false ∧ w.frozen? ⟨g, 1, none⟩ = false ∧ w.frozen? ⟨g, 2, none⟩ = false ∧ w.frozen? ⟨g, 3, none⟩ = false :=
  ⟨frozen_of_row w g 0 _ _ h, frozen_of_row w g 1 _ _ h, frozen_of_row w g 2 _ _ h, frozen_of_row w g 3 _ _ h⟩
/-- The law's own item. -/
theorem item20_any (w : World) : Calls Try.prog 27 #[] w fun e w' => e = .returned (itemVal ⟨1, 2, 10, 30⟩) ∧ Below w.heap.size w w' := by
  have h0 := heap_alloc_new w (.cells #[.int .i64 0, .int .i64 0, .int .i64 0, .int .i64 0] 23)
  have hb := box20 w (.cells #[.int .i64 0, .int .i64 0, .int .i64 0, .int .i64 0] 23)
  go_enter Try.func27, Try.ntmps27
  go_upto_region 1 with fail
  obtain ⟨W, hW⟩ : ∃ W, W = w.alloc (.cells #[.int .i64 0, .int .i64 0, .int .i64 0, .int .i64 0] 23) := ⟨_, rfl⟩
  rw [← hW] at h0 hb ⊢
  clear hW
  have c0 := cell_of (j := 0) h0 rfl
  have c1 := cell_of (j := 1) h0 rfl
  have c2 := cell_of (j := 2) h0 rfl
  have c3 := cell_of (j := 3) h0 rfl
  obtain ⟨f0, f1, f2, f3⟩ := four_frozen20 h0
  have H0 := Lib.hid h0
  have HB := Lib.hid hb
  clear h0 hb
  go_wp2
  refine bodyPost_ret (results_one20 rfl _ _ w.heap.size _ rfl (item_load20 (four_stored20 H0.out))) rfl ?_
  exact ⟨rfl, four_below20 HB.out (Nat.le_refl _) _ _ _ _⟩
set_option maxRecDepth 100000 in
set_option maxHeartbeats 4000000 in
theorem awake20 (H : Policy20) (w : World) : Calls Try.prog 18 #[] w fun e w' => e = .returned (.bool true) ∧ Below w.heap.size w w' := by
  have H0 : Hid (∀ W, Calls Try.prog 27 #[] W fun e w' => e = .returned (.agg #[.int .i64 1, .int .i64 2, .int .i64 10, .int .i64 30]) ∧ Below W.heap.size W w') := Lib.hid fun W => item20_any W
  have H1 : Hid (∀ W, Calls Try.prog 6 #[.agg #[.int .i64 1, .int .i64 2, .int .i64 10, .int .i64 30], .int .i64 5] W fun e w' => e = .returned (.tuple #[.int .i64 15, .int .i64 35, .int .i64 0]) ∧ Below W.heap.size W w') := Lib.hid fun W => H.until_ ⟨1, 2, 10, 30⟩ 5 W (by decide)
  have H2 : Hid (∀ n d W, (Lit.int .i64 n).wf = true → (Lit.int .i64 d).wf = true → Calls Try.prog 8 #[.int .i64 n, .int .i64 d] W fun e w' => e = .returned (.tuple #[.int .i64 (passV n d), .int .i64 (passE n d)]) ∧ Below W.heap.size W w') := Lib.hid fun n d W h1 h2 => H.pass n d W h1 h2
  have H3 : Hid (∀ n W, (Lit.int .i64 n).wf = true → Calls Try.prog 14 #[.agg #[.int .i64 1, .int .i64 2, .int .i64 10, .int .i64 30], .int .i64 5, .int .i64 n] W fun e w' => e = .returned (.bool (openB ⟨1, 2, 10, 30⟩ 5 n)) ∧ Below W.heap.size W w') := Lib.hid fun n W h => H.isopen ⟨1, 2, 10, 30⟩ 5 n W (by decide) h
  have H4 : Hid (∀ n W, (Lit.int .i64 n).wf = true → Calls Try.prog 16 #[.agg #[.int .i64 1, .int .i64 2, .int .i64 10, .int .i64 30], .int .i64 5, .int .i64 n] W fun e w' => e = .returned (.bool (covB ⟨1, 2, 10, 30⟩ 5 n)) ∧ Below W.heap.size W w') := Lib.hid fun n W h => H.covered ⟨1, 2, 10, 30⟩ 5 n W (by decide) h
  have H5 : Hid (∀ W, Calls Try.prog 10 #[.agg #[.int .i64 1, .int .i64 2, .int .i64 10, .int .i64 30]] W fun e w' => e = .returned (.int .i64 0) ∧ Below W.heap.size W w') := Lib.hid fun W => H.check ⟨1, 2, 10, 30⟩ W
  have H6 : Hid (∀ t W, (Lit.int .i64 t).wf = true → Calls Try.prog 12 #[.int .i64 t] W fun e w' => e = .returned (.bool (timeB t)) ∧ Below W.heap.size W w') := Lib.hid fun t W h => H.time t W h
  have o1 : openB ⟨1, 2, 10, 30⟩ 5 15 = true := by decide
  have o2 : openB ⟨1, 2, 10, 30⟩ 5 16 = false := by decide
  have o3 : openB ⟨1, 2, 10, 30⟩ 5 4 = false := by decide
  have v1 : covB ⟨1, 2, 10, 30⟩ 5 35 = true := by decide
  have v2 : covB ⟨1, 2, 10, 30⟩ 5 36 = false := by decide
  have p1 : passV 5 7 = 12 := by decide
  have p2 : passE 5 7 = 0 := by decide
  have p3 : passV 1000000 1 = 0 := by decide
  have p4 : passE 1000000 1 = 39 := by decide
  have t1 : timeB 0 = true := by decide
  have t2 : timeB (-1) = false := by decide
  have BX : Hid (Below w.heap.size w w) := Lib.hid (Below.refl _ _)
  clear H
  go_enter Try.func18, Try.ntmps18
  go_wp2_with (first
    | (go_at_call 27; refine (H0.out _).mono ?_; rintro e w1 ⟨rfl, hb⟩; have BX := Lib.hid (BX.out.trans (hb.mono BX.out.size)); clear hb)
    | (go_at_call 6; refine (H1.out _).mono ?_; rintro e w1 ⟨rfl, hb⟩; have BX := Lib.hid (BX.out.trans (hb.mono BX.out.size)); clear hb)
    | (go_at_call 8; refine (H2.out _ _ _ (by decide) (by decide)).mono ?_; rintro e w1 ⟨rfl, hb⟩; have BX := Lib.hid (BX.out.trans (hb.mono BX.out.size)); clear hb)
    | (go_at_call 14; refine (H3.out _ _ (by decide)).mono ?_; rintro e w1 ⟨rfl, hb⟩; have BX := Lib.hid (BX.out.trans (hb.mono BX.out.size)); clear hb)
    | (go_at_call 16; refine (H4.out _ _ (by decide)).mono ?_; rintro e w1 ⟨rfl, hb⟩; have BX := Lib.hid (BX.out.trans (hb.mono BX.out.size)); clear hb)
    | (go_at_call 10; refine (H5.out _).mono ?_; rintro e w1 ⟨rfl, hb⟩; have BX := Lib.hid (BX.out.trans (hb.mono BX.out.size)); clear hb)
    | (go_at_call 12; refine (H6.out _ _ (by decide)).mono ?_; rintro e w1 ⟨rfl, hb⟩; have BX := Lib.hid (BX.out.trans (hb.mono BX.out.size)); clear hb))
  go_ret
  exact ⟨by first | rfl | simp [o1, o2, o3, v1, v2, t1, t2], BX.out⟩
end Go.Proofs.Ytcllgpblebkpdaa
