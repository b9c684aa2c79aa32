/- The laws' RefDo, for every act and every device of the document's. -/
import Derived.Test.YtocengdojdeiiaaDo8
import Derived.Test.YtocengdojdeiiaaNew8
namespace Go.Proofs.Ytocengdojdeiiaa
open Go.RowKit

/-- What is said of a device of the document's apart from where it lies. -/
structure RIn (B : Nat) (w : World) (a : Value) (d : Dv) : Prop where
  row : RDev B w a d
  base : B ≤ w.heap.size
theorem RDev.far {B : Nat} {W w2 : World} {a : Value} {d : Dv} (h : RDev B w2 a d) {r : Nat} {x0 x1 x2 x3 : Value} (hr : W.heap[r]? = some (.cells #[x0, x1, x2, x3] 32 (0, 0))) (hb : Below W.heap.size W w2) {x y z u : Value} : RDev B ((((w2.setCell ⟨r, 0, none⟩ x).setCell ⟨r, 1, none⟩ y).setCell ⟨r, 2, none⟩ z).setCell ⟨r, 3, none⟩ u) a d := by
  have h2 := old_obj hb hr
  refine ⟨h.row.1, ?_⟩
  rcases h.row.2 with q | ⟨g, cap, cur, q1, q2, q3, q4⟩
  · exact Or.inl q
  · refine Or.inr ⟨g, cap, cur, q1, q2, four_other8 q3 (fun e => ?_) _ _ _ _, q4⟩
    subst e
    rw [h2] at q3
    injection q3 with q3
    injection q3 with _ q3
    revert q3; decide
theorem three_laid {w : World} (A P Z : Obj) : (((w.alloc A).alloc P).alloc Z).heap[w.heap.size]? = some A ∧ (((w.alloc A).alloc P).alloc Z).heap[w.heap.size + 1]? = some P ∧ (((w.alloc A).alloc P).alloc Z).heap[w.heap.size + 1 + 1]? = some Z ∧ (((w.alloc A).alloc P).alloc Z).heap.size = w.heap.size + 3 ∧ Below w.heap.size w (((w.alloc A).alloc P).alloc Z) := by
  obtain ⟨h1, h2, h3, h4⟩ := below_three (w := w) (A := A) (P := P) (Z := Z) (Below.refl _ _)
  exact ⟨h2, h3, h4, by simp, h1⟩
set_option maxHeartbeats 1000000 in
theorem rdo_write {B : Nat} {w : World} {a : Value} {d : Dv} (h : RIn B w a d) (hd : d.Ok) (ho : d.ops < 9223372036854773807) (p n : Int) (hp : Num64 p) (c : UInt8) (k : Value) (y z : Int) (hn : n ≤ 100) (T : ByteArray) (hT : T = if n < 0 then ⟨#[115, 104, 111, 114, 116]⟩ else fillT n.toNat c) (hTs : T.size ≤ 6400) :
    Calls Try.prog 11 #[.agg #[a, .int .i64 d.ops, .int .i64 d.armed, .bool d.dead], .agg #[.int .i64 0, .int .i64 p, .int .i64 n, .int .u8 c.toNat, k, .int .i64 y, .int .i64 z]] w fun e w' => ∃ a', e = .returned (.tuple #[.agg #[a', .int .i64 (d.write p T).ops, .int .i64 (d.write p T).armed, .bool (d.write p T).dead], .int .i64 (d.writeE p T)]) ∧ RDev B w' a' (d.write p T) ∧ Below w.heap.size w w' := by
  have htx := text_any 0 p n c k y z hn T hT
  clear hT
  obtain ⟨g0, cap0, rfl⟩ := Joins.ownsRow_form h.row.row hd.some
  have HLEN : Hid (0 < (d.write p T).cells.length) := Lib.hid (hd.write p T).some
  obtain ⟨A, hA⟩ : ∃ A : Obj, A = .cells #[(.slice (some ⟨g0, 0, none⟩) d.cells.length cap0), .int .i64 d.ops, .int .i64 d.armed, .bool d.dead] 32 := ⟨_, rfl⟩
  obtain ⟨C, hC⟩ : ∃ C : Obj, C = .cells #[.int .i64 0, .int .i64 p, .int .i64 n, .int .u8 c.toNat, k, .int .i64 y, .int .i64 z] 41 := ⟨_, rfl⟩
  obtain ⟨Z, hZ⟩ : ∃ Z : Obj, Z = .cells #[.slice none 0 0, .int .i64 0, .int .i64 0, .bool false] 32 := ⟨_, rfl⟩
  obtain ⟨q1, q2, q3, hsz, hB0⟩ := three_laid (w := w) A C Z
  have hP0 := h.row.step hB0
  have hBB := h.base
  have hcall : ∀ w1, Below (((w.alloc A).alloc C).alloc Z).heap.size (((w.alloc A).alloc C).alloc Z) w1 → Calls Try.prog 28 #[.agg #[.slice (some ⟨g0, 0, none⟩) d.cells.length cap0, .int .i64 d.ops, .int .i64 d.armed, .bool d.dead], .int .i64 p, .string T] w1 fun e w' => ∃ a', e = .returned (.tuple #[.agg #[a', .int .i64 (d.write p T).ops, .int .i64 (d.write p T).armed, .bool (d.write p T).dead], .int .i64 (d.writeE p T)]) ∧ RDev B w' a' (d.write p T) ∧ Below w1.heap.size w1 w' := fun w1 hb =>
    rwrite_any B _ d p T hp.1 hp.2 (by omega) (by have := hd.ops0; omega) ho (by have := hd.armed0; omega) hd.armed1 hd.some hd.few w1 (by have := hb.size; omega) (hP0.step hb)
  have HR := Lib.hid hP0
  clear h hP0
  go_enter Try.func11, Try.ntmps11
  go_upto_region 3 with fail
  rw [← hA, ← hC, ← hZ]
  generalize ((w.alloc A).alloc C).alloc Z = W at *
  rw [hA] at q1
  rw [hC] at q2
  rw [hZ] at q3
  clear hA hC hZ
  obtain ⟨c0, c1, c2, c3, c4, c5, c6⟩ := seven_cells q2
  obtain ⟨d0, d1, d2, d3, _⟩ := four_cells8 q1
  have HQ1 := Lib.hid q1
  have HQ2 := Lib.hid q2
  have HQ3 := Lib.hid q3
  have HB := Lib.hid hB0
  have HSZ := Lib.hid hsz
  clear q1 q2 q3 hB0 hsz
  have x1 : ¬ (w.heap.size = w.heap.size + 1 + 1) := by omega
  have x2 : ¬ (w.heap.size + 1 + 1 = w.heap.size) := by omega
  have x3 : ¬ (w.heap.size + 1 = w.heap.size + 1 + 1) := by omega
  have x4 : ¬ (w.heap.size + 1 + 1 = w.heap.size + 1) := by omega
  go_region_held3 (fun w' => w'.cell? ⟨w.heap.size, 0, none⟩ = some (.slice (some ⟨g0, 0, none⟩) d.cells.length cap0) ∧ w'.cell? ⟨w.heap.size, 1, none⟩ = some (.int .i64 d.ops) ∧ w'.cell? ⟨w.heap.size, 2, none⟩ = some (.int .i64 d.armed) ∧ w'.cell? ⟨w.heap.size, 3, none⟩ = some (.bool d.dead) ∧ w'.cell? ⟨w.heap.size + 1, 0, none⟩ = some (.int .i64 0) ∧ w'.cell? ⟨w.heap.size + 1, 1, none⟩ = some (.int .i64 p) ∧ w'.cell? ⟨w.heap.size + 1, 2, none⟩ = some (.int .i64 n) ∧ w'.cell? ⟨w.heap.size + 1, 3, none⟩ = some (.int .u8 c.toNat) ∧ w'.cell? ⟨w.heap.size + 1, 4, none⟩ = some k ∧ w'.cell? ⟨w.heap.size + 1, 5, none⟩ = some (.int .i64 y) ∧ w'.cell? ⟨w.heap.size + 1, 6, none⟩ = some (.int .i64 z)) (go_keep)
    (first
      | (go_at_call 29; refine (htx _).mono ?_; rintro e w1 ⟨rfl, hb1⟩; have HB1 : Hid (Below W.heap.size W w1) := Lib.hid ((Below.refl _ W).drew.trans hb1); obtain ⟨c0, c1, c2, c3, c4, c5, c6⟩ := seven_cells (old_obj HB1.out HQ2.out); obtain ⟨d0, d1, d2, d3, _⟩ := four_cells8 (old_obj HB1.out HQ1.out); clear hb1)
      | (go_at_call 28; refine (hcall w1 HB1.out).mono ?_; rintro e w2 ⟨a2, rfl, hp2, hb2⟩; obtain ⟨g2, cap2, rfl⟩ := Joins.ownsRow_form hp2.row HLEN.out; have HP2 := Lib.hid hp2; have HB2 : Hid (Below W.heap.size W w2) := Lib.hid (HB1.out.trans (hb2.mono HB1.out.size)); obtain ⟨c0, c1, c2, c3, c4, c5, c6⟩ := seven_cells (old_obj HB2.out HQ2.out); obtain ⟨d0, d1, d2, d3, _⟩ := four_cells8 (old_obj HB2.out HQ1.out); obtain ⟨k0, k1, k2, k3, n0, n1, n2, n3⟩ := four_cells8 (old_obj HB2.out HQ3.out); clear hp2 hb2))
  all_goals go_wp2
  all_goals refine bodyPost_ret (results_row_slot rfl _ _ (w.heap.size + 1 + 1) _ rfl (dev_load (four_stored8 (old_obj HB2.out HQ3.out) _ _ _ _))) rfl ?_
  all_goals exact ⟨_, rfl, HP2.out.far HQ3.out HB2.out, four_below8 (HB.out.trans (HB2.out.mono HB.out.size)) (by omega) _ _ _ _⟩
set_option maxHeartbeats 1000000 in
theorem rdo_flush {B : Nat} {w : World} {a : Value} {d : Dv} (h : RIn B w a d) (hd : d.Ok) (ho : d.ops < 9223372036854775807) (p n : Int) (c : UInt8) (k : Value) (y z : Int) :
    Calls Try.prog 11 #[.agg #[a, .int .i64 d.ops, .int .i64 d.armed, .bool d.dead], .agg #[.int .i64 1, .int .i64 p, .int .i64 n, .int .u8 c.toNat, k, .int .i64 y, .int .i64 z]] w fun e w' => ∃ a', e = .returned (.tuple #[.agg #[a', .int .i64 (d.flush).ops, .int .i64 (d.flush).armed, .bool (d.flush).dead], .int .i64 d.flushE]) ∧ RDev B w' a' (d.flush) ∧ Below w.heap.size w w' := by
  obtain ⟨g0, cap0, rfl⟩ := Joins.ownsRow_form h.row.row hd.some
  have HLEN : Hid (0 < (d.flush).cells.length) := Lib.hid (hd.flush).some
  obtain ⟨A, hA⟩ : ∃ A : Obj, A = .cells #[(.slice (some ⟨g0, 0, none⟩) d.cells.length cap0), .int .i64 d.ops, .int .i64 d.armed, .bool d.dead] 32 := ⟨_, rfl⟩
  obtain ⟨C, hC⟩ : ∃ C : Obj, C = .cells #[.int .i64 1, .int .i64 p, .int .i64 n, .int .u8 c.toNat, k, .int .i64 y, .int .i64 z] 41 := ⟨_, rfl⟩
  obtain ⟨Z, hZ⟩ : ∃ Z : Obj, Z = .cells #[.slice none 0 0, .int .i64 0, .int .i64 0, .bool false] 32 := ⟨_, rfl⟩
  obtain ⟨q1, q2, q3, hsz, hB0⟩ := three_laid (w := w) A C Z
  have hP0 := h.row.step hB0
  have hBB := h.base
  have hcall := rflush_any B _ d (by have := hd.ops0; omega) ho (by have := hd.armed0; omega) hd.armed1 hd.some hd.few _ (by have := hB0.size; omega) hP0
  have HR := Lib.hid hP0
  clear h hP0
  go_enter Try.func11, Try.ntmps11
  go_upto_region 2 with fail
  rw [← hA, ← hC, ← hZ]
  generalize ((w.alloc A).alloc C).alloc Z = W at *
  rw [hA] at q1
  rw [hC] at q2
  rw [hZ] at q3
  clear hA hC hZ
  obtain ⟨c0, c1, c2, c3, c4, c5, c6⟩ := seven_cells q2
  obtain ⟨d0, d1, d2, d3, _⟩ := four_cells8 q1
  have HQ1 := Lib.hid q1
  have HQ2 := Lib.hid q2
  have HQ3 := Lib.hid q3
  have HB := Lib.hid hB0
  have HSZ := Lib.hid hsz
  clear q1 q2 q3 hB0 hsz
  go_wp2_with (go_at_call 30; refine hcall.mono ?_; rintro e w2 ⟨a2, rfl, hp2, hb2⟩; obtain ⟨g2, cap2, rfl⟩ := Joins.ownsRow_form hp2.row HLEN.out; have HP2 := Lib.hid hp2; have HB2 := Lib.hid hb2; obtain ⟨k0, k1, k2, k3, n0, n1, n2, n3⟩ := four_cells8 (old_obj HB2.out HQ3.out); clear hp2 hb2)
  refine bodyPost_ret (results_row_slot rfl _ _ (w.heap.size + 1 + 1) _ rfl (dev_load (four_stored8 (old_obj HB2.out HQ3.out) _ _ _ _))) rfl ?_
  exact ⟨_, rfl, HP2.out.far HQ3.out HB2.out, four_below8 (HB.out.trans (HB2.out.mono HB.out.size)) (by omega) _ _ _ _⟩
set_option maxHeartbeats 1000000 in
theorem rdo_arm {B : Nat} {w : World} {a : Value} {d : Dv} (h : RIn B w a d) (hd : d.Ok) (p n : Int) (c : UInt8) (k : Value) (y z : Int) (hn64 : n ≤ 9223372036854775807) :
    Calls Try.prog 11 #[.agg #[a, .int .i64 d.ops, .int .i64 d.armed, .bool d.dead], .agg #[.int .i64 2, .int .i64 p, .int .i64 n, .int .u8 c.toNat, k, .int .i64 y, .int .i64 z]] w fun e w' => ∃ a', e = .returned (.tuple #[.agg #[a', .int .i64 (d.arm n).ops, .int .i64 (d.arm n).armed, .bool (d.arm n).dead], .int .i64 (d.armE n)]) ∧ RDev B w' a' (d.arm n) ∧ Below w.heap.size w w' := by
  obtain ⟨g0, cap0, rfl⟩ := Joins.ownsRow_form h.row.row hd.some
  have HLEN : Hid (0 < (d.arm n).cells.length) := Lib.hid (hd.arm n hn64).some
  obtain ⟨A, hA⟩ : ∃ A : Obj, A = .cells #[(.slice (some ⟨g0, 0, none⟩) d.cells.length cap0), .int .i64 d.ops, .int .i64 d.armed, .bool d.dead] 32 := ⟨_, rfl⟩
  obtain ⟨C, hC⟩ : ∃ C : Obj, C = .cells #[.int .i64 2, .int .i64 p, .int .i64 n, .int .u8 c.toNat, k, .int .i64 y, .int .i64 z] 41 := ⟨_, rfl⟩
  obtain ⟨Z, hZ⟩ : ∃ Z : Obj, Z = .cells #[.slice none 0 0, .int .i64 0, .int .i64 0, .bool false] 32 := ⟨_, rfl⟩
  obtain ⟨q1, q2, q3, hsz, hB0⟩ := three_laid (w := w) A C Z
  have hP0 := h.row.step hB0
  have hBB := h.base
  have hcall : Calls Try.prog 31 #[.agg #[.slice (some ⟨g0, 0, none⟩) d.cells.length cap0, .int .i64 d.ops, .int .i64 d.armed, .bool d.dead], .int .i64 n] (((w.alloc A).alloc C).alloc Z) fun e w' => ∃ a', e = .returned (.tuple #[.agg #[a', .int .i64 (d.arm n).ops, .int .i64 (d.arm n).armed, .bool (d.arm n).dead], .int .i64 (d.armE n)]) ∧ RDev B w' a' (d.arm n) ∧ Below (((w.alloc A).alloc C).alloc Z).heap.size (((w.alloc A).alloc C).alloc Z) w' := by
    refine (rarm_any (some ⟨g0, 0, none⟩) d.cells.length cap0 d n _).mono ?_
    rintro e w' ⟨rfl, hb⟩
    have hc : (d.arm n).cells = d.cells := by unfold Dv.arm; split <;> rfl
    exact ⟨_, rfl, ⟨by rw [hc]; exact (hP0.step hb).row⟩, hb⟩
  have HR := Lib.hid hP0
  clear h hP0
  go_enter Try.func11, Try.ntmps11
  go_upto_region 2 with fail
  rw [← hA, ← hC, ← hZ]
  generalize ((w.alloc A).alloc C).alloc Z = W at *
  rw [hA] at q1
  rw [hC] at q2
  rw [hZ] at q3
  clear hA hC hZ
  obtain ⟨c0, c1, c2, c3, c4, c5, c6⟩ := seven_cells q2
  obtain ⟨d0, d1, d2, d3, _⟩ := four_cells8 q1
  have HQ1 := Lib.hid q1
  have HQ2 := Lib.hid q2
  have HQ3 := Lib.hid q3
  have HB := Lib.hid hB0
  have HSZ := Lib.hid hsz
  clear q1 q2 q3 hB0 hsz
  go_wp2_with (go_at_call 31; refine hcall.mono ?_; rintro e w2 ⟨a2, rfl, hp2, hb2⟩; obtain ⟨g2, cap2, rfl⟩ := Joins.ownsRow_form hp2.row HLEN.out; have HP2 := Lib.hid hp2; have HB2 := Lib.hid hb2; obtain ⟨k0, k1, k2, k3, n0, n1, n2, n3⟩ := four_cells8 (old_obj HB2.out HQ3.out); clear hp2 hb2)
  refine bodyPost_ret (results_row_slot rfl _ _ (w.heap.size + 1 + 1) _ rfl (dev_load (four_stored8 (old_obj HB2.out HQ3.out) _ _ _ _))) rfl ?_
  exact ⟨_, rfl, HP2.out.far HQ3.out HB2.out, four_below8 (HB.out.trans (HB2.out.mono HB.out.size)) (by omega) _ _ _ _⟩
set_option maxHeartbeats 1000000 in
theorem rdo_off {B : Nat} {w : World} {a : Value} {d : Dv} (h : RIn B w a d) (hd : d.Ok) (p n : Int) (c : UInt8) (k : Value) (y z : Int) :
    Calls Try.prog 11 #[.agg #[a, .int .i64 d.ops, .int .i64 d.armed, .bool d.dead], .agg #[.int .i64 3, .int .i64 p, .int .i64 n, .int .u8 c.toNat, k, .int .i64 y, .int .i64 z]] w fun e w' => ∃ a', e = .returned (.tuple #[.agg #[a', .int .i64 (d.off).ops, .int .i64 (d.off).armed, .bool (d.off).dead], .int .i64 0]) ∧ RDev B w' a' (d.off) ∧ Below w.heap.size w w' := by
  obtain ⟨g0, cap0, rfl⟩ := Joins.ownsRow_form h.row.row hd.some
  have HLEN : Hid (0 < (d.off).cells.length) := Lib.hid (hd.off).some
  obtain ⟨A, hA⟩ : ∃ A : Obj, A = .cells #[(.slice (some ⟨g0, 0, none⟩) d.cells.length cap0), .int .i64 d.ops, .int .i64 d.armed, .bool d.dead] 32 := ⟨_, rfl⟩
  obtain ⟨C, hC⟩ : ∃ C : Obj, C = .cells #[.int .i64 3, .int .i64 p, .int .i64 n, .int .u8 c.toNat, k, .int .i64 y, .int .i64 z] 41 := ⟨_, rfl⟩
  obtain ⟨Z, hZ⟩ : ∃ Z : Obj, Z = .cells #[.slice none 0 0, .int .i64 0, .int .i64 0, .bool false] 32 := ⟨_, rfl⟩
  obtain ⟨q1, q2, q3, hsz, hB0⟩ := three_laid (w := w) A C Z
  have hP0 := h.row.step hB0
  have hBB := h.base
  have hcall : Calls Try.prog 32 #[.agg #[.slice (some ⟨g0, 0, none⟩) d.cells.length cap0, .int .i64 d.ops, .int .i64 d.armed, .bool d.dead]] (((w.alloc A).alloc C).alloc Z) fun e w' => ∃ a', e = .returned (.agg #[a', .int .i64 d.off.ops, .int .i64 d.off.armed, .bool d.off.dead]) ∧ RDev B w' a' d.off ∧ Below (((w.alloc A).alloc C).alloc Z).heap.size (((w.alloc A).alloc C).alloc Z) w' := by
    refine (roff_any (some ⟨g0, 0, none⟩) d.cells.length cap0 d _).mono ?_
    rintro e w' ⟨rfl, hb⟩
    exact ⟨_, rfl, ⟨(hP0.step hb).row⟩, hb⟩
  have HR := Lib.hid hP0
  clear h hP0
  go_enter Try.func11, Try.ntmps11
  go_upto_region 2 with fail
  rw [← hA, ← hC, ← hZ]
  generalize ((w.alloc A).alloc C).alloc Z = W at *
  rw [hA] at q1
  rw [hC] at q2
  rw [hZ] at q3
  clear hA hC hZ
  obtain ⟨c0, c1, c2, c3, c4, c5, c6⟩ := seven_cells q2
  obtain ⟨d0, d1, d2, d3, _⟩ := four_cells8 q1
  have HQ1 := Lib.hid q1
  have HQ2 := Lib.hid q2
  have HQ3 := Lib.hid q3
  have HB := Lib.hid hB0
  have HSZ := Lib.hid hsz
  clear q1 q2 q3 hB0 hsz
  go_wp2_with (go_at_call 32; refine hcall.mono ?_; rintro e w2 ⟨a2, rfl, hp2, hb2⟩; obtain ⟨g2, cap2, rfl⟩ := Joins.ownsRow_form hp2.row HLEN.out; have HP2 := Lib.hid hp2; have HB2 := Lib.hid hb2; obtain ⟨k0, k1, k2, k3, n0, n1, n2, n3⟩ := four_cells8 (old_obj HB2.out HQ3.out); clear hp2 hb2)
  refine bodyPost_ret (results_row_slot rfl _ _ (w.heap.size + 1 + 1) _ rfl (dev_load (four_stored8 (old_obj HB2.out HQ3.out) _ _ _ _))) rfl ?_
  exact ⟨_, rfl, HP2.out.far HQ3.out HB2.out, four_below8 (HB.out.trans (HB2.out.mono HB.out.size)) (by omega) _ _ _ _⟩
set_option maxHeartbeats 1000000 in
theorem rdo_boot {B : Nat} {w : World} {a : Value} {d : Dv} (h : RIn B w a d) (hd : d.Ok) (p n : Int) (c : UInt8) (ka : Option Addr) (kc : Nat) (ks : List Bool) (y z : Int) (hks : ks.length ≤ 4611686018427387904) (hK : Bools w.heap.size w ka ks) :
    Calls Try.prog 11 #[.agg #[a, .int .i64 d.ops, .int .i64 d.armed, .bool d.dead], .agg #[.int .i64 4, .int .i64 p, .int .i64 n, .int .u8 c.toNat, .slice ka ks.length kc, .int .i64 y, .int .i64 z]] w fun e w' => ∃ a', e = .returned (.tuple #[.agg #[a', .int .i64 (d.boot ks y z).ops, .int .i64 (d.boot ks y z).armed, .bool (d.boot ks y z).dead], .int .i64 0]) ∧ RDev B w' a' (d.boot ks y z) ∧ Below w.heap.size w w' := by
  obtain ⟨g0, cap0, rfl⟩ := Joins.ownsRow_form h.row.row hd.some
  have HLEN : Hid (0 < (d.boot ks y z).cells.length) := Lib.hid (hd.boot ks y z).some
  obtain ⟨A, hA⟩ : ∃ A : Obj, A = .cells #[(.slice (some ⟨g0, 0, none⟩) d.cells.length cap0), .int .i64 d.ops, .int .i64 d.armed, .bool d.dead] 32 := ⟨_, rfl⟩
  obtain ⟨C, hC⟩ : ∃ C : Obj, C = .cells #[.int .i64 4, .int .i64 p, .int .i64 n, .int .u8 c.toNat, .slice ka ks.length kc, .int .i64 y, .int .i64 z] 41 := ⟨_, rfl⟩
  obtain ⟨Z, hZ⟩ : ∃ Z : Obj, Z = .cells #[.slice none 0 0, .int .i64 0, .int .i64 0, .bool false] 32 := ⟨_, rfl⟩
  obtain ⟨q1, q2, q3, hsz, hB0⟩ := three_laid (w := w) A C Z
  have hP0 := h.row.step hB0
  have hBB := h.base
  have hcall := rboot_any B _ d hd.fit hd.some hd.few ka kc ks y z hks _ (by have := hB0.size; omega) hP0 ((hK.below hB0).up hB0.size)
  have HR := Lib.hid hP0
  clear h hP0
  go_enter Try.func11, Try.ntmps11
  go_upto_region 2 with fail
  rw [← hA, ← hC, ← hZ]
  generalize ((w.alloc A).alloc C).alloc Z = W at *
  rw [hA] at q1
  rw [hC] at q2
  rw [hZ] at q3
  clear hA hC hZ
  obtain ⟨c0, c1, c2, c3, c4, c5, c6⟩ := seven_cells q2
  obtain ⟨d0, d1, d2, d3, _⟩ := four_cells8 q1
  have HQ1 := Lib.hid q1
  have HQ2 := Lib.hid q2
  have HQ3 := Lib.hid q3
  have HB := Lib.hid hB0
  have HSZ := Lib.hid hsz
  clear q1 q2 q3 hB0 hsz
  go_wp2_with (go_at_call 33; refine hcall.mono ?_; rintro e w2 ⟨a2, rfl, hp2, hb2⟩; obtain ⟨g2, cap2, rfl⟩ := Joins.ownsRow_form hp2.row HLEN.out; have HP2 := Lib.hid hp2; have HB2 := Lib.hid hb2; obtain ⟨k0, k1, k2, k3, n0, n1, n2, n3⟩ := four_cells8 (old_obj HB2.out HQ3.out); clear hp2 hb2)
  refine bodyPost_ret (results_row_slot rfl _ _ (w.heap.size + 1 + 1) _ rfl (dev_load (four_stored8 (old_obj HB2.out HQ3.out) _ _ _ _))) rfl ?_
  exact ⟨_, rfl, HP2.out.far HQ3.out HB2.out, four_below8 (HB.out.trans (HB2.out.mono HB.out.size)) (by omega) _ _ _ _⟩
set_option maxHeartbeats 1000000 in
theorem rdo_else {B : Nat} {w : World} {a : Value} {d : Dv} (h : RIn B w a d) (hd : d.Ok) (x : Int) (hx : x ≠ 0 ∧ x ≠ 1 ∧ x ≠ 2 ∧ x ≠ 3 ∧ x ≠ 4) (p n : Int) (c : UInt8) (k : Value) (y z : Int) :
    Calls Try.prog 11 #[.agg #[a, .int .i64 d.ops, .int .i64 d.armed, .bool d.dead], .agg #[.int .i64 x, .int .i64 p, .int .i64 n, .int .u8 c.toNat, k, .int .i64 y, .int .i64 z]] w fun e w' => ∃ a', e = .returned (.tuple #[.agg #[a', .int .i64 d.ops, .int .i64 d.armed, .bool d.dead], .int .i64 0]) ∧ RDev B w' a' d ∧ Below w.heap.size w w' := by
  have e0 : (x == 0) = false := beq_eq_false_iff_ne.2 hx.1
  have e1 : (x == 1) = false := beq_eq_false_iff_ne.2 hx.2.1
  have e2 : (x == 2) = false := beq_eq_false_iff_ne.2 hx.2.2.1
  have e3 : (x == 3) = false := beq_eq_false_iff_ne.2 hx.2.2.2.1
  have e4 : (x == 4) = false := beq_eq_false_iff_ne.2 hx.2.2.2.2
  have HL : Hid (∀ A P Z : Obj, (((w.alloc A).alloc P).alloc Z).heap[w.heap.size]? = some A ∧ (((w.alloc A).alloc P).alloc Z).heap[w.heap.size + 1]? = some P ∧ (((w.alloc A).alloc P).alloc Z).heap[w.heap.size + 1 + 1]? = some Z ∧ (((w.alloc A).alloc P).alloc Z).heap.size = w.heap.size + 3 ∧ Below w.heap.size w (((w.alloc A).alloc P).alloc Z)) := Lib.hid fun A P Z => three_laid A P Z
  obtain ⟨g0, cap0, rfl⟩ := Joins.ownsRow_form h.row.row hd.some
  have HR := Lib.hid h.row
  clear hx h hd
  go_enter Try.func11, Try.ntmps11
  go_wp2
  refine bodyPost_ret (results_row_slot rfl _ _ (w.heap.size + 1 + 1) _ rfl (dev_load (HL.out _ _ _).2.2.1)) rfl ?_
  exact ⟨_, rfl, HR.out.step (HL.out _ _ _).2.2.2.2, (HL.out _ _ _).2.2.2.2⟩
/-- Any act on a device of the document's. -/
theorem rdo_any {B : Nat} {w : World} {a : Value} {d : Dv} (h : RIn B w a d) (hd : d.Ok) (ho : d.ops < 9223372036854773807) (v : AV) (hn : v.num ≤ 100) (hp : Num64 v.pos) (hf : v.keep.length ≤ 3000) (hK : Bools w.heap.size w v.ka v.keep) :
    Calls Try.prog 11 #[.agg #[a, .int .i64 d.ops, .int .i64 d.armed, .bool d.dead], v.val] w fun e w' => ∃ a', e = .returned (.tuple #[.agg #[a', .int .i64 (d.doA v).ops, .int .i64 (d.doA v).armed, .bool (d.doA v).dead], .int .i64 (d.doE v)]) ∧ RDev B w' a' (d.doA v) ∧ Below w.heap.size w w' := by
  obtain ⟨kind, pos, num, byte, ka, kc, keep, torn, cut⟩ := v
  unfold AV.val
  simp only at hn hK hf hp ⊢
  unfold Dv.doE Dv.doA
  simp only
  by_cases q0 : kind = 0
  · subst q0
    rw [if_pos rfl, if_pos rfl]
    exact rdo_write h hd ho pos num hp byte _ torn cut hn _ rfl (text_le ⟨0, pos, num, byte, ka, kc, keep, torn, cut⟩ hn)
  rw [if_neg q0, if_neg q0]
  by_cases q1 : kind = 1
  · subst q1
    rw [if_pos rfl, if_pos rfl]
    exact rdo_flush h hd (by omega) pos num byte _ torn cut
  rw [if_neg q1, if_neg q1]
  by_cases q2 : kind = 2
  · subst q2
    rw [if_pos rfl, if_pos rfl]
    exact rdo_arm h hd pos num byte _ torn cut (by omega)
  rw [if_neg q2, if_neg q2]
  by_cases q3 : kind = 3
  · subst q3
    rw [if_pos rfl]
    exact rdo_off h hd pos num byte _ torn cut
  rw [if_neg q3]
  by_cases q4 : kind = 4
  · subst q4
    rw [if_pos rfl]
    exact rdo_boot h hd pos num byte ka kc keep torn cut (by omega) hK
  rw [if_neg q4]
  exact rdo_else h hd kind ⟨q0, q1, q2, q3, q4⟩ pos num byte _ torn cut
end Go.Proofs.Ytocengdojdeiiaa
