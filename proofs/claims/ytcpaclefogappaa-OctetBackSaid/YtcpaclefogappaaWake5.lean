/- The fixed probes of the layer: they all come out true, in every world. -/
import Derived.Test.YtcpaclefogappaaOctet
import Derived.Test.YtcpaclefogappaaBt5
namespace Go.Proofs.Ytcpaclefogappaa
open Go.RowKit

theorem p1 (w : World) : Calls Try.prog 10 #[.int .i64 258, .int .i64 4] w fun e w' => e = .returned (.tuple #[.string ⟨#[0, 0, 1, 2]⟩, .int .i64 0]) ∧ Below w.heap.size w w' := by
  refine (oput_any 258 4 (by omega) w).mono ?_
  rintro e w' ⟨t, rfl, ht, hb⟩
  obtain rfl : t = ⟨#[0, 0, 1, 2]⟩ := bytes_eq (ht.out.trans (by decide))
  exact ⟨by rw [show putE 258 4 = 0 by decide], hb⟩
theorem cat5 : (⟨#[120]⟩ ++ ⟨#[0, 0, 1, 2]⟩ : ByteArray) = ⟨#[120, 0, 0, 1, 2]⟩ := bytes_eq (by simp)
theorem p2 (w : World) : Calls Try.prog 12 #[.string (⟨#[120]⟩ ++ ⟨#[0, 0, 1, 2]⟩), .int .i64 1, .int .i64 4] w fun e w' => e = .returned (.tuple #[.agg #[.int .i64 258, .int .i64 5], .int .i64 0]) ∧ Below w.heap.size w w' := by
  rw [cat5]
  refine (oget_any ⟨#[120, 0, 0, 1, 2]⟩ (by decide) 1 4 (by omega) (by omega) w).mono ?_
  rintro e w' ⟨rfl, hb⟩
  exact ⟨by rw [show getV (⟨#[120, 0, 0, 1, 2]⟩ : ByteArray).data.toList 1 4 = 258 by decide, show getT (⟨#[120, 0, 0, 1, 2]⟩ : ByteArray).data.toList 1 4 = 5 by decide, show getE (⟨#[120, 0, 0, 1, 2]⟩ : ByteArray).data.toList 1 4 = 0 by decide], hb⟩
theorem p3 (w : World) : Calls Try.prog 14 #[.string ⟨#[104, 105]⟩] w fun e w' => e = .returned (.tuple #[.string ⟨#[0, 2, 104, 105]⟩, .int .i64 0]) ∧ Below w.heap.size w w' := by
  refine (olay_any ⟨#[104, 105]⟩ (by decide) w).mono ?_
  rintro e w' ⟨t, rfl, ht, hb⟩
  obtain rfl : t = ⟨#[0, 2, 104, 105]⟩ := bytes_eq (ht.out.trans (by decide))
  exact ⟨by rw [show layE (⟨#[104, 105]⟩ : ByteArray).data.toList = 0 by decide], hb⟩
theorem p4 (w : World) : Calls Try.prog 16 #[.string ⟨#[0, 2, 104, 105]⟩, .int .i64 0, .int .i64 2] w fun e w' => e = .returned (.tuple #[.agg #[.string ⟨#[104, 105]⟩, .int .i64 4], .int .i64 0]) ∧ Below w.heap.size w w' := by
  refine (otake_any ⟨#[0, 2, 104, 105]⟩ (by decide) 0 2 (by omega) (by omega) w).mono ?_
  rintro e w' ⟨t, rfl, ht, hb⟩
  obtain rfl : t = ⟨#[104, 105]⟩ := bytes_eq (ht.out.trans (by decide))
  exact ⟨by rw [show takeT (⟨#[0, 2, 104, 105]⟩ : ByteArray).data.toList 0 2 = 4 by decide, show takeE (⟨#[0, 2, 104, 105]⟩ : ByteArray).data.toList 0 2 = 0 by decide], hb⟩
theorem p5 (w : World) (t : TypeId) : Calls Try.prog 19 #[.int .i64 1, .slice (some ⟨w.heap.size, 0, none⟩) 2 2] (w.alloc (.cells #[.int .i64 7, .int .i64 8] t)) fun e w' => e = .returned (.tuple #[.string ⟨#[0, 2, 7, 8]⟩, .int .i64 0]) ∧ Below (w.alloc (.cells #[.int .i64 7, .int .i64 8] t)).heap.size (w.alloc (.cells #[.int .i64 7, .int .i64 8] t)) w' := by
  refine (orow_any (some ⟨w.heap.size, 0, none⟩) 2 1 [7, 8] (by decide) (by decide) _ (lit_two w 7 8 t)).mono ?_
  rintro e w' ⟨t, rfl, ht, hb⟩
  obtain rfl : t = ⟨#[0, 2, 7, 8]⟩ := bytes_eq (ht.out.trans (by decide))
  exact ⟨by rw [show rowE 1 [7, 8] = 0 by decide], hb⟩
theorem p6 (w : World) : Calls Try.prog 21 #[.string ⟨#[0, 2, 7, 8]⟩, .int .i64 0, .int .i64 1, .int .i64 2] w fun e w' => ∃ a c, e = .returned (.tuple #[.agg #[.slice a 2 c, .int .i64 4], .int .i64 0]) ∧ Ints w'.heap.size w' a [7, 8] ∧ Below w.heap.size w w' := by
  refine (ounrow_any ⟨#[0, 2, 7, 8]⟩ (by decide) 0 1 2 (by omega) (by omega) w).mono ?_
  have e1 : unrowL (⟨#[0, 2, 7, 8]⟩ : ByteArray).data.toList 0 1 2 = [7, 8] := by decide
  have e2 : unrowT (⟨#[0, 2, 7, 8]⟩ : ByteArray).data.toList 0 1 2 = 4 := by decide
  have e3 : unrowE (⟨#[0, 2, 7, 8]⟩ : ByteArray).data.toList 0 1 2 = 0 := by decide
  rintro e w' ⟨a, c, rfl, hI, hb⟩
  rw [e1] at hI ⊢
  exact ⟨a, c, by rw [e2, e3]; rfl, hI, hb⟩
theorem p7 (w : World) : Calls Try.prog 10 #[.int .i64 256, .int .i64 1] w fun e w' => e = .returned (.tuple #[.string ⟨#[]⟩, .int .i64 8]) ∧ Below w.heap.size w w' := by
  refine (oput_any 256 1 (by omega) w).mono ?_
  rintro e w' ⟨t, rfl, ht, hb⟩
  obtain rfl : t = ⟨#[]⟩ := bytes_eq (ht.out.trans (by decide))
  exact ⟨by rw [show putE 256 1 = 8 by decide], hb⟩
theorem p8 (w : World) : Calls Try.prog 16 #[.string ⟨#[0, 2, 104, 105]⟩, .int .i64 0, .int .i64 1] w fun e w' => e = .returned (.tuple #[.agg #[.string ⟨#[]⟩, .int .i64 0], .int .i64 3]) ∧ Below w.heap.size w w' := by
  refine (otake_any ⟨#[0, 2, 104, 105]⟩ (by decide) 0 1 (by omega) (by omega) w).mono ?_
  rintro e w' ⟨t, rfl, ht, hb⟩
  obtain rfl : t = ⟨#[]⟩ := bytes_eq (ht.out.trans (by decide))
  exact ⟨by rw [show takeT (⟨#[0, 2, 104, 105]⟩ : ByteArray).data.toList 0 1 = 0 by decide, show takeE (⟨#[0, 2, 104, 105]⟩ : ByteArray).data.toList 0 1 = 3 by decide], hb⟩

theorem p9 (a : Option Addr) (c : Nat) (w : World) (t : TypeId) (n : Nat) (hn : n = w.heap.size) (h : Ints w.heap.size w a [7, 8]) : Calls Try.prog 23 #[.slice a 2 c, .slice (some ⟨n, 0, none⟩) 2 2] (w.alloc (.cells #[.int .i64 7, .int .i64 8] t)) fun e w' => e = .returned (.bool true) ∧ Below (w.alloc (.cells #[.int .i64 7, .int .i64 8] t)).heap.size (w.alloc (.cells #[.int .i64 7, .int .i64 8] t)) w' := by
  subst hn
  have := same_any a (some ⟨w.heap.size, 0, none⟩) c 2 [7, 8] [7, 8] _ (by decide) (h.lit _) (lit_two w 7 8 t)
  rw [decide_eq_true rfl] at this
  exact this
/-- A variable of two fields. -/
structure Var2 (w : World) (n : Nat) (x y : Value) : Prop where
  c0 : w.cell? ⟨n, 0, none⟩ = some x
  c1 : w.cell? ⟨n, 1, none⟩ = some y
  lt : n < w.heap.size
theorem Var2.step {w w' : World} {n : Nat} {x y : Value} (h : Var2 w n x y) (b : Below w.heap.size w w') : Var2 w' n x y :=
  ⟨(b.cell (p := ⟨n, 0, none⟩) h.lt).trans h.c0, (b.cell (p := ⟨n, 1, none⟩) h.lt).trans h.c1, Nat.lt_of_lt_of_le h.lt b.size⟩
theorem Var2.alloc {w : World} {n : Nat} {x y : Value} (h : Var2 w n x y) (o : Obj) : Var2 (w.alloc o) n x y := h.step ((Below.refl _ w).alloc (Nat.le_refl _) o)
theorem Var2.new (w : World) (x y : Value) (t : TypeId) : Var2 (w.alloc (.cells #[x, y] t)) w.heap.size x y := ⟨by simp, by simp, by simp⟩
theorem oflag_on (w : World) : Calls Try.prog 18 #[.bool true] w fun e w' => e = .returned (.string ⟨#[1]⟩) ∧ Below w.heap.size w w' := oflag_any true w
theorem oflag_off (w : World) : Calls Try.prog 18 #[.bool false] w fun e w' => e = .returned (.string ⟨#[0]⟩) ∧ Below w.heap.size w w' := oflag_any false w

set_option maxRecDepth 100000 in
set_option maxHeartbeats 1000000 in
theorem awake5_any (w : World) : Calls Try.prog 9 #[] w fun e w' => e = .returned (.bool true) ∧ Below w.heap.size w w' := by
  have hb := Below.refl w.heap.size w
  go_enter Try.func9, Try.ntmps9
  go_upto_region 3 with (first
    | (go_at_call 10; refine (p1 _).mono ?_; rintro e w1 ⟨rfl, b1⟩; replace hb := hb.trans (b1.mono hb.size); clear b1)
    | (go_at_call 12; refine (p2 _).mono ?_; rintro e w2 ⟨rfl, b1⟩; replace hb := hb.trans (b1.mono hb.size); clear b1))
  have v1 := Var2.new w2 (.int .i64 258) (.int .i64 5) 30
  replace hb := hb.alloc hb.size (Obj.cells #[Value.int IntKind.i64 258, Value.int IntKind.i64 5] 30)
  generalize w2.alloc (Obj.cells #[Value.int IntKind.i64 258, Value.int IntKind.i64 5] 30) = V2 at *
  generalize w2.heap.size = n1 at *
  go_upto_region 5 with (first
    | (go_at_call 14; refine (p3 _).mono ?_; rintro e w3 ⟨rfl, b1⟩; replace hb := hb.trans (b1.mono hb.size); replace v1 := v1.step b1; clear b1)
    | (go_at_call 16; refine (p4 _).mono ?_; rintro e w4 ⟨rfl, b1⟩; replace hb := hb.trans (b1.mono hb.size); replace v1 := v1.step b1; clear b1))
  have v2 := Var2.new w4 (.string ⟨#[104, 105]⟩) (.int .i64 4) 39
  replace v1 := v1.alloc (Obj.cells #[Value.string ⟨#[104, 105]⟩, Value.int IntKind.i64 4] 39)
  replace hb := hb.alloc hb.size (Obj.cells #[Value.string ⟨#[104, 105]⟩, Value.int IntKind.i64 4] 39)
  generalize w4.alloc (Obj.cells #[Value.string ⟨#[104, 105]⟩, Value.int IntKind.i64 4] 39) = V4 at *
  generalize w4.heap.size = n2 at *
  go_upto_region 6 with (go_at_call 19; refine (p5 _ _).mono ?_; rintro e w5 ⟨rfl, b1⟩; replace v1 := (v1.alloc _).step b1; replace v2 := (v2.alloc _).step b1; replace hb := (hb.alloc hb.size _).trans (b1.mono (hb.alloc hb.size _).size); clear b1)
  go_upto_region 7 with (go_at_call 21; refine (p6 _).mono ?_; rintro e w6 ⟨a6, c6, rfl, hI, b1⟩; replace v1 := v1.step b1; replace v2 := v2.step b1; replace hb := hb.trans (b1.mono hb.size); clear b1; replace hI := Lib.hid hI)
  have v3 := Var2.new w6 (.slice a6 2 c6) (.int .i64 4) 51
  replace v1 := v1.alloc (Obj.cells #[Value.slice a6 2 c6, Value.int IntKind.i64 4] 51)
  replace v2 := v2.alloc (Obj.cells #[Value.slice a6 2 c6, Value.int IntKind.i64 4] 51)
  replace hI := Lib.hid (hI.out.lit (Obj.cells #[Value.slice a6 2 c6, Value.int IntKind.i64 4] 51))
  replace hb := hb.alloc hb.size (Obj.cells #[Value.slice a6 2 c6, Value.int IntKind.i64 4] 51)
  generalize w6.alloc (Obj.cells #[Value.slice a6 2 c6, Value.int IntKind.i64 4] 51) = V6 at *
  generalize w6.heap.size = n3 at *
  go_upto_region 8 with (go_at_call 10; refine (p7 _).mono ?_; rintro e w7 ⟨rfl, b1⟩; replace v1 := v1.step b1; replace v2 := v2.step b1; replace v3 := v3.step b1; replace hI := Lib.hid (hI.out.step b1); replace hb := hb.trans (b1.mono hb.size); clear b1)
  go_wp2_with (first
    | (go_at_call 16; refine (p8 _).mono ?_; rintro e w8 ⟨rfl, b1⟩; replace v1 := (v1.step b1).alloc (Obj.cells #[Value.string ⟨#[]⟩, Value.int IntKind.i64 0] 39); replace v2 := (v2.step b1).alloc (Obj.cells #[Value.string ⟨#[]⟩, Value.int IntKind.i64 0] 39); replace v3 := (v3.step b1).alloc (Obj.cells #[Value.string ⟨#[]⟩, Value.int IntKind.i64 0] 39); replace hI := Lib.hid ((hI.out.step b1).lit (Obj.cells #[Value.string ⟨#[]⟩, Value.int IntKind.i64 0] 39)); replace hb := (hb.trans (b1.mono hb.size)).alloc (hb.trans (b1.mono hb.size)).size (Obj.cells #[Value.string ⟨#[]⟩, Value.int IntKind.i64 0] 39); clear b1; have f0 := v1.c0; have f1 := v1.c1; have f2 := v2.c0; have f3 := v2.c1; have f4 := v3.c0; have f5 := v3.c1)
    | (go_at_call 23; refine (p9 _ _ _ _ _ (by simp) hI.out).mono ?_; rintro e w9 ⟨rfl, b1⟩; replace hb := (hb.alloc hb.size _).trans (b1.mono (hb.alloc hb.size _).size); have f6 := ((v3.alloc _).step b1).c1; clear b1)
    | (go_at_call 18; refine (oflag_on _).mono ?_; rintro e w10 ⟨rfl, b1⟩; replace hb := hb.trans (b1.mono hb.size); clear b1)
    | (go_at_call 18; refine (oflag_off _).mono ?_; rintro e w11 ⟨rfl, b1⟩; replace hb := hb.trans (b1.mono hb.size); clear b1))
  go_ret
  exact ⟨rfl, hb⟩
end Go.Proofs.Ytcpaclefogappaa
