/- The fixed probes of the layer: they all come out true, in every world. -/
import Derived.Test.YtmdonhkdkapjpaaShare
namespace Go.Proofs.Ytmdonhkdkapjpaa
open Go.RowKit

theorem Ints.step {w w' : World} {a : Option Addr} {xs : List Int} (h : Ints w.heap.size w a xs) (b : Below w.heap.size w w') : Ints w'.heap.size w' a xs := (h.below b).up b.size
theorem Ints.lit {w : World} {a : Option Addr} {xs : List Int} (h : Ints w.heap.size w a xs) (o : Obj) : Ints (w.alloc o).heap.size (w.alloc o) a xs := h.step ((Below.refl _ w).alloc (Nat.le_refl _) o)
theorem lit_cell (w : World) (cs : Array Value) (t : TypeId) (j : Nat) (v : Value) (h : cs[j]? = some v) : (w.alloc (.cells cs t)).cell? ⟨w.heap.size, 0 + j, none⟩ = some v := by
  rw [Nat.zero_add]
  show World.cell? _ _ = _
  unfold World.cell?
  rw [heap_alloc_new]
  exact h
theorem lit_one (w : World) (x : Int) (t : TypeId) : Ints (w.alloc (.cells #[.int .i64 x] t)).heap.size (w.alloc (.cells #[.int .i64 x] t)) (some ⟨w.heap.size, 0, none⟩) [x] := by
  refine Or.inr ⟨w.heap.size, 0, rfl, by simp, fun j hj => lit_cell w _ t j _ ?_⟩
  match j, hj with
  | 0, _ => rfl
theorem lit_two (w : World) (x y : Int) (t : TypeId) : Ints (w.alloc (.cells #[.int .i64 x, .int .i64 y] t)).heap.size (w.alloc (.cells #[.int .i64 x, .int .i64 y] t)) (some ⟨w.heap.size, 0, none⟩) [x, y] := by
  refine Or.inr ⟨w.heap.size, 0, rfl, by simp, fun j hj => lit_cell w _ t j _ ?_⟩
  match j, hj with
  | 0, _ => rfl
  | 1, _ => rfl
theorem lit_three (w : World) (x y z : Int) (t : TypeId) : Ints (w.alloc (.cells #[.int .i64 x, .int .i64 y, .int .i64 z] t)).heap.size (w.alloc (.cells #[.int .i64 x, .int .i64 y, .int .i64 z] t)) (some ⟨w.heap.size, 0, none⟩) [x, y, z] := by
  refine Or.inr ⟨w.heap.size, 0, rfl, by simp, fun j hj => lit_cell w _ t j _ ?_⟩
  match j, hj with
  | 0, _ => rfl
  | 1, _ => rfl
  | 2, _ => rfl

theorem o1 : outL 100 [1, 1, 1] = [34, 33, 33] := by decide
theorem o1e : outE 100 [1, 1, 1] = 0 := by decide
theorem o2 : outL 10 [1, 2] = [3, 7] := by decide
theorem o2e : outE 10 [1, 2] = 0 := by decide
theorem o3 : evenL 5 2 = [3, 2] := by decide
theorem o3e : evenE 5 2 = 0 := by decide
theorem o4 : placeV 10 [1, 2] 1 = 7 := by decide
theorem o4e : placeE 10 [1, 2] 1 = 0 := by decide
theorem o5e : outE 10 [] = 2 := by decide
theorem o6e : outE (-1) [1] = 8 := by decide
theorem o7 : wholeV [0, 0] = 2 := by decide
theorem o7e : wholeE [0, 0] = 0 := by decide

/-- The document's Out and its kin at the fixed places. -/
theorem p1 (w : World) (a : Option Addr) (h : Ints w.heap.size w a [1, 1, 1]) (c : Nat) : Calls Try.prog 7 #[.int .i64 100, .slice a 3 c] w fun e w' => ∃ a' c', e = .returned (.tuple #[.slice a' 3 c', .int .i64 0]) ∧ Ints w'.heap.size w' a' [34, 33, 33] ∧ Below w.heap.size w w' := by
  have := sout_any a c 100 [1, 1, 1] w (by simp) h
  rw [o1, o1e] at this
  exact this
theorem p2 (w : World) (a : Option Addr) (h : Ints w.heap.size w a [1, 2]) (c : Nat) : Calls Try.prog 7 #[.int .i64 10, .slice a 2 c] w fun e w' => ∃ a' c', e = .returned (.tuple #[.slice a' 2 c', .int .i64 0]) ∧ Ints w'.heap.size w' a' [3, 7] ∧ Below w.heap.size w w' := by
  have := sout_any a c 10 [1, 2] w (by simp) h
  rw [o2, o2e] at this
  exact this
theorem p3 (w : World) : Calls Try.prog 9 #[.int .i64 5, .int .i64 2] w fun e w' => ∃ a' c', e = .returned (.tuple #[.slice a' 2 c', .int .i64 0]) ∧ Ints w'.heap.size w' a' [3, 2] ∧ Below w.heap.size w w' := by
  have := seven_any 5 2 w
  rw [o3, o3e] at this
  exact this
theorem p4 (w : World) (a : Option Addr) (h : Ints w.heap.size w a [1, 2]) (c : Nat) : Calls Try.prog 11 #[.int .i64 10, .slice a 2 c, .int .i64 1] w fun e w' => e = .returned (.tuple #[.int .i64 7, .int .i64 0]) ∧ Below w.heap.size w w' := by
  have := splace_any a c 10 [1, 2] 1 w (by simp) h
  rw [o4, o4e] at this
  exact this
theorem p5 (w : World) : Calls Try.prog 7 #[.int .i64 10, .slice none 0 0] w fun e w' => ∃ v, e = .returned (.tuple #[v, .int .i64 2]) ∧ Below w.heap.size w w' := by
  have := sout_any none 0 10 [] w (by simp) (Or.inl rfl)
  rw [o5e] at this
  exact this.mono fun _ _ ⟨a, c, h1, _, h3⟩ => ⟨_, h1, h3⟩
theorem p6 (w : World) (a : Option Addr) (h : Ints w.heap.size w a [1]) (c : Nat) : Calls Try.prog 7 #[.int .i64 (-1), .slice a 1 c] w fun e w' => ∃ v, e = .returned (.tuple #[v, .int .i64 8]) ∧ Below w.heap.size w w' := by
  have := sout_any a c (-1) [1] w (by simp) h
  rw [o6e] at this
  exact this.mono fun _ _ ⟨a, c, h1, _, h3⟩ => ⟨_, h1, h3⟩
theorem p7 (w : World) (a : Option Addr) (h : Ints w.heap.size w a [0, 0]) (c : Nat) : Calls Try.prog 13 #[.slice a 2 c] w fun e w' => e = .returned (.tuple #[.int .i64 2, .int .i64 0]) ∧ Below w.heap.size w w' := by
  have := swhole_any a c [0, 0] w (by simp) h
  rw [o7, o7e] at this
  exact this
theorem same_lit (w : World) (a b : Option Addr) (xs : List Int) (n c c' : Nat) (hl : xs.length = n) (hs : n ≤ 4611686018427387904) (h : Ints w.heap.size w a xs) (h' : Ints w.heap.size w b xs) :
    Calls Try.prog 15 #[.slice a n c, .slice b n c'] w fun e w' => e = .returned (.bool true) ∧ Below w.heap.size w w' := by
  subst hl
  have := same_any a b c c' xs xs w hs h h'
  rw [show decide (xs = xs) = true from decide_eq_true rfl] at this
  exact this

set_option maxHeartbeats 1000000 in
theorem awake_any (w : World) : Calls Try.prog 6 #[] w fun e w' => e = .returned (.bool true) ∧ Below w.heap.size w w' := by
  have hb := Below.refl w.heap.size w
  go_enter Try.func6, Try.ntmps6
  go_upto_region 2 with (go_at_call 7; refine (p1 _ _ (lit_three _ _ _ _ _) _).mono ?_; rintro e w1 ⟨a1, c1, rfl, k1, b1⟩; replace hb := (hb.alloc hb.size _).trans (b1.mono (hb.alloc hb.size _).size))
  go_upto_region 3 with (go_at_call 7; refine (p2 _ _ (lit_two _ _ _ _) _).mono ?_; rintro e w2 ⟨a2, c2, rfl, k2, b2⟩; replace hb := (hb.alloc hb.size _).trans (b2.mono (hb.alloc hb.size _).size); replace k1 := (k1.lit _).step b2)
  go_upto_region 4 with (go_at_call 9; refine (p3 _).mono ?_; rintro e w3 ⟨a3, c3, rfl, k3, b3⟩; replace hb := hb.trans (b3.mono hb.size); replace k1 := k1.step b3; replace k2 := k2.step b3)
  go_upto_region 5 with (go_at_call 11; refine (p4 _ _ (lit_two _ _ _ _) _).mono ?_; rintro e w4 ⟨rfl, b4⟩; replace hb := (hb.alloc hb.size _).trans (b4.mono (hb.alloc hb.size _).size); replace k1 := (k1.lit _).step b4; replace k2 := (k2.lit _).step b4; replace k3 := (k3.lit _).step b4)
  go_upto_region 6 with (go_at_call 7; refine (p5 _).mono ?_; rintro e w5 ⟨v5, rfl, b5⟩; replace hb := hb.trans (b5.mono hb.size); replace k1 := k1.step b5; replace k2 := k2.step b5; replace k3 := k3.step b5)
  go_upto_region 7 with (go_at_call 7; refine (p6 _ _ (lit_one _ _ _) _).mono ?_; rintro e w6 ⟨v6, rfl, b6⟩; replace hb := (hb.alloc hb.size _).trans (b6.mono (hb.alloc hb.size _).size); replace k1 := (k1.lit _).step b6; replace k2 := (k2.lit _).step b6; replace k3 := (k3.lit _).step b6)
  go_upto_region 8 with (go_at_call 13; refine (p7 _ _ (lit_two _ _ _ _) _).mono ?_; rintro e w7 ⟨rfl, b7⟩; replace hb := (hb.alloc hb.size _).trans (b7.mono (hb.alloc hb.size _).size); replace k1 := (k1.lit _).step b7; replace k2 := (k2.lit _).step b7; replace k3 := (k3.lit _).step b7)
  go_wp2_with (first
    | (go_at_call 15; refine (same_lit _ _ _ [34, 33, 33] 3 _ _ rfl (by omega) (k1.lit _) (lit_three _ _ _ _ _)).mono ?_; rintro e w8 ⟨rfl, b8⟩; replace hb := (hb.alloc hb.size _).trans (b8.mono (hb.alloc hb.size _).size); replace k2 := (k2.lit _).step b8; replace k3 := (k3.lit _).step b8; clear k1)
    | (go_at_call 15; refine (same_lit _ _ _ [3, 7] 2 _ _ rfl (by omega) (k2.lit _) (lit_two _ _ _ _)).mono ?_; rintro e w9 ⟨rfl, b9⟩; replace hb := (hb.alloc hb.size _).trans (b9.mono (hb.alloc hb.size _).size); replace k3 := (k3.lit _).step b9; clear k2)
    | (go_at_call 15; refine (same_lit _ _ _ [3, 2] 2 _ _ rfl (by omega) (k3.lit _) (lit_two _ _ _ _)).mono ?_; rintro e w10 ⟨rfl, b10⟩; replace hb := (hb.alloc hb.size _).trans (b10.mono (hb.alloc hb.size _).size)))
  go_ret
  exact ⟨rfl, hb⟩
end Go.Proofs.Ytmdonhkdkapjpaa
