/- The law's fixed probes for amounts: in every world each of them is answered as the document says. -/
import Derived.Test.YthnigakljpcbpaaCents
namespace Go.Proofs.Ythnigakljpcbpaa
open Go.RowKit

theorem ints_two (w : World) (x y : Int) : Ints (w.alloc (.cells #[.int .i64 x, .int .i64 y] 3)).heap.size (w.alloc (.cells #[.int .i64 x, .int .i64 y] 3)) (some ⟨w.heap.size, 0, none⟩) [x, y] := by
  refine Or.inr ⟨w.heap.size, 0, rfl, by simp, fun j hj => ?_⟩
  have hj : j < 2 := hj
  have hnew := heap_alloc_new w (.cells #[.int .i64 x, .int .i64 y] 3)
  rcases (by omega : j = 0 ∨ j = 1) with rfl | rfl
  · exact (cell_of_row _ _ _ _ _ _ hnew).trans rfl
  · exact (cell_of_row _ _ _ _ _ _ hnew).trans rfl
theorem ints_three (w : World) (x y z : Int) : Ints (w.alloc (.cells #[.int .i64 x, .int .i64 y, .int .i64 z] 3)).heap.size (w.alloc (.cells #[.int .i64 x, .int .i64 y, .int .i64 z] 3)) (some ⟨w.heap.size, 0, none⟩) [x, y, z] := by
  refine Or.inr ⟨w.heap.size, 0, rfl, by simp, fun j hj => ?_⟩
  have hj : j < 3 := hj
  have hnew := heap_alloc_new w (.cells #[.int .i64 x, .int .i64 y, .int .i64 z] 3)
  rcases (by omega : j = 0 ∨ j = 1 ∨ j = 2) with rfl | rfl | rfl
  · exact (cell_of_row _ _ _ _ _ _ hnew).trans rfl
  · exact (cell_of_row _ _ _ _ _ _ hnew).trans rfl
  · exact (cell_of_row _ _ _ _ _ _ hnew).trans rfl

set_option maxRecDepth 100000 in
set_option maxHeartbeats 2000000 in
theorem awake_any (w : World) : Calls Try.prog 7 #[] w fun e w' => e = .returned (.bool true) ∧ Below w.heap.size w w' := by
  have f1 : addV [1, 2, -5] = -2 := by decide +kernel
  have f2 : addE [1, 2, -5] = 0 := by decide +kernel
  have f3 : addE [1000000000000, 1] = 8 := by decide +kernel
  have f4 : halfV 5 1 2 = 3 := by decide +kernel
  have f5 : halfE 5 1 2 = 0 := by decide +kernel
  have f6 : floorV 1000000000000 1000000 1000000 = 1000000000000 := by decide +kernel
  have f7 : floorE 1000000000000 1000000 1000000 = 0 := by decide +kernel
  have f8 : restV 7 3 4 = 1 := by decide +kernel
  have f9 : floorE 7 3 4 = 0 := by decide +kernel
  have f10 : mulE 1000000000000 2 = 8 := by decide +kernel
  have f11 : subV 3 5 = -2 := by decide +kernel
  have f12 : subE 3 5 = 0 := by decide +kernel
  have f13 : floorE 1 1 0 = 2 := by decide +kernel
  have f14 : inB 5 = true := by decide +kernel
  have hb := Below.refl w.heap.size w
  go_enter Try.func7, Try.ntmps7
  go_wp2_with fail
  refine (cadd_any _ _ [1, 2, -5] _ (by decide) (ints_three _ _ _ _)).mono ?_
  rintro e w1 ⟨rfl, b1⟩
  replace hb := (hb.alloc hb.size _).trans (b1.mono (hb.alloc hb.size _).size)
  go_wp2_with fail
  refine (cadd_any _ _ [1000000000000, 1] _ (by decide) (ints_two _ _ _)).mono ?_
  rintro e w2 ⟨rfl, b2⟩
  replace hb := (hb.alloc hb.size _).trans (b2.mono (hb.alloc hb.size _).size)
  go_wp2_with (first
    | (go_at_call 18; refine (chalf_any _ _ _ _).mono ?_; rintro e w3 ⟨rfl, b3⟩; replace hb := hb.trans (b3.mono hb.size))
    | (go_at_call 16; refine (cfloor_any _ _ _ _).mono ?_; rintro e w3 ⟨rfl, b3⟩; replace hb := hb.trans (b3.mono hb.size))
    | (go_at_call 20; refine (crest_any _ _ _ _).mono ?_; rintro e w3 ⟨rfl, b3⟩; replace hb := hb.trans (b3.mono hb.size))
    | (go_at_call 12; refine (ctimes_any _ _ _).mono ?_; rintro e w3 ⟨rfl, b3⟩; replace hb := hb.trans (b3.mono hb.size))
    | (go_at_call 10; refine (csub_any _ _ _).mono ?_; rintro e w3 ⟨rfl, b3⟩; replace hb := hb.trans (b3.mono hb.size))
    | (go_at_call 14; refine (cin_any _ _).mono ?_; rintro e w3 ⟨rfl, rfl⟩))
  go_ret
  exact ⟨rfl, hb⟩
end Go.Proofs.Ythnigakljpcbpaa
