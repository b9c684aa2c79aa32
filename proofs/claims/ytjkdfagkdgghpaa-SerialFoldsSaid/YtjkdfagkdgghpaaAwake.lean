/- The law's fixed probes: in every world each of them is answered as the document says. -/
import Derived.Test.YtjkdfagkdgghpaaFindb
namespace Go.Proofs.Ytjkdfagkdgghpaa
open Go.RowKit

theorem texts_two (w : World) (x y : ByteArray) : Texts (w.alloc (.cells #[.string x, .string y] 9)).heap.size (w.alloc (.cells #[.string x, .string y] 9)) (some ⟨w.heap.size, 0, none⟩) [x, y] := by
  refine Or.inr ⟨w.heap.size, 0, rfl, by simp, fun j hj => ?_⟩
  have hj : j < 2 := hj
  have hnew := heap_alloc_new w (.cells #[.string x, .string y] 9)
  rcases (by omega : j = 0 ∨ j = 1) with rfl | rfl
  · exact (cell_of_row _ _ _ _ _ _ hnew).trans rfl
  · exact (cell_of_row _ _ _ _ _ _ hnew).trans rfl

set_option maxRecDepth 100000 in
set_option maxHeartbeats 2000000 in
theorem awake_any (w : World) : Calls Try.prog 12 #[] w fun e w' => e = .returned (.bool true) ∧ Below w.heap.size w w' := by
  have f1 : foldL [97, 98, 45, 49, 50] = [65, 66, 45, 49, 50] := by decide +kernel
  have f2 : foldE [97, 98, 45, 49, 50] = 0 := by decide +kernel
  have f3 : foldL [97, 45, 45, 98] = [] := by decide +kernel
  have f4 : foldE [97, 45, 45, 98] = 9 := by decide +kernel
  have f5 : markR [65] = 73 := by decide +kernel
  have f6 : checkOf [65] = 0 := by decide +kernel
  have f7 : findI [⟨#[65]⟩, ⟨#[67]⟩] ⟨#[66]⟩ = 1 := by decide +kernel
  have f8 : findB [⟨#[65]⟩, ⟨#[67]⟩] ⟨#[66]⟩ = false := by decide +kernel
  have f9 : rowOf [⟨#[65]⟩, ⟨#[65]⟩] = 32 := by decide +kernel
  have f10 : checkOf [97] = 9 := by decide +kernel
  have f11 : classOf 122 = 1 := by decide +kernel
  have f12 : classOf 45 = 3 := by decide +kernel
  have f13 : valueOf 90 = 35 := by decide +kernel
  have f14 : valueOf 42 = 36 := by decide +kernel
  have hb := Below.refl w.heap.size w
  go_enter Try.func12, Try.ntmps12
  go_wp2_with (first
    | (go_at_call 13; refine (fold_any _ _).mono ?_; rintro e w1 ⟨rfl, b1⟩; replace hb := hb.trans (b1.mono hb.size))
    | (go_at_call 15; refine (mark_any _ _).mono ?_; rintro e w1 ⟨rfl, b1⟩; replace hb := hb.trans (b1.mono hb.size))
    | (go_at_call 20; refine (find_any _ _ [⟨#[65]⟩, ⟨#[67]⟩] _ _ (by decide) (texts_two _ _ _)).mono ?_; rintro e w1 ⟨rfl, b1⟩; replace hb := (hb.alloc hb.size _).trans (b1.mono (hb.alloc hb.size _).size))
    | (go_at_call 22; refine (row_any _ _ [⟨#[65]⟩, ⟨#[65]⟩] _ (by decide) (texts_two _ _ _)).mono ?_; rintro e w1 ⟨rfl, b1⟩; replace hb := (hb.alloc hb.size _).trans (b1.mono (hb.alloc hb.size _).size))
    | (go_at_call 8; refine (class_any _ _).mono ?_; rintro e w1 ⟨rfl, rfl⟩)
    | (go_at_call 10; refine (value_any _ rfl _).mono ?_; rintro e w1 ⟨rfl, rfl⟩)
    | (go_at_call 17; refine (check_any _ _).mono ?_; rintro e w1 ⟨rfl, b1⟩; replace hb := hb.trans (b1.mono hb.size)))
  go_ret
  exact ⟨rfl, hb⟩
end Go.Proofs.Ytjkdfagkdgghpaa
