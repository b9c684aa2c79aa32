/- The document's own New, in every world. -/
import Derived.Test.YtocengdojdeiiaaRef8f
import Derived.Test.YtocengdojdeiiaaLate
import Derived.Deep.RegionHeld3
import Derived.Deep.AppendLies
namespace Go.Proofs.Ytocengdojdeiiaa
open Go.RowKit

def zeroDev : Value := .agg #[.slice none 0 0, .int .i64 0, .int .i64 0, .bool false]
theorem new_more (k : Nat) : secCells (List.replicate k sec0) ++ [.string zero64, .string zero64, .bool false] = secCells (List.replicate (k + 1) sec0) := by
  rw [List.replicate_succ', sec_more]; rfl

theorem own_block {w : World} {B : Nat} {e : TypeId} {s n j : Nat} {v : Value} {xs : List Value} (h : w.ownsRow B e s v n xs) (hj : v.ownBlock = some j) : B ≤ j ∧ j < w.heap.size := by
  rcases h.2 with ⟨h', _⟩ | ⟨g, cap, cur, h1, h2, h3, _⟩
  · rw [h'] at hj; simp [Value.ownBlock] at hj
  · rw [h1] at hj
    simp [Value.ownBlock] at hj
    subst hj
    exact ⟨h2, obj_lt h3⟩

set_option linter.unusedSimpArgs false in
set_option maxRecDepth 100000 in
set_option maxHeartbeats 2000000 in
theorem rnew_any (n : Int) (hn0 : 1 ≤ n) (hn1 : n ≤ 2000) (w : World) :
    Calls Try.prog 10 #[.int .i64 n] w fun e w' => ∃ a', e = .returned (.tuple #[.agg #[a', .int .i64 0, .int .i64 0, .bool false], .bool true]) ∧ RDev w.heap.size w' a' (Dv.new n.toNat) ∧ Below w.heap.size w w' := by
  obtain ⟨m, rfl⟩ : ∃ m : Nat, n = m := ⟨n.toNat, by omega⟩
  obtain ⟨i0, hi, hz0, hz1, hz2⟩ := info_parts infoCell
  have d1 : decide ((m : Int) < 1) = false := decide_eq_false (by omega)
  have d2 : decide ((2000 : Int) < (m : Int)) = false := decide_eq_false (by omega)
  go_enter Try.func10, Try.ntmps10
  go_wp2
  go_loopw [5] (fun i' wr => ∃ (k : Nat) (a : Option Addr) (c : Nat), i' = .int .i64 k ∧ k ≤ m ∧ Hid (wr.heap[w.heap.size + 1]? = some (.cells #[.slice a k c, .int .i64 0, .int .i64 0, .bool false] 32 (0, 0))) ∧ Hid (wr.heap[w.heap.size]? = some (.cells #[.slice none 0 0, .int .i64 0, .int .i64 0, .bool false] 32 (0, 0))) ∧ Hid (wr.ownsRow (w.heap.size + 2) 69 3 (.slice a k c) k (secCells (List.replicate k sec0))) ∧ Hid (Below w.heap.size w wr)) (fun i _ => m - (intOf i).toNat)
  case atStart => exact ⟨0, none, 0, rfl, by omega, Lib.hid (heap_alloc2_new _ _ _), Lib.hid (heap_alloc2_old _ _ _), Lib.hid (World.ownsRow_nil _ _ _ _), Lib.hid (((Below.refl _ w).alloc (Nat.le_refl _) _).alloc (by simp) _)⟩
  case round =>
    obtain ⟨k, a, c, rfl, hk, hx, hr, ho, hb⟩ := hrel
    obtain ⟨c0, c1, c2, c3, f0, f1, f2, f3⟩ := four_cells8 hx.out
    by_cases hlt : k < m
    · have i1 : (k : Int) < (m : Int) := by omega
      have hlw := obj_lt hx.out
      go_upto_region 7 with fail
      refine wp_region_late (E := [6, 8]) (S := (fun v => v.cell? ⟨w.heap.size + 1, 0, none⟩ = some (.slice a k c))) (by kernel_rfl) ?_
      have hHeld : wr.drew.cell? ⟨w.heap.size + 1, 0, none⟩ = some (.slice a k c) := c0
      refine wpAnyK_free 18 (i := 0) (v := .pointer (some ⟨w.heap.size + 1, 0, none⟩)) rfl rfl (by kernel_rfl) (by kernel_rfl) (by kernel_rfl) (by kernel_rfl) (fun _ _ _ h => h) (by rfl) ?_ (fun _ => hHeld) ?_
      · intro w; go_simp
      try simp only [Act.put, List.setIfInBounds_toArray, List.set_cons_zero, List.set_cons_succ]
      refine wpAnyK_take [6, 8] 19 (i := 1) (v := .slice a k c) rfl rfl (by kernel_rfl) (by kernel_rfl) (by kernel_rfl) (by kernel_rfl) (by kernel_rfl) (by kernel_rfl) (by kernel_rfl) (by kernel_rfl) (fun _ _ _ h => h) (by rfl) ?_ hHeld ?_
      · intro w hSw; (try dsimp only at hSw); go_simp
      try simp only [Act.put, List.setIfInBounds_toArray, List.set_cons_zero, List.set_cons_succ]
      refine wpAnyK_step (i := 2) (by kernel_rfl) rfl (fun K hK => ?_)
      go_simp
      refine (rempty_any wr.drew).mono ?_
      rintro e w1 ⟨rfl, b1⟩
      have hlww1 : w.heap.size + 1 < w1.heap.size := Nat.lt_of_lt_of_le hlw b1.size
      replace hHeld := (b1.cell (p := ⟨w.heap.size + 1, 0, none⟩) hlw).trans hHeld
      refine hK.out _ _ (fun _ => hHeld) ?_
      clear hK K
      try simp only [Act.put, List.setIfInBounds_toArray, List.set_cons_zero, List.set_cons_succ]
      refine wpAnyK_step (i := 3) (by kernel_rfl) rfl (fun K hK => ?_)
      go_simp
      refine (rempty_any w1).mono ?_
      rintro e w2 ⟨rfl, b2⟩
      have hlww2 : w.heap.size + 1 < w2.heap.size := Nat.lt_of_lt_of_le hlww1 b2.size
      replace hHeld := (b2.cell (p := ⟨w.heap.size + 1, 0, none⟩) hlww1).trans hHeld
      refine hK.out _ _ (fun _ => hHeld) ?_
      clear hK K
      try simp only [Act.put, List.setIfInBounds_toArray, List.set_cons_zero, List.set_cons_succ]
      refine wpAnyK_step (i := 4) (by kernel_rfl) rfl (fun K hK => ?_)
      go_simp
      refine hK.out _ _ (fun _ => hHeld) ?_
      clear hK K
      try simp only [Act.put, List.setIfInBounds_toArray, List.set_cons_zero, List.set_cons_succ]
      refine wpAnyK_step (i := 5) (by kernel_rfl) rfl (fun K hK => ?_)
      go_simp
      refine hK.out _ _ (fun _ => ((Below.refl _ w2).alloc (Nat.le_refl _) _).cell (p := ⟨w.heap.size + 1, 0, none⟩) hlww2 |>.trans hHeld) ?_
      clear hK K
      try simp only [Act.put, List.setIfInBounds_toArray, List.set_cons_zero, List.set_cons_succ]
      have hbw2 : Below wr.heap.size wr w2 := (Below.refl _ wr).drew.trans (b1.trans (b2.mono b1.size))
      have ho2 := (own_step ho.out hbw2).alloc (.cells #[.string zero64, .string zero64, .bool false] 69)
      have hnews := World.news_of_block (heap_alloc_new w2 (.cells #[.string zero64, .string zero64, .bool false] 69))
      refine wpAnyK_step (i := 6) (by kernel_rfl) rfl (fun K hK => ?_)
      refine step_append_lies _ (by rfl) _ _ 30 (by rfl) (w.heap.size + 2) 69 i0 (.agg #[.string ⟨#[]⟩, .string ⟨#[]⟩, .bool false]) 3 40 Try.underlying30 hi hz0 hz1 hz2 rfl (by decide) (.slice a k c) k (secCells (List.replicate k sec0)) (by rfl) ho2 ⟨w2.heap.size, 0, none⟩ 1 1 [.string zero64, .string zero64, .bool false] (by rfl) rfl hnews (by intro u hu; simp at hu; rcases hu with rfl | rfl | rfl <;> rfl) (by omega) (by unfold maxLen; omega) (by omega) (by simp; omega) (w2.heap.size + 1) (by simp) ?_
      intro g cap w4 hown4 hg4 hor hgl
      refine hK.out _ _ (kept_none 6 rfl rfl) ?_
      clear hK K
      try simp only [Act.put, List.setIfInBounds_toArray, List.set_cons_zero, List.set_cons_succ]
      refine wpAnyK_step (i := 7) (by kernel_rfl) rfl (fun K hK => ?_)
      go_simp
      refine hK.out _ _ (kept_none 6 rfl rfl) ?_
      clear hK K
      try simp only [Act.put, List.setIfInBounds_toArray, List.set_cons_zero]
      have hbw3 : Below wr.heap.size wr (w2.alloc (.cells #[.string zero64, .string zero64, .bool false] 69)) := hbw2.alloc hbw2.size _
      have hx4 := grown_ne hg4 (old_obj hbw3 hx.out) (fun e => by have := own_block ho.out e; omega)
      have hr4 := grown_ne hg4 (old_obj hbw3 hr.out) (fun e => by have := own_block ho.out e; omega)
      have hgn : g ≠ w.heap.size + 1 := by
        rcases hor with e | e
        · have := own_block ho.out e; omega
        · omega
      have hb4 : Below w.heap.size w w4 := (hb.out.trans (hbw3.mono hb.out.size)).grown hg4 (by have := hb.out.size; have := hbw3.size; omega) (fun k hk => by have := own_block ho.out hk; omega)
      have HX5 := Lib.hid (heap_setCell_same w4 (w.heap.size + 1) 0 _ _ (.slice (some ⟨g, 0, none⟩) (k + 1) cap) hx4)
      have HR5 := Lib.hid ((heap_setCell_other w4 ⟨w.heap.size + 1, 0, none⟩ w.heap.size (.slice (some ⟨g, 0, none⟩) (k + 1) cap) (by simp)).trans hr4)
      have HO5 := Lib.hid (own_other hown4 hgn 0 (.slice (some ⟨g, 0, none⟩) (k + 1) cap))
      have HB5 := Lib.hid (hb4.setCell (p := ⟨w.heap.size + 1, 0, none⟩) (by simp) (.slice (some ⟨g, 0, none⟩) (k + 1) cap))
      rw [new_more] at HO5
      obtain ⟨e0, e1, e2, e3, k0, k1, k2, k3⟩ := four_cells8 hx4
      clear hx hr ho hb c0 c1 c2 c3 f0 f1 f2 f3 hHeld ho2 hnews hown4 hg4 hor hx4 hr4 hb4 hbw3 hbw2 b1 b2 e1 e2 e3 k1 k2 k3
      refine wpAnyK_step (i := 8) (by kernel_rfl) rfl (fun K hK => ?_)
      go_simp
      refine hK.out _ _ (kept_none 6 rfl rfl) ?_
      clear hK K e0 k0
      refine wpAnyK_done (by kernel_rfl) ?_ _
      go_wp2
      go_roundw
      case rel => exact ⟨k + 1, some ⟨g, 0, none⟩, cap, by go_num, by omega, HX5, HR5, HO5, HB5⟩
      case measure => simp [intOf]; omega
    · obtain rfl : k = m := by omega
      obtain ⟨e0, e1, e2, e3, k0, k1, k2, k3⟩ := four_cells8 hr.out
      have hld := dev_load hx.out
      have HX := Lib.hid (four_stored8 hr.out (.slice a k c) (.int .i64 0) (.int .i64 0) (.bool false))
      have HB := Lib.hid (four_below8 hb.out (Nat.le_refl _) (.slice a k c) (.int .i64 0) (.int .i64 0) (.bool false))
      go_wp2
      refine bodyPost_ret (results_row_slot rfl _ _ w.heap.size _ rfl (dev_load HX.out)) rfl ?_
      refine ⟨_, rfl, ⟨?_⟩, HB.out⟩
      have ho1 := own_mono ho.out (show w.heap.size ≤ w.heap.size + 2 by omega)
      have hl : (Dv.new ((k : Int).toNat)).cells.length = k := by simp [Dv.new]
      rw [hl]
      have hc : (Dv.new ((k : Int).toNat)).cells = List.replicate k sec0 := by simp [Dv.new]
      rw [hc]
      have hkp : 0 < k := by omega
      obtain ⟨g, cp, he⟩ := Joins.ownsRow_form ho.out hkp
      have hgb := own_block ho.out (j := g) (by rw [he]; rfl)
      rw [he] at ho1 ⊢
      exact own_stores ho1 (by omega) _ _ _ _

theorem rnew_bad (n : Int) (hn : ¬ (1 ≤ n ∧ n ≤ 2000)) (w : World) :
    Calls Try.prog 10 #[.int .i64 n] w fun e w' => e = .returned (.tuple #[zeroDev, .bool false]) ∧ Below w.heap.size w w' := by
  by_cases h1 : n < 1
  · have d1 : decide (n < 1) = true := decide_eq_true h1
    clear hn h1
    go_enter Try.func10, Try.ntmps10
    go_wp2
    refine bodyPost_ret (results_row_slot rfl _ _ w.heap.size _ rfl (dev_load (heap_alloc_new _ _))) rfl ?_
    exact ⟨rfl, (Below.refl _ w).alloc (Nat.le_refl _) _⟩
  · have d1 : decide (n < 1) = false := decide_eq_false h1
    have d2 : decide (2000 < n) = true := decide_eq_true (by omega)
    clear hn h1
    go_enter Try.func10, Try.ntmps10
    go_wp2
    refine bodyPost_ret (results_row_slot rfl _ _ w.heap.size _ rfl (dev_load (heap_alloc_new _ _))) rfl ?_
    exact ⟨rfl, (Below.refl _ w).alloc (Nat.le_refl _) _⟩
end Go.Proofs.Ytocengdojdeiiaa
