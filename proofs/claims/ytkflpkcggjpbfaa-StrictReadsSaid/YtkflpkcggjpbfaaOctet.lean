/- The program's Unrow, for every text and place, in every world. -/
import Derived.Test.YtkflpkcggjpbfaaOrow
import Derived.Deep.OwnRows
import Derived.RegionTactic
import Derived.BigRegion
import Derived.ChangeAlike
namespace Go.Proofs.Ytkflpkcggjpbfaa
open Go.RowKit

theorem prow_load {w : World} {g : Nat} {t : TypeId} {x y : Value} {fr : Nat × Nat} (h : w.heap[g]? = some (.cells #[x, y] t fr)) : (loadVar 107 ⟨g, 0, none⟩).run Try.prog w = .ok (.agg #[x, y]) w :=
  run_loadVar_row (P := Try.prog) w g t 107 #[x, y] fr _ h Try.underlying107 rfl (by kernel_rfl)
theorem unrow_cnt {s : List UInt8} {p x m : Int} (hw : wideW x) : unrowE s p x m = if cntE s p (min m 1000) = 0 then (match badAt s (p + 2) x (getV s p 2).toNat with | some i => getE s (p + 2 + i * x) x | none => 0) else cntE s p (min m 1000) := by
  unfold unrowE cntE
  by_cases h0 : m < 0
  · rw [if_neg (by omega), if_pos (show min m 1000 < 0 by omega), if_neg (by omega)]
  · rw [if_neg (show ¬ min m 1000 < 0 by omega)]
    by_cases hg : getE s p 2 = 0
    · obtain ⟨_, f0, f1, _⟩ := get_fine hg
      rw [if_pos hg, if_pos hg, if_pos ⟨hw, f0, by omega, by omega⟩]
      by_cases h1 : m < getV s p 2 ∨ 1000 < getV s p 2
      · rw [if_pos h1, if_pos (show min m 1000 < getV s p 2 by omega), if_neg (by omega)]
      · rw [if_neg h1, if_neg (show ¬ min m 1000 < getV s p 2 by omega), if_pos rfl]
        rfl
    · rw [if_neg hg, if_neg hg, if_neg hg]
      by_cases h2 : wideW x ∧ 0 ≤ p ∧ p ≤ s.length ∧ 0 ≤ m
      · rw [if_pos h2]
      · rw [if_neg h2]
        unfold getE
        rw [if_neg (fun h => h2 ⟨hw, h.2.1, h.2.2, by omega⟩)]
/-- The numbers that are read, as many as are read. -/
def readAt (s : List UInt8) (p x : Int) (k i : Nat) : Int := if i < k then getV s (p + 2 + i * x) x else 0
def rowCells (f : Nat → Int) (n : Nat) : Array Value := (intCells ((List.range n).map f)).toArray
theorem rowCells_at {f : Nat → Int} {n k : Nat} (h : k < n) : (rowCells f n)[k]? = some (.int .i64 (f k)) := by
  unfold rowCells
  rw [List.getElem?_toArray, intCells_at _ k (by simpa using h), num_map f n k h]
theorem rowCells_set {f f' : Nat → Int} {n k : Nat} (hk : ∀ i, i < n → i ≠ k → f i = f' i) : (rowCells f n).setIfInBounds k (.int .i64 (f' k)) = rowCells f' n := by
  unfold rowCells
  rw [List.setIfInBounds_toArray, intCells_set, range_set f f' n k hk]
theorem rowCells_made (f : Nat → Int) (n : Nat) (h : ∀ i, i < n → f i = 0) : madeCells #[Value.int .i64 0] n = rowCells f n := by
  refine Array.ext' ?_
  rw [toList_madeCells_one]
  unfold rowCells
  refine List.ext_getElem (by simp [intCells]) fun i h1 h2 => ?_
  have hi : i < n := by simpa using h1
  simp [intCells, h i hi]
/-- How things lie in the round: the row, the result's place, and what lay ahead. -/
structure Unrowing (w : World) (g n : Nat) (f : Nat → Int) (wr : World) : Prop where
  row : wr.heap[g]? = some (.cells (rowCells f n) 3 (0, 0))
  res : wr.heap[w.heap.size]? = some (.cells #[.slice none 0 0, .int .i64 0] 107 (0, 0))
  old : Below w.heap.size w wr
theorem Unrowing.step {w wr w' : World} {g n : Nat} {f : Nat → Int} (h : Unrowing w g n f wr) (hb : Below wr.heap.size wr w') : Unrowing w g n f w' :=
  ⟨old_obj hb h.row, old_obj hb h.res, h.old.trans (hb.mono h.old.size)⟩
theorem Unrowing.drew {w wr : World} {g n : Nat} {f : Nat → Int} (h : Unrowing w g n f wr) : Unrowing w g n f wr.drew :=
  ⟨h.row, h.res, drawn_below h.old 1⟩
theorem Unrowing.set {w wr : World} {g n k : Nat} {f f' : Nat → Int} {V : Int} (h : Unrowing w g n f wr) (hg : w.heap.size < g) (hk : ∀ i, i < n → i ≠ k → f i = f' i) (hV : V = f' k) : Unrowing w g n f' (wr.setCell ⟨g, k, none⟩ (.int .i64 V)) := by
  refine ⟨?_, ?_, h.old.setCell (p := ⟨g, k, none⟩) (Nat.le_of_lt hg) _⟩
  · rw [heap_setCell_same wr g k _ _ _ h.row, hV, rowCells_set hk]
  · rw [heap_setCell_other wr ⟨g, k, none⟩ _ _ (by simp; omega)]; exact h.res
theorem Unrowing.alloc {w wr : World} {g n : Nat} {f : Nat → Int} (h : Unrowing w g n f wr) (o : Obj) : Unrowing w g n f (wr.alloc o) :=
  h.step ((Below.refl _ _).alloc (Nat.le_refl _) _)

set_option maxHeartbeats 2000000 in
theorem ounrow_new (s : ByteArray) (hs : s.size ≤ 4611686018427387904) (p x m : Int) (hp0 : -9223372036854775808 ≤ p) (hp1 : p ≤ 9223372036854775807) (w : World) :
    Calls Try.prog 60 #[.string s, .int .i64 p, .int .i64 x, .int .i64 m] w fun e w' => ∃ a c, e = .returned (.tuple #[.agg #[.slice a (unrowL s.data.toList p x m).length c, .int .i64 (unrowT s.data.toList p x m)], .int .i64 (unrowE s.data.toList p x m)]) ∧ IntsNew w.heap.size w'.heap.size w' a (unrowL s.data.toList p x m) ∧ Below w.heap.size w w' := by
  have HW : Hid (∀ v, Calls Try.prog 47 #[.int .i64 x] v fun e w' => e = .returned (.bool (decide (wideW x))) ∧ v = w') := Lib.hid fun v => oiswidth_any x v
  have hz : s.data.toList.length = s.size := by simp
  have hbad : unrowE s.data.toList p x m ≠ 0 → unrowL s.data.toList p x m = [] ∧ unrowT s.data.toList p x m = 0 := fun h => by unfold unrowL unrowT; rw [if_neg h, if_neg h]; exact ⟨rfl, rfl⟩
  by_cases hw : wideW x
  · rw [decide_eq_true hw] at HW
    obtain ⟨x1, x8, _⟩ := wide_nat hw
    have huc := unrow_cnt (s := s.data.toList) (p := p) (m := m) hw
    obtain ⟨M, hM⟩ : ∃ M, min m 1000 = M := ⟨_, rfl⟩
    rw [hM] at huc
    have HC : Hid (∀ v, Calls Try.prog 66 #[.string s, .int .i64 p, .int .i64 M] v fun e w' => e = .returned (.tuple #[.agg #[.int .i64 (cntV s.data.toList p M), .int .i64 (cntT s.data.toList p M)], .int .i64 (cntE s.data.toList p M)]) ∧ Below v.heap.size v w') := Lib.hid fun v => ocount_any s hs p M hp0 hp1 v
    by_cases h0 : cntE s.data.toList p M = 0
    · rw [if_pos h0] at huc
      have hv : cntV s.data.toList p M = getV s.data.toList p 2 := by unfold cntV; rw [if_pos h0]
      have ht : cntT s.data.toList p M = p + 2 := by unfold cntT; rw [if_pos h0]
      have hgv : getE s.data.toList p 2 = 0 ∧ getV s.data.toList p 2 ≤ M := by
        unfold cntE at h0
        split at h0
        · omega
        · split at h0
          · rename_i h
            split at h0
            · omega
            · rename_i h'; exact ⟨h, by omega⟩
          · rename_i h; exact absurd h0 h
      obtain ⟨hg, hvM⟩ := hgv
      obtain ⟨b0, _, _, _⟩ := get_bound hg
      obtain ⟨_, f0, f1, _⟩ := get_fine hg
      rw [hz] at f1
      obtain ⟨n, hn⟩ : ∃ n : Nat, getV s.data.toList p 2 = n := ⟨(getV s.data.toList p 2).toNat, by omega⟩
      have hn2 : n ≤ 1000 := by omega
      rw [hv, ht, h0, hn] at HC
      rw [hn, Int.toNat_natCast] at huc
      have HX : Hid (∀ i : Nat, i < n → (∀ j : Nat, j < i → getE s.data.toList (p + 2 + j * x) x = 0) → getE s.data.toList (p + 2 + i * x) x ≠ 0 → unrowE s.data.toList p x m = getE s.data.toList (p + 2 + i * x) x ∧ unrowL s.data.toList p x m = [] ∧ unrowT s.data.toList p x m = 0) := Lib.hid fun i hi hj hne => by
        have e1 : unrowE s.data.toList p x m = getE s.data.toList (p + 2 + i * x) x := by rw [huc, bad_first hi hne hj]
        obtain ⟨hl, ht⟩ := hbad (by rw [e1]; exact hne)
        exact ⟨e1, hl, ht⟩
      have HY : Hid ((∀ j : Nat, j < n → getE s.data.toList (p + 2 + j * x) x = 0) → unrowE s.data.toList p x m = 0 ∧ unrowL s.data.toList p x m = (List.range n).map (fun (i : Nat) => getV s.data.toList (p + 2 + i * x) x) ∧ unrowT s.data.toList p x m = p + 2 + n * x) := Lib.hid fun hj => by
        have e1 : unrowE s.data.toList p x m = 0 := by rw [huc, bad_none hj]
        refine ⟨e1, ?_, ?_⟩
        · unfold unrowL; rw [if_pos e1, hn, Int.toNat_natCast]
        · unfold unrowT; rw [if_pos e1, hn]
      have HQ : Hid (∀ (t : Int) (v : World), -9223372036854775808 ≤ t → t ≤ 9223372036854775807 → Calls Try.prog 57 #[.string s, .int .i64 t, .int .i64 x] v fun e w' => e = .returned (.tuple #[.agg #[.int .i64 (getV s.data.toList t x), .int .i64 (getT s.data.toList t x)], .int .i64 (getE s.data.toList t x)]) ∧ Below v.heap.size v w') := Lib.hid fun t v h h' => oget_any s hs t x h h' v
      have HT : Hid (∀ t, getE s.data.toList t x = 0 → getT s.data.toList t x = t + x) := Lib.hid fun t h => by unfold getT; rw [if_pos h]
      have hmk := run_make_row' (P := Try.prog) 45 3 (.int .i64 0) 8 Try.underlying45 infoInt rfl .i64 .i64 n (by omega) (by omega)
      have HR0 : Hid (madeCells #[Value.int .i64 0] n = rowCells (readAt s.data.toList p x 0) n) := Lib.hid (rowCells_made _ n fun i _ => by unfold readAt; rw [if_neg (by omega)])
      have HM := Lib.hid hM
      clear hbad huc hz hg hv ht b0 hn h0 hvM hw hM
      go_enter Try.func60, Try.ntmps60
      go_upto_region 6 with (first
        | (go_at_call 47; refine (HW.out _).mono ?_; rintro e w1 ⟨rfl, rfl⟩)
        | (go_at_call 66; rw [HM.out]; refine (HC.out _).mono ?_; rintro e w2 ⟨rfl, b1⟩; obtain ⟨c0, c1, g0, g1, hb1, hg1⟩ := pair_two b1 (.cells #[.int .i64 n, .int .i64 (p + 2)] 98)))
      have hU0 : Unrowing w (w2.heap.size + 1) n (readAt s.data.toList p x 0) ((w2.alloc (.cells #[.int .i64 n, .int .i64 (p + 2)] 98)).alloc (.cells (madeCells #[Value.int .i64 0] n) 3)) := by
        have h1 : ((w2.alloc (.cells #[.int .i64 n, .int .i64 (p + 2)] 98)).alloc (.cells (madeCells #[Value.int .i64 0] n) 3)).heap[w2.heap.size + 1]? = some (.cells (madeCells #[Value.int .i64 0] n) 3 (0, 0)) := heap_alloc2_new _ _ _
        rw [HR0.out] at h1 ⊢
        exact ⟨h1, old_obj ((Below.refl _ _).alloc (Nat.le_refl _) _) hg1.out, hb1.out.alloc hb1.out.size _⟩
      have HU0 := Lib.hid hU0
      have HNW : Hid (w.heap.size < w2.heap.size + 1) := Lib.hid (by have := obj_lt hg1.out; simp at this; omega)
      clear hU0 c0 c1 g0 g1
      go_region
      go_wp2
      go_loopw [13, 40] (fun t' i' wr => ∃ k : Nat, i' = .int .i64 k ∧ t' = .int .i64 (p + 2 + k * x) ∧ k ≤ n ∧ Hid (Unrowing w (w2.heap.size + 1) n (readAt s.data.toList p x k) wr) ∧ Hid (∀ j : Nat, j < k → getE s.data.toList (p + 2 + j * x) x = 0)) (fun _ i _ => n - (intOf i).toNat)
      case atStart =>
        refine ⟨0, rfl, by simp, by omega, ?_, Lib.hid (fun j h => absurd h (by omega))⟩
        exact Lib.hid HU0.out.drew
      case round =>
        obtain ⟨k, rfl, rfl, hk, hU, hall⟩ := hrel
        by_cases hlt : k < n
        · have hkx : 0 ≤ (k : Int) * x ∧ (k : Int) * x ≤ 8000 := by
            have h9 := Int.mul_le_mul (show (k : Int) ≤ 1000 by omega) (show x ≤ 8 by omega) (by omega) (by omega)
            exact ⟨Int.mul_nonneg (by omega) (by omega), by omega⟩
          obtain ⟨T, hT⟩ : ∃ T, p + 2 + (k : Int) * x = T := ⟨_, rfl⟩
          have HQk := Lib.hid (HQ.out T wr (by omega) (by omega))
          have i1 : (k : Int) < (n : Int) := by omega
          by_cases he : getE s.data.toList T x = 0
          · have d6 : (getE s.data.toList T x != 0) = false := by rw [he]; rfl
            have hnx := HT.out T he
            have HA : Hid (∀ j : Nat, j < k + 1 → getE s.data.toList (p + 2 + j * x) x = 0) := Lib.hid fun j h => by
              rcases (by omega : j < k ∨ j = k) with g | g
              · exact hall.out j g
              · rw [g, hT]; exact he
            have HNX : Hid (T + x = p + 2 + ((k + 1 : Nat) : Int) * x) := Lib.hid (by rw [← hT, Int.natCast_add, Int.add_mul]; omega)
            have HVL : Hid (getV s.data.toList T x = readAt s.data.toList p x (k + 1) k) := Lib.hid (by unfold readAt; rw [if_pos (by omega), hT])
            have HKE : Hid (∀ i, i < n → i ≠ k → readAt s.data.toList p x k i = readAt s.data.toList p x (k + 1) i) := Lib.hid fun i _ hne => by
              unfold readAt
              by_cases h : i < k
              · rw [if_pos h, if_pos (by omega)]
              · rw [if_neg h, if_neg (by omega)]
            rw [hnx] at HQk
            have HTT := Lib.hid hT
            rw [hT]
            clear he hnx hkx hT
            generalize getE s.data.toList T x = E2 at *
            obtain ⟨V, hV⟩ : ∃ V, getV s.data.toList T x = V := ⟨_, rfl⟩
            rw [hV] at HQk HVL
            obtain ⟨f, hf⟩ : ∃ f, readAt s.data.toList p x k = f := ⟨_, rfl⟩
            obtain ⟨f', hf'⟩ : ∃ f', readAt s.data.toList p x (k + 1) = f' := ⟨_, rfl⟩
            rw [hf] at hU HKE
            rw [hf'] at HKE HVL
            have HF' := Lib.hid hf'
            clear hV hf hf'
            go_upto_region 13 with (go_at_call 57; refine HQk.out.mono ?_; rintro e w4 ⟨rfl, b4⟩; have hU4 := (hU.out.step b4).alloc (.cells #[.int .i64 V, .int .i64 (T + x)] 98); have HU4 := Lib.hid (hU.out.step b4); have hc4 := cell_of (j := k) hU4.row (rowCells_at hlt); have hf4 := frozen_of_row _ _ k _ _ hU4.row; have hgw := obj_lt (hU.out.step b4).row; clear hU4 b4)
            go_big_region
            clear hc4 hf4
            have HU5 := Lib.hid (((HU4.out.set (V := V) HNW.out HKE.out HVL.out).alloc (.cells #[.int .i64 V, .int .i64 (T + x)] 98)).drew)
            go_wp2
            go_roundw
            case rel => exact ⟨k + 1, by go_num, by rw [HNX.out], by omega, by rw [HF'.out]; exact HU5, HA⟩
            case measure => simp [intOf]; omega
          · obtain ⟨e1, e2, e3⟩ := HX.out k hlt hall.out (by rw [hT]; exact he)
            rw [hT] at e1
            have d6 : (getE s.data.toList T x != 0) = true := by rw [bne_iff_ne]; exact he
            have H1 := Lib.hid e1
            have H2 := Lib.hid e2
            have H3 := Lib.hid e3
            rw [hT]
            clear he e1 e2 e3 hkx hT
            generalize getV s.data.toList T x = V at *
            generalize getT s.data.toList T x = T2 at *
            generalize getE s.data.toList T x = E2 at *
            go_wp2_with (go_at_call 57; refine HQk.out.mono ?_; rintro e w4 ⟨rfl, b4⟩; have hU4 := (hU.out.step b4).alloc (.cells #[.int .i64 V, .int .i64 T2] 98); have HU4 := Lib.hid hU4; obtain ⟨c0, c1, g0, g1⟩ := two_cells hU4.res; clear hU4 b4)
            rw [H1.out, H2.out, H3.out]
            refine bodyPost_ret (results_row_slot rfl _ _ w.heap.size _ rfl (prow_load (two_stored HU4.out.res _ _))) rfl ?_
            exact ⟨none, 0, rfl, Or.inl rfl, two_below HU4.out.old (Nat.le_refl _) _ _⟩
        · obtain rfl : k = n := by omega
          obtain ⟨e1, e2, e3⟩ := HY.out hall.out
          have H1 := Lib.hid e1
          have H2 := Lib.hid e2
          have H3 := Lib.hid e3
          obtain ⟨c0, c1, g0, g1⟩ := two_cells hU.out.res
          clear e1 e2 e3
          go_wp2
          rw [H1.out, H2.out, H3.out]
          refine bodyPost_ret (results_row_slot rfl _ _ w.heap.size _ rfl (prow_load (two_stored hU.out.res _ _))) rfl ?_
          refine ⟨some ⟨w2.heap.size + 1, 0, none⟩, k, by simp, Or.inr ⟨w2.heap.size + 1, 0, rfl, Nat.le_of_lt HNW.out, ?_, fun j hj => ?_⟩, two_below hU.out.old (Nat.le_refl _) _ _⟩
          · have := obj_lt hU.out.row
            simpa using this
          · have hj' : j < k := by simpa using hj
            have hc := cell_of (j := j) hU.out.row (rowCells_at hj')
            rw [Nat.zero_add, num_map _ _ _ hj']
            have e9 : readAt s.data.toList p x k j = getV s.data.toList (p + 2 + j * x) x := by unfold readAt; rw [if_pos hj']
            rw [e9] at hc
            rw [World.cell?_setCell_other _ _ _ _ (fun e => by have := HNW.out; injection e; omega), World.cell?_setCell_other _ _ _ _ (fun e => by have := HNW.out; injection e; omega)]
            exact hc
    · rw [if_neg h0] at huc
      have hv : cntV s.data.toList p M = 0 := by unfold cntV; rw [if_neg h0]
      have ht : cntT s.data.toList p M = 0 := by unfold cntT; rw [if_neg h0]
      obtain ⟨hl, htt⟩ := hbad (by rw [huc]; exact h0)
      rw [hv, ht] at HC
      have hd : (cntE s.data.toList p M != 0) = true := by rw [bne_iff_ne]; exact h0
      have HM := Lib.hid hM
      rw [hl, htt, huc]
      clear hl htt hv ht hbad huc h0 hM
      generalize cntE s.data.toList p M = E at *
      go_enter Try.func60, Try.ntmps60
      go_wp2_with (first
        | (go_at_call 47; refine (HW.out _).mono ?_; rintro e w1 ⟨rfl, rfl⟩)
        | (go_at_call 66; rw [HM.out]; refine (HC.out _).mono ?_; rintro e w2 ⟨rfl, b1⟩; obtain ⟨c0, c1, g0, g1, hb1, hg1⟩ := pair_two b1 (.cells #[.int .i64 0, .int .i64 0] 98)))
      refine bodyPost_ret (results_row_slot rfl _ _ w.heap.size _ rfl (prow_load (two_stored hg1.out _ _))) rfl ?_
      exact ⟨none, 0, rfl, Or.inl rfl, two_below hb1.out (Nat.le_refl _) _ _⟩
  · have he : unrowE s.data.toList p x m = 2 := by unfold unrowE; rw [if_neg (fun h => hw h.1)]
    obtain ⟨hl, ht⟩ := hbad (by omega)
    rw [decide_eq_false hw] at HW
    rw [he, hl, ht]
    clear hbad he hl ht hz
    go_enter Try.func60, Try.ntmps60
    go_wp2_with (go_at_call 47; refine (HW.out _).mono ?_; rintro e w1 ⟨rfl, rfl⟩)
    refine bodyPost_ret (results_row_slot rfl _ _ w.heap.size _ rfl (prow_load (heap_alloc_new _ _))) rfl ?_
    exact ⟨none, 0, rfl, Or.inl rfl, (Below.refl _ w).alloc (Nat.le_refl _) _⟩
theorem ounrow_any (s : ByteArray) (hs : s.size ≤ 4611686018427387904) (p x m : Int) (hp0 : -9223372036854775808 ≤ p) (hp1 : p ≤ 9223372036854775807) (w : World) :
    Calls Try.prog 60 #[.string s, .int .i64 p, .int .i64 x, .int .i64 m] w fun e w' => ∃ a c, e = .returned (.tuple #[.agg #[.slice a (unrowL s.data.toList p x m).length c, .int .i64 (unrowT s.data.toList p x m)], .int .i64 (unrowE s.data.toList p x m)]) ∧ Ints w'.heap.size w' a (unrowL s.data.toList p x m) ∧ Below w.heap.size w w' :=
  (ounrow_new s hs p x m hp0 hp1 w).mono fun _ _ ⟨a, c, he, hi, hb⟩ => ⟨a, c, he, hi.ints, hb⟩
end Go.Proofs.Ytkflpkcggjpbfaa
