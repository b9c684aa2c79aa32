/- Whether two rows of numbers are the same, for every row of numbers and in every world. -/
import Derived.Test.YtifihejogbcbgaaInts
import Derived.Deep.QuietTactic
import Derived.BigQuiet
import Derived.Deep.CutBlock
import Derived.Lib.SmallJoins
import Derived.Maps.AppendAt
import Derived.OwnWalk
import Derived.OneCell
import Derived.Test.YtifihejogbcbgaaProg
import Derived.WalkKit
import Derived.Below
import Derived.Laws.ResultCell
import Derived.Laws.Rows
import Derived.Lib.Hide
namespace Go.Proofs.Ytifihejogbcbgaa
open Go.RowKit

theorem drawn_below {B : Nat} {a w : World} (h : Below B a w) (n : Nat) : Below B a (w.drewN n) := ⟨h.os, h.tape, h.output, h.size, h.block⟩
theorem same_apart (a b : Option Addr) (cap cap' : Nat) (xs ys : List Int) (w : World) (hl : xs.length ≠ ys.length) :
    Calls Try.prog 13 #[.slice a xs.length cap, .slice b ys.length cap'] w fun e w' => e = .returned (.bool (decide (xs = ys))) ∧ Below w.heap.size w w' := by
  have He : Hid (decide (xs = ys) = false) := Lib.hid (decide_eq_false fun h => hl (by rw [h]))
  have hd : ((xs.length : Int) != (ys.length : Int)) = true := by rw [bne_iff_ne]; omega
  clear hl
  go_enter Try.func13, Try.ntmps13
  go_wp2
  go_ret
  exact ⟨by rw [He.out]; rfl, Below.refl _ _⟩
theorem same_none (a b : Option Addr) (cap cap' : Nat) (w : World) :
    Calls Try.prog 13 #[.slice a 0 cap, .slice b 0 cap'] w fun e w' => e = .returned (.bool true) ∧ Below w.heap.size w w' := by
  go_enter Try.func13, Try.ntmps13
  go_wp2
  go_loop [5] (fun i => i = .int .i64 0) (fun _ => 0)
  case atStart => rfl
  case round =>
    obtain rfl := hrel
    go_wp2
    go_ret
    exact ⟨rfl, Below.refl _ _⟩
set_option maxHeartbeats 1000000 in
theorem same_some (b off b' off' cap cap' : Nat) (xs ys : List Int) (w : World) (hn : xs.length ≤ 4611686018427387904) (hl : xs.length = ys.length)
    (hc : ∀ j, j < xs.length → w.cell? ⟨b, off + j, none⟩ = some (.int .i64 (numAt xs j))) (hc' : ∀ j, j < ys.length → w.cell? ⟨b', off' + j, none⟩ = some (.int .i64 (numAt ys j))) :
    Calls Try.prog 13 #[.slice (some ⟨b, off, none⟩) xs.length cap, .slice (some ⟨b', off', none⟩) ys.length cap'] w fun e w' => e = .returned (.bool (decide (xs = ys))) ∧ Below w.heap.size w w' := by
  have HC := Lib.hid hc
  have HC' := Lib.hid hc'
  have hd : ((xs.length : Int) != (ys.length : Int)) = false := by rw [hl]; simp
  clear hc hc'
  go_enter Try.func13, Try.ntmps13
  go_wp2
  go_loopw [5] (fun i wr => ∃ k m : Nat, i = .int .i64 k ∧ wr = w.drewN m ∧ k ≤ xs.length ∧ Hid (∀ j, j < k → numAt xs j = numAt ys j)) (fun i _ => xs.length - (intOf i).toNat)
  case atStart => exact ⟨0, 0, rfl, rfl, by omega, Lib.hid (fun j h => absurd h (by omega))⟩
  case round =>
    obtain ⟨k, m, rfl, rfl, hk, hs⟩ := hrel
    by_cases hlt : k < xs.length
    · have hx := HC.out k hlt
      have hy := HC'.out k (by omega)
      have i1 : (k : Int) < (xs.length : Int) := by omega
      have i2 : (k : Int) < (ys.length : Int) := by omega
      have i3 : (0 : Int) ≤ (k : Int) := by omega
      by_cases he : numAt xs k = numAt ys k
      · have hd2 : (numAt xs k != numAt ys k) = false := by rw [he]; simp
        have Hn : Hid (∀ j, j < k + 1 → numAt xs j = numAt ys j) := Lib.hid (fun j h => by
          rcases (by omega : j < k ∨ j = k) with h1 | h1
          · exact hs.out j h1
          · rw [h1]; exact he)
        clear he
        go_upto_region 6 with fail
        go_quiet (fail)
        go_wp2
        go_roundw
        case rel => exact ⟨k + 1, _, by go_num, rfl, by omega, Hn⟩
        case measure => simp [intOf]; omega
      · have hd2 : (numAt xs k != numAt ys k) = true := by rw [bne_iff_ne]; exact he
        have He : Hid (decide (xs = ys) = false) := Lib.hid (decide_eq_false fun h => he (by rw [h]))
        clear he
        go_upto_region 6 with fail
        go_quiet (fail)
        go_wp2
        go_ret
        exact ⟨by rw [He.out]; rfl, drawn_below (drawn_below (Below.refl _ _) _) _⟩
    · have He : Hid (decide (xs = ys) = true) := Lib.hid (decide_eq_true (num_ext hl fun i hi => hs.out i (by omega)))
      obtain rfl : k = xs.length := by omega
      go_wp2
      go_ret
      exact ⟨by rw [He.out]; rfl, drawn_below (Below.refl _ _) _⟩
theorem same_any (a b : Option Addr) (cap cap' : Nat) (xs ys : List Int) (w : World) (hn : xs.length ≤ 4611686018427387904) (hx : Ints w.heap.size w a xs) (hy : Ints w.heap.size w b ys) :
    Calls Try.prog 13 #[.slice a xs.length cap, .slice b ys.length cap'] w fun e w' => e = .returned (.bool (decide (xs = ys))) ∧ Below w.heap.size w w' := by
  by_cases hl : xs.length = ys.length
  · rcases hx with rfl | ⟨b1, o1, rfl, _, hc⟩
    · have : ys = [] := List.length_eq_zero_iff.1 hl.symm
      subst this
      exact same_none a b cap cap' w
    · rcases hy with rfl | ⟨b2, o2, rfl, _, hc'⟩
      · have : xs = [] := List.length_eq_zero_iff.1 hl
        subst this
        exact same_none _ b cap cap' w
      · exact same_some b1 o1 b2 o2 cap cap' xs ys w hn hl hc hc'
  · exact same_apart a b cap cap' xs ys w hl

/-! The document's Whole. -/
end Go.Proofs.Ytifihejogbcbgaa
namespace Go.Proofs.Ytifihejogbcbgaa
open Go.RowKit

theorem infoInt : (Try.prog.info? 3).map (fun i => (i.zero, i.size, i.bytes)) = some (some (.int .i64 0), 1, 8) := by kernel_rfl
def intCells (xs : List Int) : List Value := xs.map fun x => .int .i64 x
theorem intCells_at (l : List Int) (j : Nat) (hj : j < l.length) : (intCells l)[j]? = some (.int .i64 (numAt l j)) := by
  unfold intCells numAt
  rw [List.getElem?_map, List.getElem?_eq_getElem hj, List.getD_eq_getElem?_getD, List.getElem?_eq_getElem hj]
  rfl
theorem intCells_more (l : List Int) (x : Int) : intCells l ++ [.int .i64 x] = intCells (l ++ [x]) := by unfold intCells; simp
/-- Two slices that don't share a row. -/
def Apart (u v : Value) : Prop := u.ownBlock = none ∨ v.ownBlock = none ∨ u.ownBlock ≠ v.ownBlock
theorem Apart.symm {u v : Value} (h : Apart u v) : Apart v u := by
  rcases h with h | h | h
  · exact Or.inr (Or.inl h)
  · exact Or.inl h
  · exact Or.inr (Or.inr fun e => h e.symm)
/-- Appending one number to a row of the call's own, while another one lies beside it. -/
theorem append_beside {ops : Array Oper} {rest : List Oper} {o : Oper} {a : Act} {Q : Exit → Act → World → Prop} {w : World} (hgd : o.guard = none) (s x : Operand)
    (ho : o.op = .call { callee := .builtin .append, args := #[s, x], argTypes := #[22, 22] })
    (B k m : Nat) (v u : Value) (xs ys : List Value) (hs : a.eval s = v) (hown : w.ownsRow B 3 1 v k xs) (hoth : w.ownsRow B 3 1 u m ys) (hap : Apart v u) (x0 : Int)
    (hx : a.eval x = .slice (some ⟨w.heap.size, 0, none⟩) 1 1) (hk : (k + 1) * 8 ≤ 140737488355328) (hB : B ≤ w.heap.size)
    (h : ∀ v' w', w'.ownsRow B 3 1 v' (k + 1) (xs ++ [.int .i64 x0]) → w'.ownsRow B 3 1 u m ys → Apart v' u → (w.alloc (.cells #[.int .i64 x0] 3)).grownBy w' v.ownBlock → wpList Try.prog ops Q rest (a.put o.dst v') w') :
    wpList Try.prog ops Q (o :: rest) a (w.alloc (.cells #[.int .i64 x0] 3)) := by
  obtain ⟨i0, hi, hz0, hz1, hz2⟩ := info_parts infoInt
  refine wpList_append_own_at _ hgd s x 22 ho B 3 i0 (.int .i64 0) 1 8 Try.underlying22 hi hz0 hz1 hz2 rfl (by decide) v k xs hs (hown.alloc _) ⟨w.heap.size, 0, none⟩ 1 1 [.int .i64 x0] hx rfl (cell_one_new _ _ _) ?_ (by unfold maxLen; omega) (by omega) (by have := World.size_alloc w (.cells #[.int .i64 x0] 3); omega) ?_
  · intro y hy; simp at hy; subst hy; rfl
  · intro v' w' h1 h2 _ h4
    refine h v' w' h1 ((hoth.alloc _).kept h2 ?_) ?_ h2
    · rcases hap with h5 | h5 | h5
      · cases hu : u.ownBlock with
        | none => exact Or.inl rfl
        | some g => exact Or.inr (by rw [h5]; simp)
      · exact Or.inl h5
      · exact Or.inr fun e => h5 e.symm
    · rcases h4 with h4 | h4
      · unfold Apart; rw [h4]; exact hap
      · refine Or.inr ?_
        cases hu : u.ownBlock with
        | none => exact Or.inl rfl
        | some g =>
          have := (hoth.lt g hu).2
          refine Or.inr ?_
          rw [h4]
          intro e
          have := Option.some.inj e
          have h6 := World.size_alloc w (.cells #[.int .i64 x0] 3)
          omega
/-- Appending one number to a row of the call's own: the literal of one number is the newest block. -/
theorem append_int {ops : Array Oper} {rest : List Oper} {o : Oper} {a : Act} {Q : Exit → Act → World → Prop} {w : World} (hgd : o.guard = none) (s x : Operand)
    (ho : o.op = .call { callee := .builtin .append, args := #[s, x], argTypes := #[22, 22] })
    (B k : Nat) (v : Value) (xs : List Value) (hs : a.eval s = v) (hown : w.ownsRow B 3 1 v k xs) (x0 : Int)
    (hx : a.eval x = .slice (some ⟨w.heap.size, 0, none⟩) 1 1) (hk : (k + 1) * 8 ≤ 140737488355328) (hB : B ≤ w.heap.size)
    (h : ∀ v' w', w'.ownsRow B 3 1 v' (k + 1) (xs ++ [.int .i64 x0]) → (w.alloc (.cells #[.int .i64 x0] 3)).grownBy w' v.ownBlock → wpList Try.prog ops Q rest (a.put o.dst v') w') :
    wpList Try.prog ops Q (o :: rest) a (w.alloc (.cells #[.int .i64 x0] 3)) := by
  obtain ⟨i0, hi, hz0, hz1, hz2⟩ := info_parts infoInt
  refine wpList_append_own _ hgd s x 22 ho B 3 i0 (.int .i64 0) 1 8 Try.underlying22 hi hz0 hz1 hz2 rfl (by decide) v k xs hs (hown.alloc _) ⟨w.heap.size, 0, none⟩ 1 1 [.int .i64 x0] hx rfl ?_ ?_ (by unfold maxLen; omega) (by omega) (by simp; omega) fun v' w' h1 h2 _ => h v' w' h1 h2
  · intro j u hj
    match j, hj with
    | 0, hj => simp at hj; subst hj; simp [Addr.add]
  · intro u hu; simp at hu; subst hu; rfl
/-- A row of the call's own, read as a slice of numbers. -/
theorem ints_own {w : World} {B : Nat} {v : Value} {l : List Int} (h : w.ownsRow B 3 1 v l.length (intCells l)) : ∃ a cap, v = .slice a l.length cap ∧ Ints w.heap.size w a l := by
  rcases Nat.eq_zero_or_pos l.length with h0 | h0
  · have hl := List.length_eq_zero_iff.1 h0
    subst hl
    rcases Joins.ownsRow_forms h with ⟨rfl, _⟩ | ⟨g, cap, rfl⟩
    · exact ⟨none, 0, rfl, Or.inl rfl⟩
    · exact ⟨_, cap, rfl, Or.inl rfl⟩
  · obtain ⟨g, cap, rfl⟩ := Joins.ownsRow_form h h0
    refine ⟨_, cap, rfl, Or.inr ⟨g, 0, rfl, (h.lt g rfl).2, fun j hj => ?_⟩⟩
    have hc := h.cells (g := g) rfl j _ (intCells_at l j hj)
    rcases Nat.eq_zero_or_pos j with hj0 | hj0
    · subst hj0; simpa [Addr.add] using hc
    · simpa [Addr.add, Nat.ne_of_gt hj0] using hc
theorem ints_own_new {w : World} {B : Nat} {v : Value} {l : List Int} (h : w.ownsRow B 3 1 v l.length (intCells l)) : ∃ a cap, v = .slice a l.length cap ∧ IntsNew B w.heap.size w a l := by
  rcases Nat.eq_zero_or_pos l.length with h0 | h0
  · have hl := List.length_eq_zero_iff.1 h0
    subst hl
    rcases Joins.ownsRow_forms h with ⟨rfl, _⟩ | ⟨g, cap, rfl⟩
    · exact ⟨none, 0, rfl, Or.inl rfl⟩
    · exact ⟨_, cap, rfl, Or.inl rfl⟩
  · obtain ⟨g, cap, rfl⟩ := Joins.ownsRow_form h h0
    refine ⟨_, cap, rfl, Or.inr ⟨g, 0, rfl, (h.lt g rfl).1, (h.lt g rfl).2, fun j hj => ?_⟩⟩
    have hc := h.cells (g := g) rfl j _ (intCells_at l j hj)
    rcases Nat.eq_zero_or_pos j with hj0 | hj0
    · subst hj0; simpa [Addr.add] using hc
    · simpa [Addr.add, Nat.ne_of_gt hj0] using hc
theorem range_more (f : Nat → Int) (k : Nat) : (List.range k).map f ++ [f k] = (List.range (k + 1)).map f := by rw [List.range_succ, List.map_append]; rfl
/-- One place of a row stored anew. -/
theorem range_set (f g : Nat → Int) (n k : Nat) (hk : ∀ i, i < n → i ≠ k → f i = g i) : ((List.range n).map f).set k (g k) = (List.range n).map g := by
  refine List.ext_getElem (by simp) fun i h1 h2 => ?_
  have hi : i < n := by simpa using h2
  rw [List.getElem_set]
  simp only [List.getElem_map, List.getElem_range]
  split
  · rename_i e; rw [e]
  · rename_i e; exact hk i hi (fun e' => e e'.symm)
theorem intCells_set (l : List Int) (k : Nat) (x : Int) : (intCells l).set k (.int .i64 x) = intCells (l.set k x) := by unfold intCells; rw [List.map_set]
/-- A cell of a row of the call's own. -/
theorem own_cell {w : World} {B g n cap : Nat} {f : Nat → Int} (h : w.ownsRow B 3 1 (.slice (some ⟨g, 0, none⟩) n cap) n (intCells ((List.range n).map f))) (j : Nat) (hj : j < n) : w.cell? ⟨g, j, none⟩ = some (.int .i64 (f j)) := by
  rw [h.cellAt j (by omega), intCells_at _ j (by simp; exact hj), num_map f n j hj]
theorem own_stored {w : World} {B g n cap : Nat} {f f' : Nat → Int} (h : w.ownsRow B 3 1 (.slice (some ⟨g, 0, none⟩) n cap) n (intCells ((List.range n).map f))) (k : Nat) (hk : ∀ i, i < n → i ≠ k → f i = f' i) :
    (w.setCell ⟨g, k, none⟩ (.int .i64 (f' k))).ownsRow B 3 1 (.slice (some ⟨g, 0, none⟩) n cap) n (intCells ((List.range n).map f')) := by
  have := (h.stored k (.int .i64 (f' k))).1
  rw [intCells_set, range_set f f' n k hk] at this
  exact this
end Go.Proofs.Ytifihejogbcbgaa
namespace Go.Proofs.Ytifihejogbcbgaa
open Go.RowKit

theorem old_obj {wr w1 : World} (b1 : Below wr.heap.size wr w1) {g : Nat} {o : Obj} (h : wr.heap[g]? = some o) : w1.heap[g]? = some o := by
  rw [b1.block g (Array.getElem?_eq_some_iff.1 h).1]; exact h
theorem obj_lt {w : World} {g : Nat} {o : Obj} (h : w.heap[g]? = some o) : g < w.heap.size := (Array.getElem?_eq_some_iff.1 h).1
theorem cell_of {w : World} {g j : Nat} {cs : Array Value} {t : TypeId} {fr : Nat × Nat} {v : Value} (h : w.heap[g]? = some (.cells cs t fr)) (h2 : cs[j]? = some v) : w.cell? ⟨g, j, none⟩ = some v := by
  unfold World.cell?
  rw [h]
  exact h2
theorem three_cells {w : World} {g : Nat} {x y z : Value} {t : TypeId} (h : w.heap[g]? = some (.cells #[x, y, z] t (0, 0))) :
    w.cell? ⟨g, 0, none⟩ = some x ∧ w.cell? ⟨g, 1, none⟩ = some y ∧ w.cell? ⟨g, 2, none⟩ = some z ∧ w.frozen? ⟨g, 0, none⟩ = false ∧ w.frozen? ⟨g, 1, none⟩ = false ∧ w.frozen? ⟨g, 2, none⟩ = false :=
  ⟨cell_of (j := 0) h rfl, cell_of (j := 1) h rfl, cell_of (j := 2) h rfl, frozen_of_row w g 0 _ _ h, frozen_of_row w g 1 _ _ h, frozen_of_row w g 2 _ _ h⟩
theorem three_stored {w : World} {g : Nat} {x y z : Value} {t : TypeId} (h : w.heap[g]? = some (.cells #[x, y, z] t (0, 0))) (x' y' z' : Value) :
    (((w.setCell ⟨g, 0, none⟩ x').setCell ⟨g, 1, none⟩ y').setCell ⟨g, 2, none⟩ z').heap[g]? = some (.cells #[x', y', z'] t (0, 0)) := by
  have h0 := heap_setCell_same w g 0 _ t x' h
  have h1 := heap_setCell_same _ g 1 _ t y' h0
  have h2 := heap_setCell_same _ g 2 _ t z' h1
  exact h2
theorem three_below {B : Nat} {w w' : World} (h : Below B w w') {g : Nat} (hg : B ≤ g) (x y z : Value) :
    Below B w (((w'.setCell ⟨g, 0, none⟩ x).setCell ⟨g, 1, none⟩ y).setCell ⟨g, 2, none⟩ z) :=
  ((h.setCell (p := ⟨g, 0, none⟩) hg x).setCell (p := ⟨g, 1, none⟩) hg y).setCell (p := ⟨g, 2, none⟩) hg z
/-- A result that lies in a block of cells, and one that lies in a slot. -/
theorem results_row_slot {fn : Func} {p u : Tmp} {T : TypeId} (h : fn.results = #[.cell p T, .tmp u]) (tmps : Array Value) (w : World) (g : Nat) (v : Value)
    (hp : tmps.getD p undef = .pointer (some ⟨g, 0, none⟩)) (hl : (loadVar T ⟨g, 0, none⟩).run Try.prog w = .ok v w) :
    (results fn tmps).run Try.prog w = .ok (.tuple #[v, tmps.getD u undef]) w := by
  have hp' : tmps[p]?.getD undef = .pointer (some ⟨g, 0, none⟩) := by simpa using hp
  rw [results_cell_tmp h]
  simp [hp', asAddr, hl, Result.andThen]
/-- Behind a call: two blocks that were laid ahead of it. -/
theorem below_two {w w1 : World} {A Z : Obj} (b1 : Below ((w.alloc A).alloc Z).heap.size ((w.alloc A).alloc Z) w1) : Below w.heap.size w w1 ∧ w1.heap[w.heap.size + 1]? = some Z ∧ w1.heap[w.heap.size]? = some A := by
  have hb := Below.refl w.heap.size w
  have h2 := (hb.alloc hb.size A).alloc (hb.alloc hb.size A).size Z
  exact ⟨h2.trans (b1.mono h2.size), old_obj b1 (heap_alloc2_new _ _ _), old_obj b1 (heap_alloc2_old _ _ _)⟩
/-- Behind a call: three blocks that were laid ahead of it. -/
theorem below_three {w w1 : World} {A P Z : Obj} (b1 : Below (((w.alloc A).alloc P).alloc Z).heap.size (((w.alloc A).alloc P).alloc Z) w1) : Below w.heap.size w w1 ∧ w1.heap[w.heap.size]? = some A ∧ w1.heap[w.heap.size + 1]? = some P ∧ w1.heap[w.heap.size + 2]? = some Z := by
  have hb := Below.refl w.heap.size w
  have h1 := hb.alloc hb.size A
  have h2 := h1.alloc h1.size P
  have h3 := h2.alloc h2.size Z
  have e2 : ((w.alloc A).alloc P).heap.size = w.heap.size + 2 := by simp
  refine ⟨h3.trans (b1.mono h3.size), old_obj b1 ?_, old_obj b1 ?_, old_obj b1 ?_⟩
  · rw [Below.heap_alloc _ Z _ (by rw [e2]; omega)]; exact heap_alloc2_old _ _ _
  · rw [Below.heap_alloc _ Z _ (by rw [e2]; omega)]; exact heap_alloc2_new _ _ _
  · rw [← e2]; exact heap_alloc_new _ _
/-- The cells of blocks other than the one that a call may change. -/
theorem grown_obj {w w' : World} {g k : Nat} {o : Obj} (hg : w.grownBy w' (some g)) (h : w.heap[k]? = some o) (hne : k ≠ g) : w'.heap[k]? = some o := by
  rw [hg.block k (obj_lt h) (by simpa using hne)]; exact h
end Go.Proofs.Ytifihejogbcbgaa
namespace Go.Proofs.Ytifihejogbcbgaa
open Go.RowKit

theorem cut_to (u : ByteArray) (i : Int) (h0 : 0 ≤ i) (h1 : i ≤ u.size) (W : World) : (Instr.slice 9 (.string u) none (some (.int .i64 i)) none).run Try.prog W = .ok (.string (u.extract 0 i.toNat)) W := by
  simp [Instr.slice, Instr.sliceBounds, Instr.sliceBound, asIntOf, run_underlying Try.underlying9, h0, h1]
theorem cut_from (u : ByteArray) (i : Int) (h0 : 0 ≤ i) (h1 : i ≤ u.size) (W : World) : (Instr.slice 9 (.string u) (some (.int .i64 i)) none none).run Try.prog W = .ok (.string (u.extract i.toNat u.size)) W := by
  simp [Instr.slice, Instr.sliceBounds, Instr.sliceBound, asIntOf, run_underlying Try.underlying9, h0, h1]
theorem cut_mid (u : ByteArray) (i j : Int) (h0 : 0 ≤ i) (h1 : i ≤ j) (h2 : j ≤ u.size) (W : World) : (Instr.slice 9 (.string u) (some (.int .i64 i)) (some (.int .i64 j)) none).run Try.prog W = .ok (.string (u.extract i.toNat j.toNat)) W := by
  have h4 : 0 ≤ j := by omega
  simp [Instr.slice, Instr.sliceBounds, Instr.sliceBound, asIntOf, run_underlying Try.underlying9, h0, h2, h4]
  intro h; omega
theorem cut_list (s : ByteArray) (a b : Nat) : (s.extract a b).data.toList = (s.data.toList.drop a).take (b - a) := by
  rw [ByteArray.data_extract, Array.toList_extract, List.extract_eq_take_drop]
theorem text_eq {s t : ByteArray} (h : s.data.toList = t.data.toList) : s = t := by
  cases s; cases t; congr 1; exact Array.ext' h
theorem text_size (s : ByteArray) : s.data.toList.length = s.size := by simp
end Go.Proofs.Ytifihejogbcbgaa
