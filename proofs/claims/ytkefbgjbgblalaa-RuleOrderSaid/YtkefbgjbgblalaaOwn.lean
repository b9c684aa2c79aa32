/- Rows of numbers of the call's own: appended to, two side by side, stored into, and read as slices of numbers. -/
import Derived.Test.YtkefbgjbgblalaaSameInts
import Derived.Maps.AppendAt
import Derived.Lib.SmallJoins
import Derived.OwnWalk
import Derived.OneCell
namespace Go.Proofs.Ytkefbgjbgblalaa
open Go.RowKit

theorem infoInt : (Try.prog.info? 3).map (fun i => (i.zero, i.size, i.bytes)) = some (some (.int .i64 0), 1, 8) := by kernel_rfl
def intCells (xs : List Int) : List Value := xs.map fun x => .int .i64 x
theorem intCells_at (l : List Int) (j : Nat) (hj : j < l.length) : (intCells l)[j]? = some (.int .i64 (numAt l j)) := by
  unfold intCells numAt
  rw [List.getElem?_map, List.getElem?_eq_getElem hj, List.getD_eq_getElem?_getD, List.getElem?_eq_getElem hj]
  rfl
theorem intCells_more (l : List Int) (x : Int) : intCells l ++ [.int .i64 x] = intCells (l ++ [x]) := by unfold intCells; simp
/-- Two slices that don't share a row. -/
def Apart (u v : Value) : Prop := u.ownBlock = none ∨ v.ownBlock = none ∨ u.ownBlock ≠ v.ownBlock
theorem Apart.symm {u v : Value} (h : Apart u v) : Apart v u := by
  rcases h with h | h | h
  · exact Or.inr (Or.inl h)
  · exact Or.inl h
  · exact Or.inr (Or.inr fun e => h e.symm)
/-- Appending one number to a row of the call's own, while another one lies beside it. -/
theorem append_beside {ops : Array Oper} {rest : List Oper} {o : Oper} {a : Act} {Q : Exit → Act → World → Prop} {w : World} (hgd : o.guard = none) (s x : Operand)
    (ho : o.op = .call { callee := .builtin .append, args := #[s, x], argTypes := #[44, 44] })
    (B k m : Nat) (v u : Value) (xs ys : List Value) (hs : a.eval s = v) (hown : w.ownsRow B 3 1 v k xs) (hoth : w.ownsRow B 3 1 u m ys) (hap : Apart v u) (x0 : Int)
    (hx : a.eval x = .slice (some ⟨w.heap.size, 0, none⟩) 1 1) (hk : (k + 1) * 8 ≤ 140737488355328) (hB : B ≤ w.heap.size)
    (h : ∀ v' w', w'.ownsRow B 3 1 v' (k + 1) (xs ++ [.int .i64 x0]) → w'.ownsRow B 3 1 u m ys → Apart v' u → (w.alloc (.cells #[.int .i64 x0] 3)).grownBy w' v.ownBlock → wpList Try.prog ops Q rest (a.put o.dst v') w') :
    wpList Try.prog ops Q (o :: rest) a (w.alloc (.cells #[.int .i64 x0] 3)) := by
  obtain ⟨i0, hi, hz0, hz1, hz2⟩ := info_parts infoInt
  refine wpList_append_own_at _ hgd s x 44 ho B 3 i0 (.int .i64 0) 1 8 Try.underlying44 hi hz0 hz1 hz2 rfl (by decide) v k xs hs (hown.alloc _) ⟨w.heap.size, 0, none⟩ 1 1 [.int .i64 x0] hx rfl (cell_one_new _ _ _) ?_ (by unfold maxLen; omega) (by omega) (by have := World.size_alloc w (.cells #[.int .i64 x0] 3); omega) ?_
  · intro y hy; simp at hy; subst hy; rfl
  · intro v' w' h1 h2 _ h4
    refine h v' w' h1 ((hoth.alloc _).kept h2 ?_) ?_ h2
    · rcases hap with h5 | h5 | h5
      · cases hu : u.ownBlock with
        | none => exact Or.inl rfl
        | some g => exact Or.inr (by rw [h5]; simp)
      · exact Or.inl h5
      · exact Or.inr fun e => h5 e.symm
    · rcases h4 with h4 | h4
      · unfold Apart; rw [h4]; exact hap
      · refine Or.inr ?_
        cases hu : u.ownBlock with
        | none => exact Or.inl rfl
        | some g =>
          have := (hoth.lt g hu).2
          refine Or.inr ?_
          rw [h4]
          intro e
          have := Option.some.inj e
          have h6 := World.size_alloc w (.cells #[.int .i64 x0] 3)
          omega
/-- Appending one number to a row of the call's own: the literal of one number is the newest block. -/
theorem append_int {ops : Array Oper} {rest : List Oper} {o : Oper} {a : Act} {Q : Exit → Act → World → Prop} {w : World} (hgd : o.guard = none) (s x : Operand)
    (ho : o.op = .call { callee := .builtin .append, args := #[s, x], argTypes := #[44, 44] })
    (B k : Nat) (v : Value) (xs : List Value) (hs : a.eval s = v) (hown : w.ownsRow B 3 1 v k xs) (x0 : Int)
    (hx : a.eval x = .slice (some ⟨w.heap.size, 0, none⟩) 1 1) (hk : (k + 1) * 8 ≤ 140737488355328) (hB : B ≤ w.heap.size)
    (h : ∀ v' w', w'.ownsRow B 3 1 v' (k + 1) (xs ++ [.int .i64 x0]) → (w.alloc (.cells #[.int .i64 x0] 3)).grownBy w' v.ownBlock → wpList Try.prog ops Q rest (a.put o.dst v') w') :
    wpList Try.prog ops Q (o :: rest) a (w.alloc (.cells #[.int .i64 x0] 3)) := by
  obtain ⟨i0, hi, hz0, hz1, hz2⟩ := info_parts infoInt
  refine wpList_append_own _ hgd s x 44 ho B 3 i0 (.int .i64 0) 1 8 Try.underlying44 hi hz0 hz1 hz2 rfl (by decide) v k xs hs (hown.alloc _) ⟨w.heap.size, 0, none⟩ 1 1 [.int .i64 x0] hx rfl ?_ ?_ (by unfold maxLen; omega) (by omega) (by simp; omega) fun v' w' h1 h2 _ => h v' w' h1 h2
  · intro j u hj
    match j, hj with
    | 0, hj => simp at hj; subst hj; simp [Addr.add]
  · intro u hu; simp at hu; subst hu; rfl
/-- A row of the call's own, read as a slice of numbers. -/
theorem ints_own {w : World} {B : Nat} {v : Value} {l : List Int} (h : w.ownsRow B 3 1 v l.length (intCells l)) : ∃ a cap, v = .slice a l.length cap ∧ Ints w.heap.size w a l := by
  rcases Nat.eq_zero_or_pos l.length with h0 | h0
  · have hl := List.length_eq_zero_iff.1 h0
    subst hl
    rcases Joins.ownsRow_forms h with ⟨rfl, _⟩ | ⟨g, cap, rfl⟩
    · exact ⟨none, 0, rfl, Or.inl rfl⟩
    · exact ⟨_, cap, rfl, Or.inl rfl⟩
  · obtain ⟨g, cap, rfl⟩ := Joins.ownsRow_form h h0
    refine ⟨_, cap, rfl, Or.inr ⟨g, 0, rfl, (h.lt g rfl).2, fun j hj => ?_⟩⟩
    have hc := h.cells (g := g) rfl j _ (intCells_at l j hj)
    rcases Nat.eq_zero_or_pos j with hj0 | hj0
    · subst hj0; simpa [Addr.add] using hc
    · simpa [Addr.add, Nat.ne_of_gt hj0] using hc
theorem ints_own_new {w : World} {B : Nat} {v : Value} {l : List Int} (h : w.ownsRow B 3 1 v l.length (intCells l)) : ∃ a cap, v = .slice a l.length cap ∧ IntsNew B w.heap.size w a l := by
  rcases Nat.eq_zero_or_pos l.length with h0 | h0
  · have hl := List.length_eq_zero_iff.1 h0
    subst hl
    rcases Joins.ownsRow_forms h with ⟨rfl, _⟩ | ⟨g, cap, rfl⟩
    · exact ⟨none, 0, rfl, Or.inl rfl⟩
    · exact ⟨_, cap, rfl, Or.inl rfl⟩
  · obtain ⟨g, cap, rfl⟩ := Joins.ownsRow_form h h0
    refine ⟨_, cap, rfl, Or.inr ⟨g, 0, rfl, (h.lt g rfl).1, (h.lt g rfl).2, fun j hj => ?_⟩⟩
    have hc := h.cells (g := g) rfl j _ (intCells_at l j hj)
    rcases Nat.eq_zero_or_pos j with hj0 | hj0
    · subst hj0; simpa [Addr.add] using hc
    · simpa [Addr.add, Nat.ne_of_gt hj0] using hc
theorem range_more (f : Nat → Int) (k : Nat) : (List.range k).map f ++ [f k] = (List.range (k + 1)).map f := by rw [List.range_succ, List.map_append]; rfl
/-- One place of a row stored anew. -/
theorem range_set (f g : Nat → Int) (n k : Nat) (hk : ∀ i, i < n → i ≠ k → f i = g i) : ((List.range n).map f).set k (g k) = (List.range n).map g := by
  refine List.ext_getElem (by simp) fun i h1 h2 => ?_
  have hi : i < n := by simpa using h2
  rw [List.getElem_set]
  simp only [List.getElem_map, List.getElem_range]
  split
  · rename_i e; rw [e]
  · rename_i e; exact hk i hi (fun e' => e e'.symm)
theorem intCells_set (l : List Int) (k : Nat) (x : Int) : (intCells l).set k (.int .i64 x) = intCells (l.set k x) := by unfold intCells; rw [List.map_set]
/-- A cell of a row of the call's own. -/
theorem own_cell {w : World} {B g n cap : Nat} {f : Nat → Int} (h : w.ownsRow B 3 1 (.slice (some ⟨g, 0, none⟩) n cap) n (intCells ((List.range n).map f))) (j : Nat) (hj : j < n) : w.cell? ⟨g, j, none⟩ = some (.int .i64 (f j)) := by
  rw [h.cellAt j (by omega), intCells_at _ j (by simp; exact hj), num_map f n j hj]
theorem own_stored {w : World} {B g n cap : Nat} {f f' : Nat → Int} (h : w.ownsRow B 3 1 (.slice (some ⟨g, 0, none⟩) n cap) n (intCells ((List.range n).map f))) (k : Nat) (hk : ∀ i, i < n → i ≠ k → f i = f' i) :
    (w.setCell ⟨g, k, none⟩ (.int .i64 (f' k))).ownsRow B 3 1 (.slice (some ⟨g, 0, none⟩) n cap) n (intCells ((List.range n).map f')) := by
  have := (h.stored k (.int .i64 (f' k))).1
  rw [intCells_set, range_set f f' n k hk] at this
  exact this
end Go.Proofs.Ytkefbgjbgblalaa
