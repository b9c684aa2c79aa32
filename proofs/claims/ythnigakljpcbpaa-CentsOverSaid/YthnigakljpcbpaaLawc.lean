/- The walk of the law CentsOver: it returns true in every world and leaves what lay there. -/
import Derived.Test.YthnigakljpcbpaaLawb
import Derived.Lib.SmallJoins
namespace Go.Proofs.Ythnigakljpcbpaa
open Go.RowKit

theorem infoInt : (Try.prog.info? 3).map (fun i => (i.zero, i.size, i.bytes)) = some (some (.int .i64 0), 1, 8) := by kernel_rfl
/-- Appending one number to a row of the call's own: the literal of one number is the newest block. -/
theorem append_int {ops : Array Oper} {rest : List Oper} {o : Oper} {a : Act} {Q : Exit → Act → World → Prop} {w : World} (hgd : o.guard = none) (s x : Operand)
    (ho : o.op = .call { callee := .builtin .append, args := #[s, x], argTypes := #[22, 22] })
    (B k : Nat) (v : Value) (xs : List Value) (hs : a.eval s = v) (hown : w.ownsRow B 3 1 v k xs) (x0 : Int)
    (hx : a.eval x = .slice (some ⟨w.heap.size, 0, none⟩) 1 1) (hk : (k + 1) * 8 ≤ 140737488355328) (hB : B ≤ w.heap.size)
    (h : ∀ v' w', w'.ownsRow B 3 1 v' (k + 1) (xs ++ [.int .i64 x0]) → (w.alloc (.cells #[.int .i64 x0] 3)).grownBy w' v.ownBlock → wpList Try.prog ops Q rest (a.put o.dst v') w') :
    wpList Try.prog ops Q (o :: rest) a (w.alloc (.cells #[.int .i64 x0] 3)) := by
  obtain ⟨i0, hi, hz0, hz1, hz2⟩ := info_parts infoInt
  refine wpList_append_own _ hgd s x 22 ho B 3 i0 (.int .i64 0) 1 8 Try.underlying22 hi hz0 hz1 hz2 rfl (by decide) v k xs hs (hown.alloc _) ⟨w.heap.size, 0, none⟩ 1 1 [.int .i64 x0] hx rfl ?_ ?_ (by unfold maxLen; omega) (by omega) (by simp; omega) fun v' w' h1 h2 _ => h v' w' h1 h2
  · intro j u hj
    match j, hj with
    | 0, hj => simp at hj; subst hj; simp [Addr.add]
  · intro u hu; simp at hu; subst hu; rfl

def intCells (xs : List Int) : List Value := xs.map fun x => .int .i64 x
theorem intCells_at (l : List Int) (j : Nat) (hj : j < l.length) : (intCells l)[j]? = some (.int .i64 (numAt l j)) := by
  unfold intCells numAt
  rw [List.getElem?_map, List.getElem?_eq_getElem hj, List.getD_eq_getElem?_getD, List.getElem?_eq_getElem hj]
  rfl
/-- A row of the call's own, read as a slice of numbers. -/
theorem ints_own {w : World} {B : Nat} {v : Value} {l : List Int} (h : w.ownsRow B 3 1 v l.length (intCells l)) : ∃ a cap, v = .slice a l.length cap ∧ Ints w.heap.size w a l := by
  rcases Nat.eq_zero_or_pos l.length with h0 | h0
  · have hl := List.length_eq_zero_iff.1 h0
    subst hl
    rcases Joins.ownsRow_forms h with ⟨rfl, _⟩ | ⟨g, cap, rfl⟩
    · exact ⟨none, 0, rfl, Or.inl rfl⟩
    · exact ⟨_, cap, rfl, Or.inl rfl⟩
  · obtain ⟨g, cap, rfl⟩ := Joins.ownsRow_form h h0
    refine ⟨_, cap, rfl, Or.inr ⟨g, 0, rfl, (h.lt g rfl).2, fun j hj => ?_⟩⟩
    have hc := h.cells (g := g) rfl j _ (intCells_at l j hj)
    rcases Nat.eq_zero_or_pos j with hj0 | hj0
    · subst hj0; simpa [Addr.add] using hc
    · simpa [Addr.add, Nat.ne_of_gt hj0] using hc

/-! The plain words: what is added in another order makes the same, if none is below 0. -/
def total : List Int → Int
  | [] => 0
  | x :: l => x + total l
theorem total_append (a b : List Int) : total (a ++ b) = total a + total b := by
  induction a with
  | nil => simp [total]
  | cons x l ih => simp only [List.cons_append, total, ih]; omega
theorem total_reverse (l : List Int) : total l.reverse = total l := by
  induction l with
  | nil => rfl
  | cons x l ih => rw [List.reverse_cons, total_append, ih]; simp only [total]; omega
theorem total_pos {l : List Int} (h : ∀ x ∈ l, 0 ≤ x) : 0 ≤ total l := by
  induction l with
  | nil => simp [total]
  | cons x l ih =>
    have h1 := h x (List.mem_cons_self ..)
    have h2 := ih (fun y hy => h y (List.mem_cons_of_mem _ hy))
    simp only [total]; omega
theorem add_some {l : List Int} : ∀ {n m : Int}, addFrom n l = some m → m = n + total l := by
  induction l with
  | nil => intro n m h; simp only [addFrom, Option.some.injEq] at h; simp [total, h]
  | cons x l ih =>
    intro n m h
    simp only [addFrom] at h
    split at h
    · have := ih h; simp only [total]; omega
    · cases h
theorem add_in {l : List Int} : ∀ {n m : Int}, inB n = true → addFrom n l = some m → inB m = true := by
  induction l with
  | nil => intro n m hn h; simp only [addFrom, Option.some.injEq] at h; rw [← h]; exact hn
  | cons x l ih =>
    intro n m hn h
    simp only [addFrom] at h
    split at h
    · rename_i hq
      simp only [Bool.and_eq_true] at hq
      exact ih hq.2 h
    · cases h
/-- Numbers that are not below 0, and whose sum is an amount, are added whatever their order. -/
theorem add_whole {l : List Int} : ∀ {n : Int}, 0 ≤ n → (∀ x ∈ l, 0 ≤ x) → n + total l ≤ 1000000000000 → addFrom n l = some (n + total l) := by
  induction l with
  | nil => intro n _ _ _; simp [addFrom, total]
  | cons x l ih =>
    intro n hn hx ht
    have h1 := hx x (List.mem_cons_self ..)
    have h2 := total_pos (fun y hy => hx y (List.mem_cons_of_mem _ hy))
    simp only [total] at ht ⊢
    have e1 : inB x = true := (inB_iff _).2 (by omega)
    have e2 : inB (n + x) = true := (inB_iff _).2 (by omega)
    simp only [addFrom, e1, e2, Bool.and_self, if_true]
    rw [ih (by omega) (fun y hy => hx y (List.mem_cons_of_mem _ hy)) (by omega)]
    congr 1; omega
theorem add_okay {xs : List Int} (h : addE xs = 0) : addFrom 0 xs = some (addV xs) ∧ inB (addV xs) = true := by
  have hs : ∃ m, addFrom 0 xs = some m := by
    unfold addE at h
    cases hq : addFrom 0 xs with
    | none => rw [hq] at h; simp at h
    | some m => exact ⟨m, rfl⟩
  obtain ⟨m, hm⟩ := hs
  have hv : addV xs = m := by unfold addV; rw [hm]; rfl
  rw [hv]
  exact ⟨hm, add_in (by decide) hm⟩
theorem add_turned {xs : List Int} (h : addE xs = 0) (hp : ∀ x ∈ xs, 0 ≤ x) : addV xs.reverse = addV xs ∧ addE xs.reverse = 0 := by
  obtain ⟨h1, h2⟩ := add_okay h
  have ht := add_some h1
  have hb := (inB_iff _).1 h2
  have hr := add_whole (l := xs.reverse) (n := 0) (by omega) (fun x hx => hp x (by simpa using hx)) (by rw [total_reverse]; omega)
  rw [total_reverse, ← ht] at hr
  unfold addV addE
  rw [hr]
  exact ⟨by unfold addV at ht ⊢; rw [h1]; rfl, rfl⟩
theorem add_none_or (xs : List Int) : addE xs = 0 ∨ addE xs = 8 ∧ addV xs = 0 := by
  unfold addE addV
  cases addFrom 0 xs with
  | none => exact Or.inr ⟨rfl, rfl⟩
  | some m => exact Or.inl rfl
/-- What is taken away and added again. -/
theorem sub_back {s x : Int} (hs : inB s = true) (h : subE s x = 0) : addV [subV s x, x] = s ∧ addE [subV s x, x] = 0 := by
  have hk : subOk s x = true := by
    unfold subE at h
    split at h
    · assumption
    · omega
  have hv : subV s x = s - x := by unfold subV; rw [hk]; rfl
  unfold subOk at hk
  simp only [Bool.and_eq_true] at hk
  rw [hv]
  have e : addFrom 0 [s - x, x] = some s := by
    simp only [addFrom]
    rw [Int.zero_add, hk.2, show s - x + x = s from by omega, hk.1.2, hs]
    rfl
  unfold addV addE
  rw [e]
  exact ⟨rfl, rfl⟩
theorem sub_two (s x : Int) : subE s x = 0 ∨ subE s x = 8 := by unfold subE; split <;> simp
end Go.Proofs.Ythnigakljpcbpaa
