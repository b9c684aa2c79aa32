/- Rows of elements of a few cells: cut and appended; rows of pairs. -/
import Derived.Test.YtkefbgjbgblalaaRw13
import Derived.Test.YtkefbgjbgblalaaIx14
namespace Go.Proofs.Ytkefbgjbgblalaa
open Go.RowKit

theorem rk_own {w : World} {B n k : Nat} {e : TypeId} {v : Value} {cs : List Value} (h : w.ownsRow B e k v n cs) : ∃ a cap, v = .slice a n cap ∧ n ≤ cap ∧ cs.length = n * k ∧ Rw B w.heap.size w a cs := by
  have hl := h.1
  have h2 := h.2
  rcases h2 with ⟨rfl, h0⟩ | ⟨g, cap, cur, rfl, _, _, hcap, _⟩
  · exact ⟨none, 0, by rw [h0], by omega, hl, Or.inl (List.length_eq_zero_iff.1 (by rw [hl, h0, Nat.zero_mul]))⟩
  · refine ⟨_, cap, rfl, hcap, hl, Or.inr ⟨g, 0, rfl, (h.lt g rfl).1, (h.lt g rfl).2, fun j u hj => ?_⟩⟩
    have hc := h.cells (g := g) rfl j u hj
    rcases Nat.eq_zero_or_pos j with hj0 | hj0
    · subst hj0; simpa [Addr.add] using hc
    · simpa [Addr.add, Nat.ne_of_gt hj0] using hc
theorem ownk_base {w : World} {B B' n k : Nat} {e : TypeId} {v : Value} {cs : List Value} (h : w.ownsRow B e k v n cs) (hb : B' ≤ B) : w.ownsRow B' e k v n cs :=
  ⟨h.1, h.2.imp id fun ⟨g, cap, cur, h1, h2, h3⟩ => ⟨g, cap, cur, h1, Nat.le_trans hb h2, h3⟩⟩
theorem wp_append_rk {o : Oper} {a : Act} {K : Act → World → Prop} {Q : Exit → Act → World → Prop} {w : World} (s x : Operand) {t e : TypeId} {z : Value} {bytes k : Nat} (hk : 0 < k)
    (ht : Try.prog.underlying t = some (.slice e)) (hinfo : (Try.prog.info? e).map (fun i => (i.zero, i.size, i.bytes)) = some (some z, k, bytes)) (hzc : z.cells.size = k)
    (ho : o.op = .call { callee := .builtin .append, args := #[s, x], argTypes := #[t, t] })
    (B n : Nat) (v : Value) (cs ds : List Value) (hs : a.eval s = v) (hown : w.ownsRow B e k v n cs) (ao : Option Addr) (m c A' B' : Nat) (hx : a.eval x = .slice ao m c) (hm : ds.length = m * k) (hd : Rw A' B' w ao ds) (h1 : ∀ u ∈ ds, u.oneCell' = true)
    (hn : n + m ≤ 1000000) (hb : bytes ≤ 1000000) (hB : B ≤ w.heap.size)
    (h : ∀ v' w', w'.ownsRow B e k v' (n + m) (cs ++ ds) → w.grownBy w' v.ownBlock → K (a.put o.dst v') w') :
    o.wp Try.prog a w K Q := by
  obtain ⟨i0, hi, hz0, hz1, hz2⟩ := info_parts hinfo
  rcases hd with rfl | ⟨b, off, rfl, _, _, hc⟩
  · obtain rfl : m = 0 := by
      rcases Nat.eq_zero_or_pos m with q | q
      · exact q
      · have := Nat.mul_pos q hk; rw [← hm] at this; simp at this
    obtain ⟨av, cap, rfl, hcap, _, _⟩ := rk_own hown
    have hr := run_append_nothing (ty := o.type) ht hi av ao n cap c hcap w
    unfold Oper.wp execOp
    simp only [ho, resolve, invoke, builtin, Sem.run_bind, Sem.run_pure, Result.andThen_ok, List.map_toArray, List.map_cons, List.map_nil, hs, hx, hr]
    refine h _ w ?_ ⟨rfl, rfl, rfl, Nat.le_refl _, fun _ _ _ => rfl⟩
    rw [List.append_nil]
    exact hown
  · have hb2 : (n + m) * bytes ≤ 140737488355328 := Nat.le_trans (Nat.mul_le_mul hn hb) (by decide)
    refine wp_append_own _ s x t ho B e i0 z k bytes ht hi hz0 hz1 hz2 hzc hk v n cs hs hown ⟨b, off, none⟩ m c ds hx hm ?_ h1 (by unfold maxLen; omega) hb2 hB fun v' w' h1 h2 _ => h v' w' h1 h2
    intro j u hj
    have := hc j u hj
    rcases Nat.eq_zero_or_pos j with hj0 | hj0
    · subst hj0; simpa [Addr.add] using this
    · simpa [Addr.add, Nat.ne_of_gt hj0] using this
theorem append_rk {ops : Array Oper} {rest : List Oper} {o : Oper} {a : Act} {Q : Exit → Act → World → Prop} {w : World} (hgd : o.guard = none) (s x : Operand) {t e : TypeId} {z : Value} {bytes k : Nat} (hk : 0 < k)
    (ht : Try.prog.underlying t = some (.slice e)) (hinfo : (Try.prog.info? e).map (fun i => (i.zero, i.size, i.bytes)) = some (some z, k, bytes)) (hzc : z.cells.size = k)
    (ho : o.op = .call { callee := .builtin .append, args := #[s, x], argTypes := #[t, t] })
    (B n : Nat) (v : Value) (cs ds : List Value) (hs : a.eval s = v) (hown : w.ownsRow B e k v n cs) (ao : Option Addr) (m c A' B' : Nat) (hx : a.eval x = .slice ao m c) (hm : ds.length = m * k) (hd : Rw A' B' w ao ds) (h1 : ∀ u ∈ ds, u.oneCell' = true)
    (hn : n + m ≤ 1000000) (hb : bytes ≤ 1000000) (hB : B ≤ w.heap.size)
    (h : ∀ v' w', w'.ownsRow B e k v' (n + m) (cs ++ ds) → w.grownBy w' v.ownBlock → wpList Try.prog ops Q rest (a.put o.dst v') w') :
    wpList Try.prog ops Q (o :: rest) a w :=
  wpList_plain hgd fun _ hK => wp_append_rk s x hk ht hinfo hzc ho B n v cs ds hs hown ao m c A' B' hx hm hd h1 hn hb hB fun v' w' h2 h3 => hK _ _ (h v' w' h2 h3)
theorem step_append_rk {ops : Array Oper} {o : Oper} {a : Act} {K : Act → World → Prop} {Q : Exit → Act → World → Prop} {w : World} {E : Prop} (hgd : o.guard = none) (s x : Operand) {t e : TypeId} {z : Value} {bytes k : Nat} (hk : 0 < k)
    (ht : Try.prog.underlying t = some (.slice e)) (hinfo : (Try.prog.info? e).map (fun i => (i.zero, i.size, i.bytes)) = some (some z, k, bytes)) (hzc : z.cells.size = k)
    (ho : o.op = .call { callee := .builtin .append, args := #[s, x], argTypes := #[t, t] })
    (B n : Nat) (v : Value) (cs ds : List Value) (hs : a.eval s = v) (hown : w.ownsRow B e k v n cs) (ao : Option Addr) (m c A' B' : Nat) (hx : a.eval x = .slice ao m c) (hm : ds.length = m * k) (hd : Rw A' B' w ao ds) (h1 : ∀ u ∈ ds, u.oneCell' = true)
    (hn : n + m ≤ 1000000) (hb : bytes ≤ 1000000) (hB : B ≤ w.heap.size)
    (h : ∀ v' w', w'.ownsRow B e k v' (n + m) (cs ++ ds) → w.grownBy w' v.ownBlock → K (a.put o.dst v') w') :
    if Region.wanted o (yielded ops a.tmps) = true then Oper.wp Try.prog o a w K Q else E := by
  have hw : Region.wanted o (yielded ops a.tmps) = true := by simp [Region.wanted, hgd]
  rw [if_pos hw]
  exact wp_append_rk s x hk ht hinfo hzc ho B n v cs ds hs hown ao m c A' B' hx hm hd h1 hn hb hB h
theorem rowk_from {t : TypeId} {k : Nat} (ht : Try.prog.underlying t = some (.slice (Try.prog.elem t))) (hs : ∀ w, (Go.sizeOf (Try.prog.elem t)).run Try.prog w = .ok k w) (a : Option Addr) (n cap p : Nat) (hp : p ≤ n) (hn : n ≤ cap) :
    ∃ a', (∀ w, (Instr.slice t (.slice a n cap) (some (.int .i64 (p : Int))) none none).run Try.prog w = .ok (.slice a' (n - p) (cap - p)) w) ∧ ∀ A B w cs, cs.length = n * k → Rw A B w a cs → Rw A B w a' (cs.drop (p * k)) := by
  refine ⟨if cap = p then a else a.map (·.add (p * k)), fun w => ?_, fun A B w cs hl h => ?_⟩
  · rw [run_slice_l w t a n cap ht .i64 (p : Int) (by omega) (by omega), hs]
    simp [Result.andThen, sliced]
  · split
    · refine Or.inl (List.drop_of_length_le ?_)
      rw [hl]
      exact Nat.mul_le_mul_right k (by omega)
    · rcases h with h | ⟨b, off, rfl, h1, h2, hc⟩
      · subst h; exact Or.inl (by simp)
      · refine Or.inr ⟨b, off + p * k, ?_, h1, h2, fun j u hj => ?_⟩
        · simp only [Option.map_some, Addr.add]
          split <;> simp_all
        · rw [List.getElem?_drop] at hj
          rw [Nat.add_assoc]
          exact hc _ u hj
theorem rowk_to {t : TypeId} {k : Nat} (ht : Try.prog.underlying t = some (.slice (Try.prog.elem t))) (hs : ∀ w, (Go.sizeOf (Try.prog.elem t)).run Try.prog w = .ok k w) (a : Option Addr) (n cap p : Nat) (hp : p ≤ n) (hn : n ≤ cap) (w : World) :
    (Instr.slice t (.slice a n cap) none (some (.int .i64 (p : Int))) none).run Try.prog w = .ok (.slice a p cap) w := by
  rw [run_slice_h w t a n cap ht .i64 (p : Int) (by omega) (by omega), hs]
  cases a <;> simp [Result.andThen, sliced, Addr.add]

/-! Pairs. -/
def prAt (l : List Pr) (j : Nat) : Pr := l.getD j ([], 0)
def prCells : List Pr → List Value
  | [] => []
  | p :: l => .string (tx p.1) :: .int .i64 p.2 :: prCells l
theorem prCells_len (l : List Pr) : (prCells l).length = l.length * 2 := by
  induction l with
  | nil => rfl
  | cons p l ih => unfold prCells; rw [List.length_cons, List.length_cons, ih, List.length_cons]; omega
theorem prCells_append (l m : List Pr) : prCells (l ++ m) = prCells l ++ prCells m := by
  induction l with
  | nil => rfl
  | cons p l ih => simp only [List.cons_append, prCells, ih]
theorem prCells_drop (l : List Pr) (k : Nat) : prCells (l.drop k) = (prCells l).drop (k * 2) := by
  induction k generalizing l with
  | zero => simp
  | succ k ih =>
    cases l with
    | nil => simp [prCells]
    | cons p l =>
      rw [List.drop_succ_cons, ih]
      conv => rhs; unfold prCells
      rw [show (k + 1) * 2 = k * 2 + 1 + 1 by omega, List.drop_succ_cons, List.drop_succ_cons]
theorem prCells_take (l : List Pr) (k : Nat) : prCells (l.take k) = (prCells l).take (k * 2) := by
  induction k generalizing l with
  | zero => simp [prCells]
  | succ k ih =>
    cases l with
    | nil => simp [prCells]
    | cons p l =>
      rw [List.take_succ_cons]
      unfold prCells
      rw [ih, show (k + 1) * 2 = k * 2 + 1 + 1 by omega, List.take_succ_cons, List.take_succ_cons]
theorem prCells_one (l : List Pr) : ∀ u ∈ prCells l, u.oneCell' = true := by
  induction l with
  | nil => intro u hu; cases hu
  | cons p l ih =>
    intro u hu
    unfold prCells at hu
    rcases List.mem_cons.1 hu with rfl | hu
    · rfl
    · rcases List.mem_cons.1 hu with rfl | hu
      · rfl
      · exact ih u hu
theorem prCells_at (l : List Pr) (j : Nat) (hj : j < l.length) : (prCells l)[j * 2]? = some (.string (tx (prAt l j).1)) ∧ (prCells l)[j * 2 + 1]? = some (.int .i64 (prAt l j).2) := by
  induction l generalizing j with
  | nil => simp at hj
  | cons p l ih =>
    unfold prCells
    cases j with
    | zero => exact ⟨rfl, rfl⟩
    | succ j =>
      have := ih j (by simpa using hj)
      rw [show (j + 1) * 2 = j * 2 + 1 + 1 by omega, List.getElem?_cons_succ, List.getElem?_cons_succ, show j * 2 + 1 + 1 + 1 = (j * 2 + 1) + 1 + 1 by omega, List.getElem?_cons_succ, List.getElem?_cons_succ]
      exact this
theorem prAt_get (l : List Pr) (j : Nat) (hj : j < l.length) : l[j]? = some (prAt l j) := by
  unfold prAt
  rw [List.getElem?_eq_getElem hj, List.getD_eq_getElem?_getD, List.getElem?_eq_getElem hj]
  rfl
/-- A slice of just these pairs. -/
def Prs (A B : Nat) (w : World) (a : Option Addr) (l : List Pr) : Prop := Rw A B w a (prCells l)
theorem Prs.at {A B : Nat} {w : World} {a : Option Addr} {l : List Pr} (h : Prs A B w a l) {j : Nat} (hj : j < l.length) : ∃ b off, a = some ⟨b, off, none⟩ ∧ b < B ∧ w.cell? ⟨b, off + j * 2, none⟩ = some (.string (tx (prAt l j).1)) ∧ w.cell? ⟨b, off + j * 2 + 1, none⟩ = some (.int .i64 (prAt l j).2) := by
  rcases h with h | ⟨b, off, ha, _, hb, hc⟩
  · have := prCells_len l
    rw [h] at this
    simp at this
    omega
  · have h2 := prCells_at l j hj
    exact ⟨b, off, ha, hb, hc _ _ h2.1, by rw [Nat.add_assoc]; exact hc _ _ h2.2⟩
end Go.Proofs.Ytkefbgjbgblalaa
