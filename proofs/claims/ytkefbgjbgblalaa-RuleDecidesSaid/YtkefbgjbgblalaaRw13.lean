/- Rows of cells of one cell an element, whatever they are: cut, and appended one to another; numbers and texts as such rows. -/
import Derived.Test.YtkefbgjbgblalaaRows10
import Derived.ArgAppend
import Derived.Deep.RegionWith
namespace Go.Proofs.Ytkefbgjbgblalaa
open Go.RowKit

/-- A slice of just these cells, its row lying from block A on and below block B. -/
def Rw (A B : Nat) (w : World) (a : Option Addr) (cs : List Value) : Prop :=
  cs = [] ∨ ∃ b off, a = some ⟨b, off, none⟩ ∧ A ≤ b ∧ b < B ∧ ∀ j u, cs[j]? = some u → w.cell? ⟨b, off + j, none⟩ = some u
theorem Rw.below {A B : Nat} {w w' : World} {a : Option Addr} {cs : List Value} (h : Rw A B w a cs) (hb : Below B w w') : Rw A B w' a cs := by
  rcases h with h | ⟨b, off, ha, hA, hB, hc⟩
  · exact Or.inl h
  · exact Or.inr ⟨b, off, ha, hA, hB, fun j u hj => (hb.cell (p := ⟨b, off + j, none⟩) hB).trans (hc j u hj)⟩
theorem Rw.wide {A A' B B' : Nat} {w : World} {a : Option Addr} {cs : List Value} (h : Rw A B w a cs) (hA : A' ≤ A) (hB : B ≤ B') : Rw A' B' w a cs := by
  rcases h with h | ⟨b, off, ha, h1, h2, hc⟩
  · exact Or.inl h
  · exact Or.inr ⟨b, off, ha, by omega, by omega, hc⟩
theorem Rw.step {A : Nat} {w w' : World} {a : Option Addr} {cs : List Value} (h : Rw A w.heap.size w a cs) (b : Below w.heap.size w w') : Rw A w'.heap.size w' a cs := (h.below b).wide (Nat.le_refl _) b.size
/-- The world behind a change of a row that is the call's own. -/
theorem Rw.grown {A B : Nat} {w w' : World} {a : Option Addr} {cs : List Value} {row : Option Nat} (h : Rw A B w a cs) (hg : w.grownBy w' row) (hr : ∀ k, row = some k → B ≤ k) : Rw A B w' a cs := by
  rcases h with h | ⟨b, off, ha, h1, h2, hc⟩
  · exact Or.inl h
  · exact Or.inr ⟨b, off, ha, h1, h2, fun j u hj => hg.cell (hc j u hj) (fun e => by have := hr b e.symm; omega)⟩
theorem rw_own {w : World} {B n : Nat} {e : TypeId} {v : Value} {cs : List Value} (h : w.ownsRow B e 1 v n cs) : ∃ a cap, v = .slice a n cap ∧ n ≤ cap ∧ cs.length = n ∧ Rw B w.heap.size w a cs := by
  have hl : cs.length = n := by have := h.1; omega
  have h2 := h.2
  rcases h2 with ⟨rfl, h0⟩ | ⟨g, cap, cur, rfl, _, _, hcap, _⟩
  · exact ⟨none, 0, by rw [h0], by omega, hl, Or.inl (List.length_eq_zero_iff.1 (by omega))⟩
  · refine ⟨_, cap, rfl, hcap, hl, Or.inr ⟨g, 0, rfl, (h.lt g rfl).1, (h.lt g rfl).2, fun j u hj => ?_⟩⟩
    have hc := h.cells (g := g) rfl j u hj
    rcases Nat.eq_zero_or_pos j with hj0 | hj0
    · subst hj0; simpa [Addr.add] using hc
    · simpa [Addr.add, Nat.ne_of_gt hj0] using hc
theorem txs_rw {A B : Nat} {w : World} {a : Option Addr} {xs : List (List UInt8)} : Txs A B w a xs ↔ Rw A B w a (txCells xs) := by
  constructor
  · rintro (rfl | ⟨b, off, ha, h1, h2, hc⟩)
    · exact Or.inl rfl
    · refine Or.inr ⟨b, off, ha, h1, h2, fun j u hj => ?_⟩
      have hl : j < xs.length := by
        rw [← txCells_len xs]
        exact (List.getElem?_eq_some_iff.1 hj).1
      rw [txCells_at xs j hl] at hj
      rw [← Option.some.inj hj]
      exact hc j hl
  · rintro (h | ⟨b, off, ha, h1, h2, hc⟩)
    · refine Or.inl (List.length_eq_zero_iff.1 ?_)
      rw [← txCells_len xs, h]; rfl
    · exact Or.inr ⟨b, off, ha, h1, h2, fun j hj => hc j _ (txCells_at xs j hj)⟩
theorem intCells_len (l : List Int) : (intCells l).length = l.length := by unfold intCells; simp
theorem ints_rw {B : Nat} {w : World} {a : Option Addr} {xs : List Int} : Ints B w a xs ↔ Rw 0 B w a (intCells xs) := by
  constructor
  · rintro (rfl | ⟨b, off, ha, h2, hc⟩)
    · exact Or.inl rfl
    · refine Or.inr ⟨b, off, ha, Nat.zero_le _, h2, fun j u hj => ?_⟩
      have hl : j < xs.length := by
        rw [← intCells_len xs]
        exact (List.getElem?_eq_some_iff.1 hj).1
      rw [intCells_at xs j hl] at hj
      rw [← Option.some.inj hj]
      exact hc j hl
  · rintro (h | ⟨b, off, ha, h1, h2, hc⟩)
    · refine Or.inl (List.length_eq_zero_iff.1 ?_)
      rw [← intCells_len xs, h]; rfl
    · exact Or.inr ⟨b, off, ha, h2, fun j hj => hc j _ (intCells_at xs j hj)⟩

theorem own_base {w : World} {B B' n : Nat} {e : TypeId} {v : Value} {cs : List Value} (h : w.ownsRow B e 1 v n cs) (hb : B' ≤ B) : w.ownsRow B' e 1 v n cs :=
  ⟨h.1, h.2.imp id fun ⟨g, cap, cur, h1, h2, h3⟩ => ⟨g, cap, cur, h1, Nat.le_trans hb h2, h3⟩⟩

/-! Cut. -/
theorem row_from {t : TypeId} (ht : Try.prog.underlying t = some (.slice (Try.prog.elem t))) (hs : ∀ w, (Go.sizeOf (Try.prog.elem t)).run Try.prog w = .ok 1 w) (a : Option Addr) (n cap p : Nat) (hp : p ≤ n) (hn : n ≤ cap) :
    ∃ a', (∀ w, (Instr.slice t (.slice a n cap) (some (.int .i64 (p : Int))) none none).run Try.prog w = .ok (.slice a' (n - p) (cap - p)) w) ∧ ∀ A B w cs, cs.length = n → Rw A B w a cs → Rw A B w a' (cs.drop p) := by
  refine ⟨if cap = p then a else a.map (·.add (p * 1)), fun w => ?_, fun A B w cs hl h => ?_⟩
  · rw [run_slice_l w t a n cap ht .i64 (p : Int) (by omega) (by omega), hs]
    simp [Result.andThen, sliced]
  · split
    · exact Or.inl (List.drop_of_length_le (by omega))
    · rcases h with h | ⟨b, off, rfl, h1, h2, hc⟩
      · subst h; exact Or.inl (by simp)
      · refine Or.inr ⟨b, off + p, ?_, h1, h2, fun j u hj => ?_⟩
        · simp only [Option.map_some, Addr.add, Nat.mul_one]
          split <;> simp_all
        · rw [List.getElem?_drop] at hj
          rw [Nat.add_assoc]
          exact hc _ u hj
theorem row_to {t : TypeId} (ht : Try.prog.underlying t = some (.slice (Try.prog.elem t))) (hs : ∀ w, (Go.sizeOf (Try.prog.elem t)).run Try.prog w = .ok 1 w) (a : Option Addr) (n cap p : Nat) (hp : p ≤ n) (hn : n ≤ cap) (w : World) :
    (Instr.slice t (.slice a n cap) none (some (.int .i64 (p : Int))) none).run Try.prog w = .ok (.slice a p cap) w := by
  rw [run_slice_h w t a n cap ht .i64 (p : Int) (by omega) (by omega), hs]
  cases a <;> simp [Result.andThen, sliced, Addr.add]
theorem row_full {t : TypeId} (ht : Try.prog.underlying t = some (.slice (Try.prog.elem t))) (hs : ∀ w, (Go.sizeOf (Try.prog.elem t)).run Try.prog w = .ok 1 w) (a : Option Addr) (n cap p : Nat) (hp : p ≤ n) (hn : n ≤ cap) (w : World) :
    (Instr.slice t (.slice a n cap) none (some (.int .i64 (p : Int))) (some (.int .i64 (p : Int)))).run Try.prog w = .ok (.slice a p p) w := by
  rw [run_slice_hm w t a n cap ht .i64 .i64 (p : Int) (p : Int) (by omega) (by omega) (by omega), hs]
  cases a <;> simp [Result.andThen, sliced, Addr.add]
theorem Rw.take {A B : Nat} {w : World} {a : Option Addr} {cs : List Value} (h : Rw A B w a cs) (p : Nat) : Rw A B w a (cs.take p) := by
  rcases h with h | ⟨b, off, ha, h1, h2, hc⟩
  · subst h; exact Or.inl (by simp)
  · refine Or.inr ⟨b, off, ha, h1, h2, fun j u hj => ?_⟩
    rw [List.getElem?_take] at hj
    split at hj
    · exact hc j u hj
    · cases hj

/-! Appended. -/
theorem run_append_nothing {t ty e : TypeId} {i : TypeInfo} (ht : Try.prog.underlying t = some (.slice e)) (hi : Try.prog.info? e = some i) (ao a : Option Addr) (n cap c : Nat) (hn : n ≤ cap) (w : World) :
    (Builtin.append_ #[t, t] ty #[.slice ao n cap, .slice a 0 c]).run Try.prog w = .ok (.slice ao n cap) w := by
  cases ao <;> cases a <;> simp [Builtin.append_, run_underlying ht, Go.sizeOf, typeInfo, hi, Builtin.lenOf, Builtin.firstCells, loadCells, loadCellsFrom, storeCells, hn]
theorem wp_append_rw {o : Oper} {a : Act} {K : Act → World → Prop} {Q : Exit → Act → World → Prop} {w : World} (s x : Operand) {t e : TypeId} {z : Value} {bytes : Nat}
    (ht : Try.prog.underlying t = some (.slice e)) (hinfo : (Try.prog.info? e).map (fun i => (i.zero, i.size, i.bytes)) = some (some z, 1, bytes)) (hzc : z.cells.size = 1)
    (ho : o.op = .call { callee := .builtin .append, args := #[s, x], argTypes := #[t, t] })
    (B n : Nat) (v : Value) (cs ds : List Value) (hs : a.eval s = v) (hown : w.ownsRow B e 1 v n cs) (ao : Option Addr) (m c A' B' : Nat) (hx : a.eval x = .slice ao m c) (hm : ds.length = m) (hd : Rw A' B' w ao ds) (h1 : ∀ u ∈ ds, u.oneCell' = true)
    (hn : n + m ≤ 1000000) (hb : bytes ≤ 1000000) (hB : B ≤ w.heap.size)
    (h : ∀ v' w', w'.ownsRow B e 1 v' (n + m) (cs ++ ds) → w.grownBy w' v.ownBlock → K (a.put o.dst v') w') :
    o.wp Try.prog a w K Q := by
  obtain ⟨i0, hi, hz0, hz1, hz2⟩ := info_parts hinfo
  rcases hd with rfl | ⟨b, off, rfl, _, _, hc⟩
  · obtain rfl : m = 0 := by rw [← hm]; rfl
    obtain ⟨av, cap, rfl, hcap, _, _⟩ := rw_own hown
    have hr := run_append_nothing (ty := o.type) ht hi av ao n cap c hcap w
    unfold Oper.wp execOp
    simp only [ho, resolve, invoke, builtin, Sem.run_bind, Sem.run_pure, Result.andThen_ok, List.map_toArray, List.map_cons, List.map_nil, hs, hx, hr]
    refine h _ w ?_ ⟨rfl, rfl, rfl, Nat.le_refl _, fun _ _ _ => rfl⟩
    rw [List.append_nil]
    exact hown
  · have hb2 : (n + m) * bytes ≤ 140737488355328 := Nat.le_trans (Nat.mul_le_mul hn hb) (by decide)
    refine wp_append_own _ s x t ho B e i0 z 1 bytes ht hi hz0 hz1 hz2 hzc (by decide) v n cs hs hown ⟨b, off, none⟩ m c ds hx (by omega) ?_ h1 (by unfold maxLen; omega) hb2 hB fun v' w' h1 h2 _ => h v' w' h1 h2
    intro j u hj
    have := hc j u hj
    rcases Nat.eq_zero_or_pos j with hj0 | hj0
    · subst hj0; simpa [Addr.add] using this
    · simpa [Addr.add, Nat.ne_of_gt hj0] using this
theorem append_rw {ops : Array Oper} {rest : List Oper} {o : Oper} {a : Act} {Q : Exit → Act → World → Prop} {w : World} (hgd : o.guard = none) (s x : Operand) {t e : TypeId} {z : Value} {bytes : Nat}
    (ht : Try.prog.underlying t = some (.slice e)) (hinfo : (Try.prog.info? e).map (fun i => (i.zero, i.size, i.bytes)) = some (some z, 1, bytes)) (hzc : z.cells.size = 1)
    (ho : o.op = .call { callee := .builtin .append, args := #[s, x], argTypes := #[t, t] })
    (B n : Nat) (v : Value) (cs ds : List Value) (hs : a.eval s = v) (hown : w.ownsRow B e 1 v n cs) (ao : Option Addr) (m c A' B' : Nat) (hx : a.eval x = .slice ao m c) (hm : ds.length = m) (hd : Rw A' B' w ao ds) (h1 : ∀ u ∈ ds, u.oneCell' = true)
    (hn : n + m ≤ 1000000) (hb : bytes ≤ 1000000) (hB : B ≤ w.heap.size)
    (h : ∀ v' w', w'.ownsRow B e 1 v' (n + m) (cs ++ ds) → w.grownBy w' v.ownBlock → wpList Try.prog ops Q rest (a.put o.dst v') w') :
    wpList Try.prog ops Q (o :: rest) a w :=
  wpList_plain hgd fun _ hK => wp_append_rw s x ht hinfo hzc ho B n v cs ds hs hown ao m c A' B' hx hm hd h1 hn hb hB fun v' w' h2 h3 => hK _ _ (h v' w' h2 h3)
/-- As a step of a region that draws its order. -/
theorem step_append_rw {ops : Array Oper} {o : Oper} {a : Act} {K : Act → World → Prop} {Q : Exit → Act → World → Prop} {w : World} {E : Prop} (hgd : o.guard = none) (s x : Operand) {t e : TypeId} {z : Value} {bytes : Nat}
    (ht : Try.prog.underlying t = some (.slice e)) (hinfo : (Try.prog.info? e).map (fun i => (i.zero, i.size, i.bytes)) = some (some z, 1, bytes)) (hzc : z.cells.size = 1)
    (ho : o.op = .call { callee := .builtin .append, args := #[s, x], argTypes := #[t, t] })
    (B n : Nat) (v : Value) (cs ds : List Value) (hs : a.eval s = v) (hown : w.ownsRow B e 1 v n cs) (ao : Option Addr) (m c A' B' : Nat) (hx : a.eval x = .slice ao m c) (hm : ds.length = m) (hd : Rw A' B' w ao ds) (h1 : ∀ u ∈ ds, u.oneCell' = true)
    (hn : n + m ≤ 1000000) (hb : bytes ≤ 1000000) (hB : B ≤ w.heap.size)
    (h : ∀ v' w', w'.ownsRow B e 1 v' (n + m) (cs ++ ds) → w.grownBy w' v.ownBlock → K (a.put o.dst v') w') :
    if Region.wanted o (yielded ops a.tmps) = true then Oper.wp Try.prog o a w K Q else E := by
  have hw : Region.wanted o (yielded ops a.tmps) = true := by simp [Region.wanted, hgd]
  rw [if_pos hw]
  exact wp_append_rw s x ht hinfo hzc ho B n v cs ds hs hown ao m c A' B' hx hm hd h1 hn hb hB h
/-- Onto a slice that is full: the row is a new one. -/
theorem append_full {ops : Array Oper} {rest : List Oper} {o : Oper} {a : Act} {Q : Exit → Act → World → Prop} {w : World} (hgd : o.guard = none) (s x : Operand) {t e : TypeId} {z : Value} {bytes : Nat}
    (ht : Try.prog.underlying t = some (.slice e)) (hinfo : (Try.prog.info? e).map (fun i => (i.zero, i.size, i.bytes)) = some (some z, 1, bytes)) (hzc : z.cells.size = 1)
    (ho : o.op = .call { callee := .builtin .append, args := #[s, x], argTypes := #[t, t] })
    (A B n : Nat) (cs : List Value) (ao : Option Addr) (hs : a.eval s = .slice ao n n) (hl : cs.length = n) (hown : Rw A B w ao cs) (u : Value) (g : Nat) (hx : a.eval x = .slice (some ⟨g, 0, none⟩) 1 1) (hg : w.cell? ⟨g, 0, none⟩ = some u) (h1 : u.oneCell' = true)
    (hn : n + 1 ≤ 1000000) (hb : bytes ≤ 1000000)
    (h : ∀ v' w', w'.ownsRow w.heap.size e 1 v' (n + 1) (cs ++ [u]) → w.grownBy w' none → wpList Try.prog ops Q rest (a.put o.dst v') w') :
    wpList Try.prog ops Q (o :: rest) a w := by
  obtain ⟨i0, hi, hz0, hz1, hz2⟩ := info_parts hinfo
  have hb2 : (n + 1) * bytes ≤ 140737488355328 := Nat.le_trans (Nat.mul_le_mul hn hb) (by decide)
  refine wpList_plain hgd fun K hK => ?_
  have fin : ∀ v' w', (Builtin.append_ #[t, t] o.type #[.slice ao n n, .slice (some ⟨g, 0, none⟩) 1 1]).run Try.prog w = .ok v' w' → w'.ownsRow w.heap.size e 1 v' (n + 1) (cs ++ [u]) → w.grownBy w' none → o.wp Try.prog a w K Q := by
    intro v' w' hr q1 q2
    unfold Oper.wp execOp
    simp only [ho, resolve, invoke, builtin, Sem.run_bind, Sem.run_pure, Result.andThen_ok, List.map_toArray, List.map_cons, List.map_nil, hs, hx, hr]
    exact hK _ _ (h v' w' q1 q2)
  have hnew : ∀ j y, [u][j]? = some y → w.cell? ((⟨g, 0, none⟩ : Addr).add j) = some y := by
    intro j y hj
    match j, hj with
    | 0, hj => simp at hj; subst hj; simpa [Addr.add] using hg
  have hone : ∀ y ∈ [u], y.oneCell' = true := by intro y hy; simp at hy; subst hy; exact h1
  rcases Nat.eq_zero_or_pos n with h0 | h0
  · subst h0
    obtain rfl : cs = [] := List.length_eq_zero_iff.1 hl
    cases ao with
    | none =>
      obtain ⟨v', w', hr, r1, r2, _⟩ := run_append_own (P := Try.prog) w w.heap.size t o.type e i0 z 1 bytes ht hi hz0 hz1 hz2 hzc (by decide) (.slice none 0 0) 0 [] (World.ownsRow_nil w _ e 1) ⟨g, 0, none⟩ 1 1 [u] rfl hnew hone (by unfold maxLen; omega) hb2 (Nat.le_refl _)
      exact fin v' w' hr r1 r2
    | some b =>
      obtain ⟨v', w', hr, r1, r2⟩ := run_append_arg_grows (P := Try.prog) w t o.type e i0 z 1 bytes ht hi hz0 hz1 hz2 hzc (by decide) b 0 0 [] rfl (fun j y hj => by cases hj) ⟨g, 0, none⟩ 1 1 [u] rfl hnew (by omega) (by unfold maxLen; omega) hb2
      exact fin v' w' hr r1 r2
  · rcases hown with rfl | ⟨b, off, rfl, _, _, hc⟩
    · simp at hl; omega
    · obtain ⟨v', w', hr, r1, r2⟩ := run_append_arg_grows (P := Try.prog) w t o.type e i0 z 1 bytes ht hi hz0 hz1 hz2 hzc (by decide) ⟨b, off, none⟩ n n cs (by omega) (fun j y hj => by rw [Addr.add_lit]; exact hc j y hj) ⟨g, 0, none⟩ 1 1 [u] rfl hnew (by omega) (by unfold maxLen; omega) hb2
      exact fin v' w' hr r1 r2
end Go.Proofs.Ytkefbgjbgblalaa
