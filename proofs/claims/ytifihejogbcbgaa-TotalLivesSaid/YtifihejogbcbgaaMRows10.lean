/- Rows of texts of the call's own, said by their lists of bytes: appended to, read, cut short, and two of them compared by the document's own SameTexts. -/
import Derived.Test.YtifihejogbcbgaaInts
import Derived.Test.YtifihejogbcbgaaMSameInts
import Derived.Deep.QuietTactic
import Derived.BigQuiet
import Derived.ArgAppend
import Derived.Deep.RegionWith
import Derived.Lib.Slices
namespace Go.Proofs.Ytifihejogbcbgaa
open Go.RowKit

def tx (l : List UInt8) : ByteArray := ⟨l.toArray⟩
theorem tx_list (l : List UInt8) : (tx l).data.toList = l := by unfold tx; simp
theorem tx_of {t : ByteArray} {l : List UInt8} (h : t.data.toList = l) : t = tx l := text_eq (h.trans (tx_list l).symm)
theorem tx_size (l : List UInt8) : (tx l).size = l.length := by rw [← text_size, tx_list]
def rowAt (xs : List (List UInt8)) (j : Nat) : List UInt8 := xs.getD j []
def txCells (xs : List (List UInt8)) : List Value := xs.map fun x => .string (tx x)
theorem infoTx : (Try.prog.info? 9).map (fun i => (i.zero, i.size, i.bytes)) = some (some (.string ⟨#[]⟩), 1, 16) := by kernel_rfl
theorem txCells_at (l : List (List UInt8)) (j : Nat) (hj : j < l.length) : (txCells l)[j]? = some (.string (tx (rowAt l j))) := by
  unfold txCells rowAt
  rw [List.getElem?_map, List.getElem?_eq_getElem hj, List.getD_eq_getElem?_getD, List.getElem?_eq_getElem hj]
  rfl
theorem txCells_more (l : List (List UInt8)) (x : List UInt8) : txCells l ++ [.string (tx x)] = txCells (l ++ [x]) := by unfold txCells; simp
theorem txCells_len (l : List (List UInt8)) : (txCells l).length = l.length := by unfold txCells; simp
theorem rowAt_left (l m : List (List UInt8)) (j : Nat) (hj : j < l.length) : rowAt (l ++ m) j = rowAt l j := by
  unfold rowAt
  rw [List.getD_eq_getElem?_getD, List.getD_eq_getElem?_getD, List.getElem?_append_left hj]
theorem rowAt_last (l : List (List UInt8)) (x : List UInt8) : rowAt (l ++ [x]) l.length = x := by
  unfold rowAt
  rw [List.getD_eq_getElem?_getD, List.getElem?_append_right (Nat.le_refl _), Nat.sub_self]
  rfl
/-- A slice of just these texts, its row lying from block A on and below block B. -/
def Txs (A B : Nat) (w : World) (a : Option Addr) (xs : List (List UInt8)) : Prop :=
  xs = [] ∨ ∃ b off, a = some ⟨b, off, none⟩ ∧ A ≤ b ∧ b < B ∧ ∀ j, j < xs.length → w.cell? ⟨b, off + j, none⟩ = some (.string (tx (rowAt xs j)))
theorem Txs.below {A B : Nat} {w w' : World} {a : Option Addr} {xs : List (List UInt8)} (h : Txs A B w a xs) (hb : Below B w w') : Txs A B w' a xs := by
  rcases h with h | ⟨b, off, ha, hA, hB, hc⟩
  · exact Or.inl h
  · exact Or.inr ⟨b, off, ha, hA, hB, fun j hj => (hb.cell (p := ⟨b, off + j, none⟩) hB).trans (hc j hj)⟩
theorem Txs.wide {A A' B B' : Nat} {w : World} {a : Option Addr} {xs : List (List UInt8)} (h : Txs A B w a xs) (hA : A' ≤ A) (hB : B ≤ B') : Txs A' B' w a xs := by
  rcases h with h | ⟨b, off, ha, h1, h2, hc⟩
  · exact Or.inl h
  · exact Or.inr ⟨b, off, ha, by omega, by omega, hc⟩
theorem Txs.step {A : Nat} {w w' : World} {a : Option Addr} {xs : List (List UInt8)} (h : Txs A w.heap.size w a xs) (b : Below w.heap.size w w') : Txs A w'.heap.size w' a xs := (h.below b).wide (Nat.le_refl _) b.size
/-- The slice cut short. -/
theorem Txs.short {A B : Nat} {w : World} {a : Option Addr} {xs ys : List (List UInt8)} (h : Txs A B w a (xs ++ ys)) : Txs A B w a xs := by
  rcases h with h | ⟨b, off, ha, h1, h2, hc⟩
  · exact Or.inl (List.append_eq_nil_iff.1 h).1
  · exact Or.inr ⟨b, off, ha, h1, h2, fun j hj => by rw [hc j (by rw [List.length_append]; omega), rowAt_left _ _ _ hj]⟩
theorem txs_own {w : World} {B : Nat} {v : Value} {l : List (List UInt8)} (h : w.ownsRow B 9 1 v l.length (txCells l)) : ∃ a cap, v = .slice a l.length cap ∧ l.length ≤ cap ∧ Txs B w.heap.size w a l := by
  have h2 := h.2
  rcases h2 with ⟨rfl, h0⟩ | ⟨g, cap, cur, rfl, _, _, hcap, _⟩
  · exact ⟨none, 0, by rw [h0], by omega, Or.inl (List.length_eq_zero_iff.1 h0)⟩
  · refine ⟨_, cap, rfl, hcap, Or.inr ⟨g, 0, rfl, (h.lt g rfl).1, (h.lt g rfl).2, fun j hj => ?_⟩⟩
    have hc := h.cells (g := g) rfl j _ (txCells_at l j hj)
    rcases Nat.eq_zero_or_pos j with hj0 | hj0
    · subst hj0; simpa [Addr.add] using hc
    · simpa [Addr.add, Nat.ne_of_gt hj0] using hc
end Go.Proofs.Ytifihejogbcbgaa
namespace Go.Proofs.Ytifihejogbcbgaa
open Go.RowKit

/-- A slice of just these cells, its row lying from block A on and below block B. -/
def Rw (A B : Nat) (w : World) (a : Option Addr) (cs : List Value) : Prop :=
  cs = [] ∨ ∃ b off, a = some ⟨b, off, none⟩ ∧ A ≤ b ∧ b < B ∧ ∀ j u, cs[j]? = some u → w.cell? ⟨b, off + j, none⟩ = some u
theorem Rw.below {A B : Nat} {w w' : World} {a : Option Addr} {cs : List Value} (h : Rw A B w a cs) (hb : Below B w w') : Rw A B w' a cs := by
  rcases h with h | ⟨b, off, ha, hA, hB, hc⟩
  · exact Or.inl h
  · exact Or.inr ⟨b, off, ha, hA, hB, fun j u hj => (hb.cell (p := ⟨b, off + j, none⟩) hB).trans (hc j u hj)⟩
theorem Rw.wide {A A' B B' : Nat} {w : World} {a : Option Addr} {cs : List Value} (h : Rw A B w a cs) (hA : A' ≤ A) (hB : B ≤ B') : Rw A' B' w a cs := by
  rcases h with h | ⟨b, off, ha, h1, h2, hc⟩
  · exact Or.inl h
  · exact Or.inr ⟨b, off, ha, by omega, by omega, hc⟩
theorem Rw.step {A : Nat} {w w' : World} {a : Option Addr} {cs : List Value} (h : Rw A w.heap.size w a cs) (b : Below w.heap.size w w') : Rw A w'.heap.size w' a cs := (h.below b).wide (Nat.le_refl _) b.size
/-- The world behind a change of a row that is the call's own. -/
theorem Rw.grown {A B : Nat} {w w' : World} {a : Option Addr} {cs : List Value} {row : Option Nat} (h : Rw A B w a cs) (hg : w.grownBy w' row) (hr : ∀ k, row = some k → B ≤ k) : Rw A B w' a cs := by
  rcases h with h | ⟨b, off, ha, h1, h2, hc⟩
  · exact Or.inl h
  · exact Or.inr ⟨b, off, ha, h1, h2, fun j u hj => hg.cell (hc j u hj) (fun e => by have := hr b e.symm; omega)⟩
theorem rw_own {w : World} {B n : Nat} {e : TypeId} {v : Value} {cs : List Value} (h : w.ownsRow B e 1 v n cs) : ∃ a cap, v = .slice a n cap ∧ n ≤ cap ∧ cs.length = n ∧ Rw B w.heap.size w a cs := by
  have hl : cs.length = n := by have := h.1; omega
  have h2 := h.2
  rcases h2 with ⟨rfl, h0⟩ | ⟨g, cap, cur, rfl, _, _, hcap, _⟩
  · exact ⟨none, 0, by rw [h0], by omega, hl, Or.inl (List.length_eq_zero_iff.1 (by omega))⟩
  · refine ⟨_, cap, rfl, hcap, hl, Or.inr ⟨g, 0, rfl, (h.lt g rfl).1, (h.lt g rfl).2, fun j u hj => ?_⟩⟩
    have hc := h.cells (g := g) rfl j u hj
    rcases Nat.eq_zero_or_pos j with hj0 | hj0
    · subst hj0; simpa [Addr.add] using hc
    · simpa [Addr.add, Nat.ne_of_gt hj0] using hc
theorem txs_rw {A B : Nat} {w : World} {a : Option Addr} {xs : List (List UInt8)} : Txs A B w a xs ↔ Rw A B w a (txCells xs) := by
  constructor
  · rintro (rfl | ⟨b, off, ha, h1, h2, hc⟩)
    · exact Or.inl rfl
    · refine Or.inr ⟨b, off, ha, h1, h2, fun j u hj => ?_⟩
      have hl : j < xs.length := by
        rw [← txCells_len xs]
        exact (List.getElem?_eq_some_iff.1 hj).1
      rw [txCells_at xs j hl] at hj
      rw [← Option.some.inj hj]
      exact hc j hl
  · rintro (h | ⟨b, off, ha, h1, h2, hc⟩)
    · refine Or.inl (List.length_eq_zero_iff.1 ?_)
      rw [← txCells_len xs, h]; rfl
    · exact Or.inr ⟨b, off, ha, h1, h2, fun j hj => hc j _ (txCells_at xs j hj)⟩
theorem intCells_len (l : List Int) : (intCells l).length = l.length := by unfold intCells; simp
theorem ints_rw {B : Nat} {w : World} {a : Option Addr} {xs : List Int} : Ints B w a xs ↔ Rw 0 B w a (intCells xs) := by
  constructor
  · rintro (rfl | ⟨b, off, ha, h2, hc⟩)
    · exact Or.inl rfl
    · refine Or.inr ⟨b, off, ha, Nat.zero_le _, h2, fun j u hj => ?_⟩
      have hl : j < xs.length := by
        rw [← intCells_len xs]
        exact (List.getElem?_eq_some_iff.1 hj).1
      rw [intCells_at xs j hl] at hj
      rw [← Option.some.inj hj]
      exact hc j hl
  · rintro (h | ⟨b, off, ha, h1, h2, hc⟩)
    · refine Or.inl (List.length_eq_zero_iff.1 ?_)
      rw [← intCells_len xs, h]; rfl
    · exact Or.inr ⟨b, off, ha, h2, fun j hj => hc j _ (intCells_at xs j hj)⟩

theorem own_base {w : World} {B B' n : Nat} {e : TypeId} {v : Value} {cs : List Value} (h : w.ownsRow B e 1 v n cs) (hb : B' ≤ B) : w.ownsRow B' e 1 v n cs :=
  ⟨h.1, h.2.imp id fun ⟨g, cap, cur, h1, h2, h3⟩ => ⟨g, cap, cur, h1, Nat.le_trans hb h2, h3⟩⟩

/-! Cut. -/
theorem row_from {t : TypeId} (ht : Try.prog.underlying t = some (.slice (Try.prog.elem t))) (hs : ∀ w, (Go.sizeOf (Try.prog.elem t)).run Try.prog w = .ok 1 w) (a : Option Addr) (n cap p : Nat) (hp : p ≤ n) (hn : n ≤ cap) :
    ∃ a', (∀ w, (Instr.slice t (.slice a n cap) (some (.int .i64 (p : Int))) none none).run Try.prog w = .ok (.slice a' (n - p) (cap - p)) w) ∧ ∀ A B w cs, cs.length = n → Rw A B w a cs → Rw A B w a' (cs.drop p) := by
  refine ⟨if cap = p then a else a.map (·.add (p * 1)), fun w => ?_, fun A B w cs hl h => ?_⟩
  · rw [run_slice_l w t a n cap ht .i64 (p : Int) (by omega) (by omega), hs]
    simp [Result.andThen, sliced]
  · split
    · exact Or.inl (List.drop_of_length_le (by omega))
    · rcases h with h | ⟨b, off, rfl, h1, h2, hc⟩
      · subst h; exact Or.inl (by simp)
      · refine Or.inr ⟨b, off + p, ?_, h1, h2, fun j u hj => ?_⟩
        · simp only [Option.map_some, Addr.add, Nat.mul_one]
          split <;> simp_all
        · rw [List.getElem?_drop] at hj
          rw [Nat.add_assoc]
          exact hc _ u hj
theorem row_to {t : TypeId} (ht : Try.prog.underlying t = some (.slice (Try.prog.elem t))) (hs : ∀ w, (Go.sizeOf (Try.prog.elem t)).run Try.prog w = .ok 1 w) (a : Option Addr) (n cap p : Nat) (hp : p ≤ n) (hn : n ≤ cap) (w : World) :
    (Instr.slice t (.slice a n cap) none (some (.int .i64 (p : Int))) none).run Try.prog w = .ok (.slice a p cap) w := by
  rw [run_slice_h w t a n cap ht .i64 (p : Int) (by omega) (by omega), hs]
  cases a <;> simp [Result.andThen, sliced, Addr.add]
theorem row_full {t : TypeId} (ht : Try.prog.underlying t = some (.slice (Try.prog.elem t))) (hs : ∀ w, (Go.sizeOf (Try.prog.elem t)).run Try.prog w = .ok 1 w) (a : Option Addr) (n cap p : Nat) (hp : p ≤ n) (hn : n ≤ cap) (w : World) :
    (Instr.slice t (.slice a n cap) none (some (.int .i64 (p : Int))) (some (.int .i64 (p : Int)))).run Try.prog w = .ok (.slice a p p) w := by
  rw [run_slice_hm w t a n cap ht .i64 .i64 (p : Int) (p : Int) (by omega) (by omega) (by omega), hs]
  cases a <;> simp [Result.andThen, sliced, Addr.add]
theorem Rw.take {A B : Nat} {w : World} {a : Option Addr} {cs : List Value} (h : Rw A B w a cs) (p : Nat) : Rw A B w a (cs.take p) := by
  rcases h with h | ⟨b, off, ha, h1, h2, hc⟩
  · subst h; exact Or.inl (by simp)
  · refine Or.inr ⟨b, off, ha, h1, h2, fun j u hj => ?_⟩
    rw [List.getElem?_take] at hj
    split at hj
    · exact hc j u hj
    · cases hj

/-! Appended. -/
theorem run_append_nothing {t ty e : TypeId} {i : TypeInfo} (ht : Try.prog.underlying t = some (.slice e)) (hi : Try.prog.info? e = some i) (ao a : Option Addr) (n cap c : Nat) (hn : n ≤ cap) (w : World) :
    (Builtin.append_ #[t, t] ty #[.slice ao n cap, .slice a 0 c]).run Try.prog w = .ok (.slice ao n cap) w := by
  cases ao <;> cases a <;> simp [Builtin.append_, run_underlying ht, Go.sizeOf, typeInfo, hi, Builtin.lenOf, Builtin.firstCells, loadCells, loadCellsFrom, storeCells, hn]
theorem wp_append_rw {o : Oper} {a : Act} {K : Act → World → Prop} {Q : Exit → Act → World → Prop} {w : World} (s x : Operand) {t e : TypeId} {z : Value} {bytes : Nat}
    (ht : Try.prog.underlying t = some (.slice e)) (hinfo : (Try.prog.info? e).map (fun i => (i.zero, i.size, i.bytes)) = some (some z, 1, bytes)) (hzc : z.cells.size = 1)
    (ho : o.op = .call { callee := .builtin .append, args := #[s, x], argTypes := #[t, t] })
    (B n : Nat) (v : Value) (cs ds : List Value) (hs : a.eval s = v) (hown : w.ownsRow B e 1 v n cs) (ao : Option Addr) (m c A' B' : Nat) (hx : a.eval x = .slice ao m c) (hm : ds.length = m) (hd : Rw A' B' w ao ds) (h1 : ∀ u ∈ ds, u.oneCell' = true)
    (hn : n + m ≤ 1000000) (hb : bytes ≤ 1000000) (hB : B ≤ w.heap.size)
    (h : ∀ v' w', w'.ownsRow B e 1 v' (n + m) (cs ++ ds) → w.grownBy w' v.ownBlock → K (a.put o.dst v') w') :
    o.wp Try.prog a w K Q := by
  obtain ⟨i0, hi, hz0, hz1, hz2⟩ := info_parts hinfo
  rcases hd with rfl | ⟨b, off, rfl, _, _, hc⟩
  · obtain rfl : m = 0 := by rw [← hm]; rfl
    obtain ⟨av, cap, rfl, hcap, _, _⟩ := rw_own hown
    have hr := run_append_nothing (ty := o.type) ht hi av ao n cap c hcap w
    unfold Oper.wp execOp
    simp only [ho, resolve, invoke, builtin, Sem.run_bind, Sem.run_pure, Result.andThen_ok, List.map_toArray, List.map_cons, List.map_nil, hs, hx, hr]
    refine h _ w ?_ ⟨rfl, rfl, rfl, Nat.le_refl _, fun _ _ _ => rfl⟩
    rw [List.append_nil]
    exact hown
  · have hb2 : (n + m) * bytes ≤ 140737488355328 := Nat.le_trans (Nat.mul_le_mul hn hb) (by decide)
    refine wp_append_own _ s x t ho B e i0 z 1 bytes ht hi hz0 hz1 hz2 hzc (by decide) v n cs hs hown ⟨b, off, none⟩ m c ds hx (by omega) ?_ h1 (by unfold maxLen; omega) hb2 hB fun v' w' h1 h2 _ => h v' w' h1 h2
    intro j u hj
    have := hc j u hj
    rcases Nat.eq_zero_or_pos j with hj0 | hj0
    · subst hj0; simpa [Addr.add] using this
    · simpa [Addr.add, Nat.ne_of_gt hj0] using this
theorem append_rw {ops : Array Oper} {rest : List Oper} {o : Oper} {a : Act} {Q : Exit → Act → World → Prop} {w : World} (hgd : o.guard = none) (s x : Operand) {t e : TypeId} {z : Value} {bytes : Nat}
    (ht : Try.prog.underlying t = some (.slice e)) (hinfo : (Try.prog.info? e).map (fun i => (i.zero, i.size, i.bytes)) = some (some z, 1, bytes)) (hzc : z.cells.size = 1)
    (ho : o.op = .call { callee := .builtin .append, args := #[s, x], argTypes := #[t, t] })
    (B n : Nat) (v : Value) (cs ds : List Value) (hs : a.eval s = v) (hown : w.ownsRow B e 1 v n cs) (ao : Option Addr) (m c A' B' : Nat) (hx : a.eval x = .slice ao m c) (hm : ds.length = m) (hd : Rw A' B' w ao ds) (h1 : ∀ u ∈ ds, u.oneCell' = true)
    (hn : n + m ≤ 1000000) (hb : bytes ≤ 1000000) (hB : B ≤ w.heap.size)
    (h : ∀ v' w', w'.ownsRow B e 1 v' (n + m) (cs ++ ds) → w.grownBy w' v.ownBlock → wpList Try.prog ops Q rest (a.put o.dst v') w') :
    wpList Try.prog ops Q (o :: rest) a w :=
  wpList_plain hgd fun _ hK => wp_append_rw s x ht hinfo hzc ho B n v cs ds hs hown ao m c A' B' hx hm hd h1 hn hb hB fun v' w' h2 h3 => hK _ _ (h v' w' h2 h3)
/-- As a step of a region that draws its order. -/
theorem step_append_rw {ops : Array Oper} {o : Oper} {a : Act} {K : Act → World → Prop} {Q : Exit → Act → World → Prop} {w : World} {E : Prop} (hgd : o.guard = none) (s x : Operand) {t e : TypeId} {z : Value} {bytes : Nat}
    (ht : Try.prog.underlying t = some (.slice e)) (hinfo : (Try.prog.info? e).map (fun i => (i.zero, i.size, i.bytes)) = some (some z, 1, bytes)) (hzc : z.cells.size = 1)
    (ho : o.op = .call { callee := .builtin .append, args := #[s, x], argTypes := #[t, t] })
    (B n : Nat) (v : Value) (cs ds : List Value) (hs : a.eval s = v) (hown : w.ownsRow B e 1 v n cs) (ao : Option Addr) (m c A' B' : Nat) (hx : a.eval x = .slice ao m c) (hm : ds.length = m) (hd : Rw A' B' w ao ds) (h1 : ∀ u ∈ ds, u.oneCell' = true)
    (hn : n + m ≤ 1000000) (hb : bytes ≤ 1000000) (hB : B ≤ w.heap.size)
    (h : ∀ v' w', w'.ownsRow B e 1 v' (n + m) (cs ++ ds) → w.grownBy w' v.ownBlock → K (a.put o.dst v') w') :
    if Region.wanted o (yielded ops a.tmps) = true then Oper.wp Try.prog o a w K Q else E := by
  have hw : Region.wanted o (yielded ops a.tmps) = true := by simp [Region.wanted, hgd]
  rw [if_pos hw]
  exact wp_append_rw s x ht hinfo hzc ho B n v cs ds hs hown ao m c A' B' hx hm hd h1 hn hb hB h
/-- Onto a slice that is full: the row is a new one. -/
theorem append_full {ops : Array Oper} {rest : List Oper} {o : Oper} {a : Act} {Q : Exit → Act → World → Prop} {w : World} (hgd : o.guard = none) (s x : Operand) {t e : TypeId} {z : Value} {bytes : Nat}
    (ht : Try.prog.underlying t = some (.slice e)) (hinfo : (Try.prog.info? e).map (fun i => (i.zero, i.size, i.bytes)) = some (some z, 1, bytes)) (hzc : z.cells.size = 1)
    (ho : o.op = .call { callee := .builtin .append, args := #[s, x], argTypes := #[t, t] })
    (A B n : Nat) (cs : List Value) (ao : Option Addr) (hs : a.eval s = .slice ao n n) (hl : cs.length = n) (hown : Rw A B w ao cs) (u : Value) (g : Nat) (hx : a.eval x = .slice (some ⟨g, 0, none⟩) 1 1) (hg : w.cell? ⟨g, 0, none⟩ = some u) (h1 : u.oneCell' = true)
    (hn : n + 1 ≤ 1000000) (hb : bytes ≤ 1000000)
    (h : ∀ v' w', w'.ownsRow w.heap.size e 1 v' (n + 1) (cs ++ [u]) → w.grownBy w' none → wpList Try.prog ops Q rest (a.put o.dst v') w') :
    wpList Try.prog ops Q (o :: rest) a w := by
  obtain ⟨i0, hi, hz0, hz1, hz2⟩ := info_parts hinfo
  have hb2 : (n + 1) * bytes ≤ 140737488355328 := Nat.le_trans (Nat.mul_le_mul hn hb) (by decide)
  refine wpList_plain hgd fun K hK => ?_
  have fin : ∀ v' w', (Builtin.append_ #[t, t] o.type #[.slice ao n n, .slice (some ⟨g, 0, none⟩) 1 1]).run Try.prog w = .ok v' w' → w'.ownsRow w.heap.size e 1 v' (n + 1) (cs ++ [u]) → w.grownBy w' none → o.wp Try.prog a w K Q := by
    intro v' w' hr q1 q2
    unfold Oper.wp execOp
    simp only [ho, resolve, invoke, builtin, Sem.run_bind, Sem.run_pure, Result.andThen_ok, List.map_toArray, List.map_cons, List.map_nil, hs, hx, hr]
    exact hK _ _ (h v' w' q1 q2)
  have hnew : ∀ j y, [u][j]? = some y → w.cell? ((⟨g, 0, none⟩ : Addr).add j) = some y := by
    intro j y hj
    match j, hj with
    | 0, hj => simp at hj; subst hj; simpa [Addr.add] using hg
  have hone : ∀ y ∈ [u], y.oneCell' = true := by intro y hy; simp at hy; subst hy; exact h1
  rcases Nat.eq_zero_or_pos n with h0 | h0
  · subst h0
    obtain rfl : cs = [] := List.length_eq_zero_iff.1 hl
    cases ao with
    | none =>
      obtain ⟨v', w', hr, r1, r2, _⟩ := run_append_own (P := Try.prog) w w.heap.size t o.type e i0 z 1 bytes ht hi hz0 hz1 hz2 hzc (by decide) (.slice none 0 0) 0 [] (World.ownsRow_nil w _ e 1) ⟨g, 0, none⟩ 1 1 [u] rfl hnew hone (by unfold maxLen; omega) hb2 (Nat.le_refl _)
      exact fin v' w' hr r1 r2
    | some b =>
      obtain ⟨v', w', hr, r1, r2⟩ := run_append_arg_grows (P := Try.prog) w t o.type e i0 z 1 bytes ht hi hz0 hz1 hz2 hzc (by decide) b 0 0 [] rfl (fun j y hj => by cases hj) ⟨g, 0, none⟩ 1 1 [u] rfl hnew (by omega) (by unfold maxLen; omega) hb2
      exact fin v' w' hr r1 r2
  · rcases hown with rfl | ⟨b, off, rfl, _, _, hc⟩
    · simp at hl; omega
    · obtain ⟨v', w', hr, r1, r2⟩ := run_append_arg_grows (P := Try.prog) w t o.type e i0 z 1 bytes ht hi hz0 hz1 hz2 hzc (by decide) ⟨b, off, none⟩ n n cs (by omega) (fun j y hj => by rw [Addr.add_lit]; exact hc j y hj) ⟨g, 0, none⟩ 1 1 [u] rfl hnew (by omega) (by unfold maxLen; omega) hb2
      exact fin v' w' hr r1 r2
end Go.Proofs.Ytifihejogbcbgaa
namespace Go.Proofs.Ytifihejogbcbgaa

/-- What is wrong with the id at a place: its number, or that it does not rise. -/
def riseAt (l : List Int) (i : Nat) : Int := if numAt l i < 1 ∨ 999999 < numAt l i then 31 else if 0 < i ∧ numAt l i ≤ numAt l (i - 1) then 32 else 0
def riseTo (l : List Int) : Nat → Int
  | 0 => 0
  | k + 1 => if riseTo l k ≠ 0 then riseTo l k else riseAt l k
/-- What is told of ids: the first thing that is wrong, or nothing. -/
def risingE (l : List Int) : Int := riseTo l l.length
theorem rise_on {l : List Int} {k : Nat} (h : riseTo l k ≠ 0) (j : Nat) : riseTo l (k + j) = riseTo l k := by
  induction j with
  | zero => rfl
  | succ j ih => rw [← Nat.add_assoc, show riseTo l (k + j + 1) = if riseTo l (k + j) ≠ 0 then riseTo l (k + j) else riseAt l (k + j) from rfl, ih, if_pos h]
theorem rise_stop {l : List Int} {k : Nat} (hk : k < l.length) (h0 : riseTo l k = 0) (h1 : riseAt l k ≠ 0) : risingE l = riseAt l k := by
  have e : riseTo l (k + 1) = riseAt l k := by unfold riseTo; rw [if_neg (by omega)]
  have := rise_on (l := l) (k := k + 1) (by rw [e]; exact h1) (l.length - (k + 1))
  rw [e, show k + 1 + (l.length - (k + 1)) = l.length by omega] at this
  exact this
theorem rise_step {l : List Int} {k : Nat} (h0 : riseTo l k = 0) (h1 : riseAt l k = 0) : riseTo l (k + 1) = 0 := by
  unfold riseTo
  rw [if_neg (by omega), h1]
/-- Each id is in its limits, and greater than the one before it. -/
def Rises (l : List Int) : Prop := ∀ i, i < l.length → (1 ≤ numAt l i ∧ numAt l i ≤ 999999) ∧ (0 < i → numAt l (i - 1) < numAt l i)
theorem rise_to {l : List Int} {k : Nat} : riseTo l k = 0 ↔ ∀ i, i < k → (1 ≤ numAt l i ∧ numAt l i ≤ 999999) ∧ (0 < i → numAt l (i - 1) < numAt l i) := by
  induction k with
  | zero => exact ⟨fun _ i hi => absurd hi (by omega), fun _ => rfl⟩
  | succ k ih =>
    constructor
    · intro h i hi
      have h0 : riseTo l k = 0 := by
        unfold riseTo at h
        by_cases q : riseTo l k = 0
        · exact q
        · rw [if_pos q] at h; exact h
      have h1 : riseAt l k = 0 := by
        unfold riseTo at h
        rw [if_neg (by omega)] at h
        exact h
      rcases (by omega : i < k ∨ i = k) with q | q
      · exact ih.1 h0 i q
      · subst q
        unfold riseAt at h1
        split at h1
        · omega
        · split at h1
          · omega
          · omega
    · intro h
      have h0 := ih.2 fun i hi => h i (by omega)
      have hk := h k (by omega)
      refine rise_step h0 ?_
      unfold riseAt
      rw [if_neg (by omega), if_neg]
      rintro ⟨a, b⟩
      have := hk.2 a
      omega
theorem rising_iff (l : List Int) : risingE l = 0 ↔ Rises l := rise_to
theorem rises_lt {l : List Int} (h : Rises l) {i j : Nat} (hij : i < j) (hj : j < l.length) : numAt l i < numAt l j := by
  induction j with
  | zero => omega
  | succ j ih =>
    have h1 := (h (j + 1) hj).2 (by omega)
    rw [Nat.add_sub_cancel] at h1
    rcases (by omega : i < j ∨ i = j) with q | q
    · have := ih q (by omega)
      omega
    · subst q; exact h1
/-- How many of the first ones stay where those that are greater go. -/
def lowTo (l : List Int) (id : Int) : Nat → Nat
  | 0 => 0
  | n + 1 => if id < numAt l n then lowTo l id n else n + 1
def hits (l : List Int) (id : Int) : Option Nat := l.findIdx? fun x => decide (x = id)
/-- Where an id is found, or would be; is it there? -/
def findN (l : List Int) (id : Int) : Nat := match hits l id with | some i => i | none => if risingE l = 0 then lowTo l id l.length else l.length
def findB13 (l : List Int) (id : Int) : Bool := (hits l id).isSome
theorem numAt_get (l : List Int) (i : Nat) (hi : i < l.length) : numAt l i = l[i] := by
  unfold numAt
  rw [List.getD_eq_getElem?_getD, List.getElem?_eq_getElem hi]
  rfl
theorem hits_at {l : List Int} {id : Int} {k : Nat} (hk : k < l.length) (h0 : ∀ j, j < k → numAt l j ≠ id) (h1 : numAt l k = id) : hits l id = some k := by
  unfold hits
  rw [List.findIdx?_eq_some_iff_getElem]
  refine ⟨hk, by rw [← numAt_get l k hk, h1]; simp, fun j hj => ?_⟩
  rw [← numAt_get l j (by omega)]
  simpa using h0 j hj
theorem hits_none {l : List Int} {id : Int} (h0 : ∀ j, j < l.length → numAt l j ≠ id) : hits l id = none := by
  unfold hits
  rw [List.findIdx?_eq_none_iff]
  intro x hx
  obtain ⟨j, hj, rfl⟩ := List.getElem_of_mem hx
  rw [← numAt_get l j hj]
  simpa using h0 j hj
theorem low_spec (l : List Int) (id : Int) (n : Nat) : lowTo l id n ≤ n ∧ (∀ j, lowTo l id n ≤ j → j < n → id < numAt l j) ∧ (0 < lowTo l id n → numAt l (lowTo l id n - 1) ≤ id) := by
  induction n with
  | zero => exact ⟨Nat.le_refl _, fun j _ h => absurd h (by omega), fun h => absurd h (by unfold lowTo; omega)⟩
  | succ n ih =>
    unfold lowTo
    split
    · rename_i q
      refine ⟨by omega, fun j h1 h2 => ?_, ih.2.2⟩
      rcases (by omega : j < n ∨ j = n) with r | r
      · exact ih.2.1 j h1 r
      · rw [r]; exact q
    · rename_i q
      refine ⟨Nat.le_refl _, fun j h1 h2 => absurd h1 (by omega), fun _ => ?_⟩
      rw [Nat.add_sub_cancel]
      omega
/-- Lists with one more, another one, one less, and the last ones. -/
def with13 {α : Type} (l : List α) (p : Nat) (v : α) : List α := l.take p ++ v :: l.drop p
def less13 {α : Type} (l : List α) (p : Nat) : List α := l.take p ++ l.drop (p + 1)
def last13 {α : Type} (l : List α) (n : Int) : List α := l.drop (l.length - n.toNat)
def in13 (p : Int) (n : Nat) : Bool := decide (0 ≤ p ∧ p ≤ n)
theorem with_len {α : Type} (l : List α) (p : Nat) (v : α) (h : p ≤ l.length) : (with13 l p v).length = l.length + 1 := by
  unfold with13
  rw [List.length_append, List.length_cons, List.length_take, List.length_drop]
  omega
theorem with_at {α : Type} (l : List α) (p : Nat) (v : α) (h : p ≤ l.length) : (with13 l p v)[p]? = some v := by
  unfold with13
  rw [List.getElem?_append_right (by rw [List.length_take]; omega), List.length_take, Nat.min_eq_left h, Nat.sub_self]
  rfl
theorem with_less {α : Type} (l : List α) (p : Nat) (v : α) (h : p ≤ l.length) : less13 (with13 l p v) p = l := by
  have ht : (l.take p).length = p := by rw [List.length_take]; omega
  unfold less13 with13
  have e1 : (l.take p ++ v :: l.drop p).take p = l.take p := by
    rw [List.take_append_of_le_length (by omega), List.take_take, Nat.min_self]
  have e2 : (l.take p ++ v :: l.drop p).drop (p + 1) = l.drop p := by
    rw [List.drop_append, ht, show p + 1 - p = 1 by omega, List.drop_of_length_le (by omega), List.nil_append]
    rfl
  rw [e1, e2, List.take_append_drop]
theorem set_back {α : Type} (l : List α) (p : Nat) (v w : α) (h : l[p]? = some w) : (l.set p v).set p w = l := by
  rw [List.set_set]
  refine List.ext_getElem? fun j => ?_
  rw [List.getElem?_set]
  split
  · rename_i e
    subst e
    split
    · exact h.symm
    · rename_i q; rw [List.getElem?_eq_none (by omega)]
  · rfl
theorem last_len {α : Type} (l : List α) (n : Int) : (last13 l n).length ≤ l.length ∧ last13 l n = l.drop (l.length - (last13 l n).length) := by
  unfold last13
  rw [List.length_drop]
  refine ⟨by omega, ?_⟩
  congr 1
  omega
theorem numAt_with (l : List Int) (p : Nat) (v : Int) (h : p ≤ l.length) (i : Nat) : numAt (with13 l p v) i = if i < p then numAt l i else if i = p then v else numAt l (i - 1) := by
  unfold numAt with13
  rw [List.getD_eq_getElem?_getD]
  have ht : (l.take p).length = p := by rw [List.length_take]; omega
  split
  · rename_i q
    rw [List.getElem?_append_left (by omega), List.getElem?_take_of_lt q, List.getD_eq_getElem?_getD]
  · rename_i q
    rw [List.getElem?_append_right (by omega), ht]
    split
    · rename_i e; subst e; rw [Nat.sub_self]; rfl
    · rename_i e
      obtain ⟨j, hj⟩ : ∃ j, i - p = j + 1 := ⟨i - p - 1, by omega⟩
      rw [hj, List.getElem?_cons_succ, List.getElem?_drop, List.getD_eq_getElem?_getD, show p + j = i - 1 by omega]
/-- With a number that is not there, at the place that is told of it, ids that rise rise. -/
theorem rises_with {l : List Int} {id : Int} (h : Rises l) (h1 : 1 ≤ id ∧ id ≤ 999999) (h0 : ∀ j, j < l.length → numAt l j ≠ id) : Rises (with13 l (lowTo l id l.length) id) := by
  obtain ⟨s1, s2, s3⟩ := low_spec l id l.length
  obtain ⟨p, hp⟩ : ∃ p, lowTo l id l.length = p := ⟨_, rfl⟩
  rw [hp] at s1 s2 s3 ⊢
  intro i hi
  rw [with_len l p id s1] at hi
  rw [numAt_with l p id s1 i]
  refine ⟨?_, fun hpos => ?_⟩
  · split
    · exact (h i (by omega)).1
    · split
      · exact h1
      · exact (h (i - 1) (by omega)).1
  · rw [numAt_with l p id s1 (i - 1)]
    rcases (by omega : i < p ∨ i = p ∨ i = p + 1 ∨ p + 1 < i) with q | q | q | q
    · rw [if_pos (by omega), if_pos q]
      exact (h i (by omega)).2 hpos
    · subst q
      rw [if_pos (by omega), if_neg (by omega), if_pos rfl]
      have := s3 hpos
      have := h0 (i - 1) (by omega)
      omega
    · subst q
      rw [if_neg (by omega), if_pos (by omega), if_neg (by omega), if_neg (by omega)]
      exact s2 _ (by omega) (by omega)
    · rw [if_neg (by omega), if_neg (by omega), if_neg (by omega), if_neg (by omega)]
      exact (h (i - 1) (by omega)).2 (by omega)
/-- As they are told: the list, and what is wrong. -/
def withL {α : Type} (l : List α) (p : Int) (v : α) : List α := if 0 ≤ p ∧ p ≤ l.length then with13 l p.toNat v else []
def withE (n : Nat) (p : Int) : Int := if 0 ≤ p ∧ p ≤ n then 0 else 2
def setL {α : Type} (l : List α) (p : Int) (v : α) : List α := if 0 ≤ p ∧ p < l.length then l.set p.toNat v else []
def hasE (n : Nat) (p : Int) : Int := if 0 ≤ p ∧ p < n then 0 else 2
def lessL {α : Type} (l : List α) (p : Int) : List α := if 0 ≤ p ∧ p < l.length then less13 l p.toNat else []
theorem with_ok {α : Type} {l : List α} {p : Nat} (h : p ≤ l.length) (v : α) : withL l (p : Int) v = with13 l p v ∧ withE l.length (p : Int) = 0 := by
  unfold withL withE
  rw [if_pos (by omega), if_pos (by omega), Int.toNat_natCast]
  exact ⟨rfl, rfl⟩
theorem with_no {α : Type} {l : List α} {p : Int} (h : ¬ (0 ≤ p ∧ p ≤ l.length)) (v : α) : withL l p v = [] ∧ withE l.length p = 2 := by
  unfold withL withE
  rw [if_neg h, if_neg h]
  exact ⟨rfl, rfl⟩
theorem set_ok {α : Type} {l : List α} {p : Nat} (h : p < l.length) (v : α) : setL l (p : Int) v = l.set p v ∧ hasE l.length (p : Int) = 0 := by
  unfold setL hasE
  rw [if_pos (by omega), if_pos (by omega), Int.toNat_natCast]
  exact ⟨rfl, rfl⟩
theorem set_no {α : Type} {l : List α} {p : Int} (h : ¬ (0 ≤ p ∧ p < l.length)) (v : α) : setL l p v = [] ∧ hasE l.length p = 2 := by
  unfold setL hasE
  rw [if_neg h, if_neg h]
  exact ⟨rfl, rfl⟩
theorem less_ok {α : Type} {l : List α} {p : Nat} (h : p < l.length) : lessL l (p : Int) = less13 l p ∧ hasE l.length (p : Int) = 0 := by
  unfold lessL hasE
  rw [if_pos (by omega), if_pos (by omega), Int.toNat_natCast]
  exact ⟨rfl, rfl⟩
theorem less_no {α : Type} {l : List α} {p : Int} (h : ¬ (0 ≤ p ∧ p < l.length)) : lessL l p = [] ∧ hasE l.length p = 2 := by
  unfold lessL hasE
  rw [if_neg h, if_neg h]
  exact ⟨rfl, rfl⟩
/-- The list, made element by element. -/
theorem with_low {α : Type} (l : List α) (k : Nat) (x : α) (hx : l[k]? = some x) : l.take (k + 1) = l.take k ++ [x] := by
  rw [List.take_add_one, hx]; rfl
theorem with_start {α : Type} (l : List α) (p : Nat) (v : α) : with13 (l.take p) p v = l.take p ++ [v] := by
  unfold with13
  rw [List.take_take, Nat.min_self, List.drop_take, Nat.sub_self, List.take_zero]
theorem with_next {α : Type} (l : List α) (p k : Nat) (v : α) (h : p ≤ k) (hk : k < l.length) (x : α) (hx : l[k]? = some x) : with13 (l.take (k + 1)) p v = with13 (l.take k) p v ++ [x] := by
  unfold with13
  rw [List.take_take, List.take_take, Nat.min_eq_left (by omega), Nat.min_eq_left h, List.take_add_one, hx, List.drop_append_of_le_length (by rw [List.length_take]; omega)]
  simp
theorem less_low {α : Type} (l : List α) (p k : Nat) (h : k < p) (x : α) (hx : l[k]? = some x) : less13 (l.take (k + 1)) p = less13 (l.take k) p ++ [x] := by
  have hk : k < l.length := (List.getElem?_eq_some_iff.1 hx).1
  unfold less13
  rw [List.take_take, List.take_take, Nat.min_eq_right (by omega), Nat.min_eq_right (by omega), List.drop_take, List.drop_take, show k + 1 - (p + 1) = 0 by omega, show k - (p + 1) = 0 by omega, List.take_add_one, hx]
  simp
theorem less_skip {α : Type} (l : List α) (p : Nat) : less13 (l.take (p + 1)) p = less13 (l.take p) p := by
  unfold less13
  rw [List.take_take, List.take_take, Nat.min_self, Nat.min_eq_left (by omega), List.drop_take, List.drop_take, Nat.sub_self, show p - (p + 1) = 0 by omega]
theorem less_next {α : Type} (l : List α) (p k : Nat) (h : p < k) (x : α) (hx : l[k]? = some x) : less13 (l.take (k + 1)) p = less13 (l.take k) p ++ [x] := by
  have hk : k < l.length := (List.getElem?_eq_some_iff.1 hx).1
  unfold less13
  rw [List.take_take, List.take_take, Nat.min_eq_left (by omega), Nat.min_eq_left (by omega), List.take_add_one, hx, List.drop_append_of_le_length (by rw [List.length_take]; omega)]
  simp
theorem last_low {α : Type} (l : List α) (n : Int) (k : Nat) (h : ¬ ((l.length : Int) - k ≤ n)) (hk : k < l.length) : (l.take (k + 1)).drop (l.length - n.toNat) = (l.take k).drop (l.length - n.toNat) := by
  rw [List.drop_of_length_le (by rw [List.length_take]; omega), List.drop_of_length_le (by rw [List.length_take]; omega)]
theorem last_next {α : Type} (l : List α) (n : Int) (k : Nat) (h : (l.length : Int) - k ≤ n) (x : α) (hx : l[k]? = some x) : (l.take (k + 1)).drop (l.length - n.toNat) = (l.take k).drop (l.length - n.toNat) ++ [x] := by
  have hk : k < l.length := (List.getElem?_eq_some_iff.1 hx).1
  rw [List.take_add_one, hx, List.drop_append_of_le_length (by rw [List.length_take]; omega)]
  rfl
end Go.Proofs.Ytifihejogbcbgaa
namespace Go.Proofs.Ytifihejogbcbgaa
open Go.RowKit

abbrev Pr := List UInt8 × Int
theorem pl_irrefl (x : List UInt8) : Op.bytesLess x x = false := by
  induction x with
  | nil => rfl
  | cons a x ih => simp [Op.bytesLess, ih, UInt8.lt_irrefl]
theorem pl_trans : ∀ (x y z : List UInt8), Op.bytesLess x y = true → Op.bytesLess y z = true → Op.bytesLess x z = true
  | _, [], _, h, _ => by unfold Op.bytesLess at h; cases h
  | _, _ :: _, [], _, h => by unfold Op.bytesLess at h; cases h
  | [], _ :: _, _ :: _, _, _ => rfl
  | a :: x, b :: y, c :: z, h1, h2 => by
    simp only [Op.bytesLess, Bool.or_eq_true, Bool.and_eq_true, decide_eq_true_eq, beq_iff_eq] at h1 h2 ⊢
    rcases h1 with h1 | ⟨rfl, h1⟩
    · rcases h2 with h2 | ⟨rfl, h2⟩
      · exact Or.inl (UInt8.lt_trans h1 h2)
      · exact Or.inl h1
    · rcases h2 with h2 | ⟨rfl, h2⟩
      · exact Or.inl h2
      · exact Or.inr ⟨rfl, pl_trans x y z h1 h2⟩
theorem pl_tri : ∀ (x y : List UInt8), Op.bytesLess x y = false → x = y ∨ Op.bytesLess y x = true
  | [], [], _ => Or.inl rfl
  | [], _ :: _, h => by simp [Op.bytesLess] at h
  | _ :: _, [], _ => Or.inr rfl
  | a :: x, b :: y, h => by
    simp only [Op.bytesLess, Bool.or_eq_false_iff, Bool.and_eq_false_iff, decide_eq_false_iff_not, beq_eq_false_iff_ne] at h
    obtain ⟨h1, h2⟩ := h
    by_cases e : a = b
    · subst e
      rcases h2 with h2 | h2
      · exact absurd rfl h2
      · rcases pl_tri x y h2 with h3 | h3
        · exact Or.inl (by rw [h3])
        · exact Or.inr (by simp [Op.bytesLess, h3])
    · refine Or.inr ?_
      have : b < a := by
        rw [UInt8.lt_iff_toNat_lt] at h1 ⊢
        have : a.toNat ≠ b.toNat := fun h => e (UInt8.toNat_inj.1 h)
        omega
      simp [Op.bytesLess, this]
theorem pl_asymm {x y : List UInt8} (h : Op.bytesLess x y = true) : Op.bytesLess y x = false := by
  cases hq : Op.bytesLess y x with
  | false => rfl
  | true => have := pl_trans _ _ _ h hq; rw [pl_irrefl] at this; cases this

/-- The order of pairs. -/
def prLt (p q : Pr) : Bool := Op.bytesLess p.1 q.1 || (p.1 == q.1 && decide (p.2 < q.2))
theorem prLt_iff {p q : Pr} : prLt p q = true ↔ Op.bytesLess p.1 q.1 = true ∨ (p.1 = q.1 ∧ p.2 < q.2) := by
  unfold prLt
  rw [Bool.or_eq_true, Bool.and_eq_true, beq_iff_eq, decide_eq_true_iff]
theorem prLt_irrefl (p : Pr) : ¬ prLt p p = true := by
  rw [prLt_iff, pl_irrefl]
  rintro (h | ⟨_, h⟩)
  · cases h
  · omega
theorem prLt_trans {p q r : Pr} (h1 : prLt p q = true) (h2 : prLt q r = true) : prLt p r = true := by
  rw [prLt_iff] at h1 h2 ⊢
  rcases h1 with h1 | ⟨e1, h1⟩
  · rcases h2 with h2 | ⟨e2, h2⟩
    · exact Or.inl (pl_trans _ _ _ h1 h2)
    · exact Or.inl (e2 ▸ h1)
  · rcases h2 with h2 | ⟨e2, h2⟩
    · exact Or.inl (e1 ▸ h2)
    · exact Or.inr ⟨e1.trans e2, by omega⟩
theorem prLt_tri {p q : Pr} (h : ¬ prLt p q = true) : p = q ∨ prLt q p = true := by
  rw [prLt_iff] at h
  have h1 : Op.bytesLess p.1 q.1 = false := by
    cases hc : Op.bytesLess p.1 q.1 with
    | false => rfl
    | true => exact absurd (Or.inl hc) h
  rcases pl_tri _ _ h1 with e | h2
  · rcases Int.lt_trichotomy p.2 q.2 with h3 | h3 | h3
    · exact absurd (Or.inr ⟨e, h3⟩) h
    · exact Or.inl (Prod.ext e h3)
    · exact Or.inr (prLt_iff.2 (Or.inr ⟨e.symm, h3⟩))
  · exact Or.inr (prLt_iff.2 (Or.inl h2))
def Srt (l : List Pr) : Prop := l.Pairwise fun p q => prLt p q = true
/-- What is in order is told by what is in it. -/
theorem srt_ext : ∀ {l m : List Pr}, Srt l → Srt m → (∀ p, p ∈ l ↔ p ∈ m) → l = m
  | [], [], _, _, _ => rfl
  | [], q :: m, _, _, h => by have := (h q).2 (List.mem_cons_self ..); cases this
  | p :: l, [], _, _, h => by have := (h p).1 (List.mem_cons_self ..); cases this
  | p :: l, q :: m, hl, hm, h => by
    obtain ⟨hl1, hl2⟩ := List.pairwise_cons.1 hl
    obtain ⟨hm1, hm2⟩ := List.pairwise_cons.1 hm
    have e : p = q := by
      rcases List.mem_cons.1 ((h p).1 (List.mem_cons_self ..)) with e | h1
      · exact e
      · rcases List.mem_cons.1 ((h q).2 (List.mem_cons_self ..)) with e | h2
        · exact e.symm
        · exact absurd (prLt_trans (hm1 p h1) (hl1 q h2)) (prLt_irrefl q)
    subst e
    have hsub : ∀ r, r ∈ l ↔ r ∈ m := fun r => by
      constructor
      · intro hr
        rcases List.mem_cons.1 ((h r).1 (List.mem_cons_of_mem _ hr)) with e | h1
        · subst e; exact absurd (hl1 r hr) (prLt_irrefl r)
        · exact h1
      · intro hr
        rcases List.mem_cons.1 ((h r).2 (List.mem_cons_of_mem _ hr)) with e | h1
        · subst e; exact absurd (hm1 r hr) (prLt_irrefl r)
        · exact h1
    rw [srt_ext hl2 hm2 hsub]
/-- One more, in its order. -/
def insP : List Pr → Pr → List Pr
  | [], p => [p]
  | q :: l, p => if prLt q p = true then q :: insP l p else p :: q :: l
theorem mem_insP {l : List Pr} {p r : Pr} : r ∈ insP l p ↔ r = p ∨ r ∈ l := by
  induction l with
  | nil => simp [insP]
  | cons q l ih =>
    unfold insP
    split
    · rw [List.mem_cons, ih, List.mem_cons]
      constructor
      · rintro (h | h | h)
        · exact Or.inr (Or.inl h)
        · exact Or.inl h
        · exact Or.inr (Or.inr h)
      · rintro (h | h | h)
        · exact Or.inr (Or.inl h)
        · exact Or.inl h
        · exact Or.inr (Or.inr h)
    · rw [List.mem_cons, List.mem_cons]
theorem len_insP (l : List Pr) (p : Pr) : (insP l p).length = l.length + 1 := by
  induction l with
  | nil => rfl
  | cons q l ih =>
    unfold insP
    split
    · rw [List.length_cons, ih, List.length_cons]
    · rfl
theorem srt_insP {l : List Pr} {p : Pr} (hl : Srt l) (hp : p ∉ l) : Srt (insP l p) := by
  induction l with
  | nil => exact List.pairwise_singleton _ _
  | cons q l ih =>
    obtain ⟨h1, h2⟩ := List.pairwise_cons.1 hl
    unfold insP
    split
    · rename_i hq
      refine List.pairwise_cons.2 ⟨fun r hr => ?_, ih h2 fun h => hp (List.mem_cons_of_mem _ h)⟩
      rcases mem_insP.1 hr with e | h
      · rw [e]; exact hq
      · exact h1 r h
    · rename_i hq
      rcases prLt_tri hq with e | h
      · exact absurd (by rw [e]; exact List.mem_cons_self ..) hp
      · refine List.pairwise_cons.2 ⟨fun r hr => ?_, hl⟩
        rcases List.mem_cons.1 hr with e | h3
        · rw [e]; exact h
        · exact prLt_trans h (h1 r h3)
/-- As the document puts it in: behind those that are less. -/
theorem insP_cut (l : List Pr) (p : Pr) (i : Nat) (hi : i ≤ l.length) (h1 : ∀ j (h : j < l.length), j < i → prLt l[j] p = true) (h2 : ∀ h : i < l.length, ¬ prLt l[i] p = true) : insP l p = l.take i ++ p :: l.drop i := by
  induction l generalizing i with
  | nil => simp [insP]
  | cons q l ih =>
    cases i with
    | zero =>
      have := h2 (by simp)
      unfold insP
      rw [if_neg (by simpa using this)]
      simp
    | succ i =>
      have h0 := h1 0 (by simp) (by omega)
      unfold insP
      rw [if_pos (by simpa using h0), ih i (by simpa using hi) (fun j h hj => h1 (j + 1) (by simpa using h) (by omega)) (fun h => h2 (by simpa using h))]
      simp
/-- One less. -/
def dropP (l : List Pr) (p : Pr) : List Pr := l.filter fun q => !(q == p)
theorem mem_dropP {l : List Pr} {p r : Pr} : r ∈ dropP l p ↔ r ∈ l ∧ r ≠ p := by
  unfold dropP
  rw [List.mem_filter]
  simp
theorem srt_dropP {l : List Pr} {p : Pr} (hl : Srt l) : Srt (dropP l p) := List.Pairwise.sublist (List.filter_sublist ..) hl
theorem len_dropP {l : List Pr} {p : Pr} : (dropP l p).length = l.length ↔ p ∉ l := by
  unfold dropP
  rw [List.length_filter_eq_length_iff]
  constructor
  · intro h hp
    have := h p hp
    simp at this
  · intro h a ha
    simp
    intro e
    exact h (e ▸ ha)
theorem drop_ins {l : List Pr} {p : Pr} (hl : Srt l) (hp : p ∉ l) : dropP (insP l p) p = l := by
  refine srt_ext (srt_dropP (srt_insP hl hp)) hl fun r => ?_
  rw [mem_dropP, mem_insP]
  constructor
  · rintro ⟨h | h, h2⟩
    · exact absurd h h2
    · exact h
  · intro h
    exact ⟨Or.inr h, fun e => hp (e ▸ h)⟩
/-- The numbers of a text, the texts of a number. -/
def ofP (l : List Pr) (s : List UInt8) : List Int := (l.filter fun p => p.1 == s).map fun p => p.2
def underP (l : List Pr) (n : Int) : List (List UInt8) := (l.filter fun p => p.2 == n).map fun p => p.1
theorem mem_ofP {l : List Pr} {s : List UInt8} {n : Int} : n ∈ ofP l s ↔ (s, n) ∈ l := by
  unfold ofP
  rw [List.mem_map]
  constructor
  · rintro ⟨⟨a, b⟩, h, rfl⟩
    rw [List.mem_filter] at h
    have := h.2
    simp at this
    subst this
    exact h.1
  · intro h
    exact ⟨(s, n), by rw [List.mem_filter]; exact ⟨h, by simp⟩, rfl⟩
theorem mem_underP {l : List Pr} {s : List UInt8} {n : Int} : s ∈ underP l n ↔ (s, n) ∈ l := by
  unfold underP
  rw [List.mem_map]
  constructor
  · rintro ⟨⟨a, b⟩, h, rfl⟩
    rw [List.mem_filter] at h
    have := h.2
    simp at this
    subst this
    exact h.1
  · intro h
    exact ⟨(s, n), by rw [List.mem_filter]; exact ⟨h, by simp⟩, rfl⟩
/-- Numbers added under a text, one by one: what is wrong with the first that is, and what comes of them. -/
def addE14 (l : List Pr) (s : List UInt8) (n : Int) : Int := if n < 1 ∨ 999999 < n then 31 else if (s, n) ∈ l then 32 else if 2000 ≤ l.length then 37 else 0
def addsE (s : List UInt8) : List Pr → List Int → Int
  | _, [] => 0
  | l, n :: ns => if addE14 l s n ≠ 0 then addE14 l s n else addsE s (insP l (s, n)) ns
def addsL (s : List UInt8) : List Pr → List Int → List Pr
  | l, [] => l
  | l, n :: ns => addsL s (insP l (s, n)) ns
theorem addE_iff {l : List Pr} {s : List UInt8} {n : Int} : addE14 l s n = 0 ↔ (1 ≤ n ∧ n ≤ 999999) ∧ (s, n) ∉ l ∧ l.length < 2000 := by
  unfold addE14
  split
  · constructor
    · intro h; cases h
    · intro h; omega
  · split
    · rename_i h1 h2
      constructor
      · intro h; cases h
      · intro h; exact absurd h2 h.2.1
    · rename_i h1 h2
      split
      · constructor
        · intro h; cases h
        · intro h; omega
      · rename_i h3
        exact ⟨fun _ => ⟨by omega, h2, by omega⟩, fun _ => rfl⟩
theorem adds_iff {s : List UInt8} {ns : List Int} : ∀ {l : List Pr}, addsE s l ns = 0 ↔ (∀ n ∈ ns, (1 ≤ n ∧ n ≤ 999999) ∧ (s, n) ∉ l) ∧ ns.Nodup ∧ (ns ≠ [] → l.length + ns.length ≤ 2000) := by
  induction ns with
  | nil => intro l; simp [addsE]
  | cons n ns ih =>
    intro l
    unfold addsE
    by_cases h0 : addE14 l s n = 0
    · rw [if_neg (by simpa using h0), ih, len_insP]
      obtain ⟨h1, h2, h3⟩ := addE_iff.1 h0
      constructor
      · rintro ⟨a, b, c⟩
        refine ⟨fun m hm => ?_, List.nodup_cons.2 ⟨fun hm => ?_, b⟩, fun _ => ?_⟩
        · rcases List.mem_cons.1 hm with e | hm
          · subst e; exact ⟨h1, h2⟩
          · exact ⟨(a m hm).1, fun hx => (a m hm).2 (mem_insP.2 (Or.inr hx))⟩
        · exact (a n hm).2 (mem_insP.2 (Or.inl rfl))
        · rw [List.length_cons]
          rcases List.eq_nil_or_concat ns with e | ⟨x, y, e⟩
          · subst e; simp; omega
          · have := c (by rw [e]; simp); omega
      · rintro ⟨a, b, c⟩
        obtain ⟨b1, b2⟩ := List.nodup_cons.1 b
        refine ⟨fun m hm => ⟨(a m (List.mem_cons_of_mem _ hm)).1, fun hx => ?_⟩, b2, fun _ => ?_⟩
        · rcases mem_insP.1 hx with e | hx
          · injection e with _ e; subst e; exact b1 hm
          · exact (a m (List.mem_cons_of_mem _ hm)).2 hx
        · have := c (by simp); rw [List.length_cons] at this; omega
    · rw [if_pos h0]
      constructor
      · intro h; exact absurd h h0
      · rintro ⟨a, b, c⟩
        refine absurd (addE_iff.2 ⟨(a n (List.mem_cons_self ..)).1, (a n (List.mem_cons_self ..)).2, ?_⟩) h0
        have := c (by simp); rw [List.length_cons] at this; omega
theorem mem_addsL {s : List UInt8} {ns : List Int} {p : Pr} : ∀ {l : List Pr}, p ∈ addsL s l ns ↔ p ∈ l ∨ (p.1 = s ∧ p.2 ∈ ns) := by
  induction ns with
  | nil => intro l; simp [addsL]
  | cons n ns ih =>
    intro l
    unfold addsL
    rw [ih, mem_insP, List.mem_cons]
    constructor
    · rintro ((h | h) | ⟨h1, h2⟩)
      · subst h; exact Or.inr ⟨rfl, Or.inl rfl⟩
      · exact Or.inl h
      · exact Or.inr ⟨h1, Or.inr h2⟩
    · rintro (h | ⟨h1, h2 | h2⟩)
      · exact Or.inl (Or.inr h)
      · exact Or.inl (Or.inl (Prod.ext h1 h2))
      · exact Or.inr ⟨h1, h2⟩
theorem srt_addsL {s : List UInt8} {ns : List Int} : ∀ {l : List Pr}, Srt l → addsE s l ns = 0 → Srt (addsL s l ns) := by
  induction ns with
  | nil => intro l h _; exact h
  | cons n ns ih =>
    intro l h h0
    unfold addsE at h0
    by_cases he : addE14 l s n = 0
    · rw [if_neg (by simpa using he)] at h0
      exact ih (srt_insP h (addE_iff.1 he).2.1) h0
    · rw [if_pos he] at h0; exact absurd h0 he
theorem len_addsL {s : List UInt8} {ns : List Int} : ∀ {l : List Pr}, (addsL s l ns).length = l.length + ns.length := by
  induction ns with
  | nil => intro l; rfl
  | cons n ns ih => intro l; unfold addsL; rw [ih, len_insP, List.length_cons]; omega
theorem nodup_back {ns : List Int} (h : ns.Nodup) : ns.reverse.Nodup := by
  unfold List.Nodup at h ⊢
  rw [List.pairwise_reverse]
  exact h.imp fun q e => q e.symm
/-- In whatever order they are added. -/
theorem adds_back {s : List UInt8} {ns : List Int} {l : List Pr} (hl : Srt l) (h : addsE s l ns = 0) : addsE s l ns.reverse = 0 ∧ addsL s l ns.reverse = addsL s l ns := by
  have h' := adds_iff.1 h
  have h2 : addsE s l ns.reverse = 0 := adds_iff.2 ⟨fun n hn => h'.1 n (List.mem_reverse.1 hn), nodup_back h'.2.1, fun hne => by rw [List.length_reverse]; exact h'.2.2 (by simpa using hne)⟩
  refine ⟨h2, srt_ext (srt_addsL hl h2) (srt_addsL hl h) fun p => ?_⟩
  rw [mem_addsL, mem_addsL, List.mem_reverse]
/-- And dropped again, one by one. -/
def dropsL (s : List UInt8) : List Pr → List Int → List Pr
  | l, [] => l
  | l, n :: ns => dropsL s (dropP l (s, n)) ns
theorem mem_dropsL {s : List UInt8} {ns : List Int} {p : Pr} : ∀ {l : List Pr}, p ∈ dropsL s l ns ↔ p ∈ l ∧ ¬ (p.1 = s ∧ p.2 ∈ ns) := by
  induction ns with
  | nil => intro l; simp [dropsL]
  | cons n ns ih =>
    intro l
    unfold dropsL
    rw [ih, mem_dropP, List.mem_cons]
    constructor
    · rintro ⟨⟨h1, h2⟩, h3⟩
      refine ⟨h1, ?_⟩
      rintro ⟨a, b | b⟩
      · exact h2 (Prod.ext a b)
      · exact h3 ⟨a, b⟩
    · rintro ⟨h1, h2⟩
      refine ⟨⟨h1, ?_⟩, ?_⟩
      · rintro rfl; exact h2 ⟨rfl, Or.inl rfl⟩
      · rintro ⟨a, b⟩; exact h2 ⟨a, Or.inr b⟩
theorem srt_dropsL {s : List UInt8} {ns : List Int} : ∀ {l : List Pr}, Srt l → Srt (dropsL s l ns) := by
  induction ns with
  | nil => intro l h; exact h
  | cons n ns ih => intro l h; exact ih (srt_dropP h)
theorem drops_adds {s : List UInt8} {ns : List Int} {l : List Pr} (hl : Srt l) (h : addsE s l ns = 0) : dropsL s (addsL s l ns) ns = l := by
  have h' := adds_iff.1 h
  refine srt_ext (srt_dropsL (srt_addsL hl h)) hl fun p => ?_
  rw [mem_dropsL, mem_addsL]
  constructor
  · rintro ⟨h1 | h1, h2⟩
    · exact h1
    · exact absurd h1 h2
  · intro hp
    refine ⟨Or.inl hp, ?_⟩
    rintro ⟨a, b⟩
    refine (h'.1 p.2 b).2 ?_
    rw [← a]
    exact hp
theorem dropsL_take {s : List UInt8} {ns : List Int} {k : Nat} (hk : k < ns.length) (l : List Pr) : dropsL s l (ns.take (k + 1)) = dropP (dropsL s l (ns.take k)) (s, numAt ns k) := by
  induction ns generalizing k l with
  | nil => simp at hk
  | cons n ns ih =>
    cases k with
    | zero => rfl
    | succ k =>
      have := ih (k := k) (by simpa using hk) (dropP l (s, n))
      exact this
/-- A pair that is dropped in its turn is there. -/
theorem drops_in {s : List UInt8} {ns : List Int} {l : List Pr} (h : addsE s l ns = 0) {k : Nat} (hk : k < ns.length) : (s, numAt ns k) ∈ dropsL s (addsL s l ns) (ns.take k) := by
  have h' := adds_iff.1 h
  rw [mem_dropsL, mem_addsL]
  refine ⟨Or.inr ⟨rfl, num_mem ns k hk⟩, ?_⟩
  rintro ⟨_, hm⟩
  obtain ⟨j, hj, e⟩ := List.getElem_of_mem hm
  rw [List.length_take] at hj
  rw [List.getElem_take, numAt_get ns k hk] at e
  have := List.pairwise_iff_getElem.1 h'.2.1 j k (by omega) hk (by omega)
  exact this e
end Go.Proofs.Ytifihejogbcbgaa
namespace Go.Proofs.Ytifihejogbcbgaa
open Go.RowKit

theorem rowAt_get (xs : List (List UInt8)) (k : Nat) (h : k < xs.length) : xs[k]? = some (rowAt xs k) := by
  unfold rowAt
  rw [List.getElem?_eq_getElem h, List.getD_eq_getElem?_getD, List.getElem?_eq_getElem h]
  rfl
/-- A list of texts of the call's own, under way. -/
structure Out13 (w W : World) (a : Option Addr) (c : Nat) (ys : List (List UInt8)) : Prop where
  own : W.ownsRow w.heap.size 9 1 (.slice a ys.length c) ys.length (txCells ys)
  below : Below w.heap.size w W
theorem Out13.start (w : World) : Out13 w w none 0 [] := ⟨World.ownsRow_nil _ _ _ _, Below.refl _ _⟩
/-- What a call of such a list tells. -/
def Tells13 (w : World) (e : Ending) (w' : World) (ys : List (List UInt8)) : Prop :=
  ∃ a c, e = .returned (.slice a ys.length c) ∧ ys.length ≤ c ∧ Txs w.heap.size w'.heap.size w' a ys ∧ Below w.heap.size w w'
def Gives13 (w : World) (e : Ending) (w' : World) (ys : List (List UInt8)) (E : Int) : Prop :=
  ∃ a c, e = .returned (.tuple #[.slice a ys.length c, .int .i64 E]) ∧ ys.length ≤ c ∧ Txs w.heap.size w'.heap.size w' a ys ∧ Below w.heap.size w w'
theorem Out13.txs {w W : World} {a : Option Addr} {c : Nat} {ys : List (List UInt8)} (h : Out13 w W a c ys) : ys.length ≤ c ∧ Txs w.heap.size W.heap.size W a ys := by
  obtain ⟨a', c', hv, hc, ht⟩ := txs_own h.own
  injection hv with h1 _ h3
  subst h1 h3
  exact ⟨hc, ht⟩
theorem txCells_append (xs ys : List (List UInt8)) : txCells xs ++ txCells ys = txCells (xs ++ ys) := by unfold txCells; simp
theorem txCells_set (xs : List (List UInt8)) (k : Nat) (v : List UInt8) : (txCells xs).set k (.string (tx v)) = txCells (xs.set k v) := by unfold txCells; rw [List.map_set]
theorem txCells_one (xs : List (List UInt8)) : ∀ u ∈ txCells xs, u.oneCell' = true := by
  unfold txCells
  intro u hu
  obtain ⟨x, _, rfl⟩ := List.mem_map.1 hu
  rfl
end Go.Proofs.Ytifihejogbcbgaa
namespace Go.Proofs.Ytifihejogbcbgaa
open Go.RowKit

/-- The pairs of keys and their numbers. -/
def pairsK : List (List UInt8) → List (List Int) → List Pr
  | k :: K, l :: I => l.map (fun n => (k, n)) ++ pairsK K I
  | _, _ => []
def numsAt (I : List (List Int)) (k : Nat) : List Int := I.getD k []
theorem numsAt_get (I : List (List Int)) (k : Nat) (h : k < I.length) : I[k]? = some (numsAt I k) := by
  unfold numsAt
  rw [List.getElem?_eq_getElem h, List.getD_eq_getElem?_getD, List.getElem?_eq_getElem h]
  rfl
theorem rowAt_of {K : List (List UInt8)} {k : Nat} {s : List UInt8} (h : K[k]? = some s) : k < K.length ∧ rowAt K k = s := by
  have h1 := (List.getElem?_eq_some_iff.1 h).1
  rw [rowAt_get K k h1] at h
  exact ⟨h1, Option.some.inj h⟩
theorem mem_pairsK : ∀ {K : List (List UInt8)} {I : List (List Int)} {s : List UInt8} {n : Int}, (s, n) ∈ pairsK K I ↔ ∃ k, k < K.length ∧ k < I.length ∧ rowAt K k = s ∧ n ∈ numsAt I k
  | [], I, s, n => by simp [pairsK]
  | k :: K, [], s, n => by simp [pairsK]
  | k :: K, l :: I, s, n => by
    unfold pairsK
    rw [List.mem_append, List.mem_map, mem_pairsK]
    constructor
    · rintro (⟨m, hm, e⟩ | ⟨j, h1, h2, h3, h4⟩)
      · injection e with e1 e2
        subst e1 e2
        exact ⟨0, by simp, by simp, rfl, hm⟩
      · exact ⟨j + 1, by simpa using h1, by simpa using h2, h3, h4⟩
    · rintro ⟨j, h1, h2, h3, h4⟩
      cases j with
      | zero => exact Or.inl ⟨n, h4, by rw [← h3]; rfl⟩
      | succ j => exact Or.inr ⟨j, by simpa using h1, by simpa using h2, h3, h4⟩
def SrtK (K : List (List UInt8)) : Prop := K.Pairwise fun a b => Op.bytesLess a b = true
theorem srtK_lt {K : List (List UInt8)} (h : SrtK K) {i j : Nat} (hij : i < j) (hj : j < K.length) : Op.bytesLess (rowAt K i) (rowAt K j) = true := by
  have := List.pairwise_iff_getElem.1 h i j (by omega) hj hij
  have e1 := rowAt_get K i (by omega)
  have e2 := rowAt_get K j hj
  rw [List.getElem?_eq_getElem (by omega)] at e1 e2
  rw [← Option.some.inj e1, ← Option.some.inj e2]
  exact this
theorem srtK_inj {K : List (List UInt8)} (h : SrtK K) {i j : Nat} (hi : i < K.length) (hj : j < K.length) (e : rowAt K i = rowAt K j) : i = j := by
  rcases Nat.lt_trichotomy i j with h1 | h1 | h1
  · have := srtK_lt h h1 hj
    rw [e, pl_irrefl] at this; cases this
  · exact h1
  · have := srtK_lt h h1 hi
    rw [e, pl_irrefl] at this; cases this
theorem rises_pair {l : List Int} (h : Rises l) : l.Pairwise fun a b => a < b := by
  rw [List.pairwise_iff_getElem]
  intro i j hi hj hij
  have := rises_lt h hij hj
  rw [numAt_get l i hi, numAt_get l j hj] at this
  exact this
theorem srt_pairsK : ∀ {K : List (List UInt8)} {I : List (List Int)}, SrtK K → (∀ l ∈ I, Rises l) → Srt (pairsK K I)
  | [], _, _, _ => List.Pairwise.nil
  | _ :: _, [], _, _ => List.Pairwise.nil
  | k :: K, l :: I, hK, hI => by
    obtain ⟨h1, h2⟩ := List.pairwise_cons.1 hK
    unfold pairsK Srt
    rw [List.pairwise_append]
    refine ⟨?_, srt_pairsK h2 fun l hl => hI l (List.mem_cons_of_mem _ hl), ?_⟩
    · rw [List.pairwise_map]
      refine (rises_pair (hI l (List.mem_cons_self ..))).imp fun h => ?_
      rw [prLt_iff]
      exact Or.inr ⟨rfl, h⟩
    · intro p hp q hq
      obtain ⟨n, _, rfl⟩ := List.mem_map.1 hp
      obtain ⟨q1, q2⟩ := q
      obtain ⟨j, hj, _, e, _⟩ := mem_pairsK.1 hq
      rw [prLt_iff]
      refine Or.inl ?_
      show Op.bytesLess k q1 = true
      rw [← e]
      have e2 := rowAt_get K j hj
      rw [List.getElem?_eq_getElem hj] at e2
      rw [← Option.some.inj e2]
      exact h1 _ (List.getElem_mem hj)
theorem pairsK_take {K : List (List UInt8)} {I : List (List Int)} {i : Nat} (h1 : i < K.length) (h2 : i < I.length) : pairsK (K.take (i + 1)) (I.take (i + 1)) = pairsK (K.take i) (I.take i) ++ (numsAt I i).map fun n => (rowAt K i, n) := by
  induction i generalizing K I with
  | zero =>
    match K, I, h1, h2 with
    | k :: K, l :: I, _, _ => simp [pairsK, numsAt, rowAt]
  | succ i ih =>
    match K, I, h1, h2 with
    | k :: K, l :: I, h1, h2 =>
      have := ih (K := K) (I := I) (by simpa using h1) (by simpa using h2)
      simp only [List.take_succ_cons, pairsK]
      rw [this, List.append_assoc]
      rfl
/-- How many pairs. -/
def sumK (I : List (List Int)) : Nat := (I.map fun l => l.length).sum
theorem len_pairsK : ∀ {K : List (List UInt8)} {I : List (List Int)}, K.length = I.length → (pairsK K I).length = sumK I
  | [], [], _ => rfl
  | [], _ :: _, h => by simp at h
  | _ :: _, [], h => by simp at h
  | k :: K, l :: I, h => by
    unfold pairsK sumK
    rw [List.length_append, List.length_map, len_pairsK (by simpa using h), List.map_cons, List.sum_cons]
    rfl
/-- An index that may be, but for how many pairs it has and what its keys are. -/
structure Ix14 (K : List (List UInt8)) (I : List (List Int)) : Prop where
  len : K.length = I.length
  keys : SrtK K
  some : ∀ l ∈ I, l ≠ []
  rises : ∀ l ∈ I, Rises l
theorem Ix14.srt {K : List (List UInt8)} {I : List (List Int)} (h : Ix14 K I) : Srt (pairsK K I) := srt_pairsK h.keys h.rises
theorem numsAt_mem {I : List (List Int)} {k : Nat} (h : k < I.length) : numsAt I k ∈ I := by
  have := numsAt_get I k h
  exact List.mem_of_getElem? this
/-- The numbers of a key. -/
theorem Ix14.at {K : List (List UInt8)} {I : List (List Int)} (h : Ix14 K I) {k : Nat} (hk : k < K.length) {n : Int} : (rowAt K k, n) ∈ pairsK K I ↔ n ∈ numsAt I k := by
  rw [mem_pairsK]
  constructor
  · rintro ⟨j, h1, _, h3, h4⟩
    rw [srtK_inj h.keys h1 hk h3] at h4
    exact h4
  · intro hn
    exact ⟨k, hk, by have := h.len; omega, rfl, hn⟩
theorem Ix14.none {K : List (List UInt8)} {I : List (List Int)} {s : List UInt8} (hs : ∀ k, k < K.length → rowAt K k ≠ s) (n : Int) : (s, n) ∉ pairsK K I := by
  rw [mem_pairsK]
  rintro ⟨k, h1, _, h3, _⟩
  exact hs k h1 h3
theorem srt_of : ∀ {l : List Pr} {s : List UInt8}, Srt l → (ofP l s).Pairwise fun a b => a < b := by
  intro l s h
  unfold ofP
  rw [List.pairwise_map]
  have h2 : (l.filter fun p => p.1 == s).Pairwise fun p q => prLt p q = true := List.Pairwise.sublist (List.filter_sublist ..) h
  refine List.Pairwise.imp_of_mem (fun {p q} hp hq hpq => ?_) h2
  rw [List.mem_filter, beq_iff_eq] at hp hq
  rw [prLt_iff] at hpq
  rcases hpq with h3 | h3
  · rw [hp.2, hq.2, pl_irrefl] at h3; cases h3
  · exact h3.2
theorem rise_ext : ∀ {l m : List Int}, (l.Pairwise fun a b => a < b) → (m.Pairwise fun a b => a < b) → (∀ n, n ∈ l ↔ n ∈ m) → l = m
  | [], [], _, _, _ => rfl
  | [], q :: m, _, _, h => by have := (h q).2 (List.mem_cons_self ..); cases this
  | p :: l, [], _, _, h => by have := (h p).1 (List.mem_cons_self ..); cases this
  | p :: l, q :: m, hl, hm, h => by
    obtain ⟨hl1, hl2⟩ := List.pairwise_cons.1 hl
    obtain ⟨hm1, hm2⟩ := List.pairwise_cons.1 hm
    have e : p = q := by
      rcases List.mem_cons.1 ((h p).1 (List.mem_cons_self ..)) with e | h1
      · exact e
      · rcases List.mem_cons.1 ((h q).2 (List.mem_cons_self ..)) with e | h2
        · exact e.symm
        · have := hm1 p h1; have := hl1 q h2; omega
    subst e
    have hsub : ∀ r, r ∈ l ↔ r ∈ m := fun r => by
      constructor
      · intro hr
        rcases List.mem_cons.1 ((h r).1 (List.mem_cons_of_mem _ hr)) with e | h1
        · subst e; have := hl1 r hr; omega
        · exact h1
      · intro hr
        rcases List.mem_cons.1 ((h r).2 (List.mem_cons_of_mem _ hr)) with e | h1
        · subst e; have := hm1 r hr; omega
        · exact h1
    rw [rise_ext hl2 hm2 hsub]
theorem Ix14.of {K : List (List UInt8)} {I : List (List Int)} (h : Ix14 K I) {k : Nat} (hk : k < K.length) : ofP (pairsK K I) (rowAt K k) = numsAt I k := by
  refine rise_ext (srt_of h.srt) (rises_pair (h.rises _ (numsAt_mem (by have := h.len; omega)))) fun n => ?_
  rw [mem_ofP, h.at hk]
theorem Ix14.of_none {K : List (List UInt8)} {I : List (List Int)} {s : List UInt8} (hs : ∀ k, k < K.length → rowAt K k ≠ s) : ofP (pairsK K I) s = [] := by
  rw [List.eq_nil_iff_forall_not_mem]
  intro n hn
  exact Ix14.none hs n (mem_ofP.1 hn)
/-- The keys under which a number stands, in their order. -/
theorem under_pairs : ∀ {K : List (List UInt8)} {I : List (List Int)} {n : Int}, K.length = I.length → (∀ l ∈ I, Rises l) → underP (pairsK K I) n = ((List.range K.length).filter fun k => decide (n ∈ numsAt I k)).map fun k => rowAt K k
  | [], [], _, _, _ => rfl
  | [], _ :: _, _, h, _ => by simp at h
  | _ :: _, [], _, h, _ => by simp at h
  | k :: K, l :: I, n, h, hr => by
    have ih := under_pairs (K := K) (I := I) (n := n) (by simpa using h) fun l hl => hr l (List.mem_cons_of_mem _ hl)
    have hl := rises_pair (hr l (List.mem_cons_self ..))
    unfold underP at ih ⊢
    unfold pairsK
    rw [List.filter_append, List.map_append, ih, List.length_cons, List.range_succ_eq_map, List.filter_cons, List.filter_map, List.filter_map]
    have h1 : (l.filter ((fun p : Pr => p.2 == n) ∘ fun n => (k, n))) = if n ∈ l then [n] else [] := by
      have : ((fun p : Pr => p.2 == n) ∘ fun n => (k, n)) = fun m => m == n := rfl
      rw [this]
      refine rise_ext (List.Pairwise.sublist (List.filter_sublist ..) hl) (by split <;> simp) fun m => ?_
      rw [List.mem_filter, beq_iff_eq]
      split
      · rename_i hn
        simp
        rintro rfl
        exact hn
      · rename_i hn
        simp
        rintro q rfl
        exact hn q
    rw [h1]
    have h2 : (((fun k_1 => decide (n ∈ numsAt (l :: I) k_1)) ∘ Nat.succ) : Nat → Bool) = fun j => decide (n ∈ numsAt I j) := rfl
    rw [h2]
    by_cases hn : n ∈ l
    · have h3 : decide (n ∈ numsAt (l :: I) 0) = true := decide_eq_true hn
      rw [if_pos hn, h3, if_pos rfl]
      simp only [List.map_cons, List.map_nil, List.map_map, List.cons_append, List.nil_append]
      rfl
    · have h3 : decide (n ∈ numsAt (l :: I) 0) = false := decide_eq_false hn
      rw [if_neg hn, h3, if_neg (by simp)]
      simp only [List.map_nil, List.nil_append, List.map_map]
      rfl
end Go.Proofs.Ytifihejogbcbgaa
namespace Go.Proofs.Ytifihejogbcbgaa
open Go.RowKit

theorem rk_own {w : World} {B n k : Nat} {e : TypeId} {v : Value} {cs : List Value} (h : w.ownsRow B e k v n cs) : ∃ a cap, v = .slice a n cap ∧ n ≤ cap ∧ cs.length = n * k ∧ Rw B w.heap.size w a cs := by
  have hl := h.1
  have h2 := h.2
  rcases h2 with ⟨rfl, h0⟩ | ⟨g, cap, cur, rfl, _, _, hcap, _⟩
  · exact ⟨none, 0, by rw [h0], by omega, hl, Or.inl (List.length_eq_zero_iff.1 (by rw [hl, h0, Nat.zero_mul]))⟩
  · refine ⟨_, cap, rfl, hcap, hl, Or.inr ⟨g, 0, rfl, (h.lt g rfl).1, (h.lt g rfl).2, fun j u hj => ?_⟩⟩
    have hc := h.cells (g := g) rfl j u hj
    rcases Nat.eq_zero_or_pos j with hj0 | hj0
    · subst hj0; simpa [Addr.add] using hc
    · simpa [Addr.add, Nat.ne_of_gt hj0] using hc
theorem ownk_base {w : World} {B B' n k : Nat} {e : TypeId} {v : Value} {cs : List Value} (h : w.ownsRow B e k v n cs) (hb : B' ≤ B) : w.ownsRow B' e k v n cs :=
  ⟨h.1, h.2.imp id fun ⟨g, cap, cur, h1, h2, h3⟩ => ⟨g, cap, cur, h1, Nat.le_trans hb h2, h3⟩⟩
theorem wp_append_rk {o : Oper} {a : Act} {K : Act → World → Prop} {Q : Exit → Act → World → Prop} {w : World} (s x : Operand) {t e : TypeId} {z : Value} {bytes k : Nat} (hk : 0 < k)
    (ht : Try.prog.underlying t = some (.slice e)) (hinfo : (Try.prog.info? e).map (fun i => (i.zero, i.size, i.bytes)) = some (some z, k, bytes)) (hzc : z.cells.size = k)
    (ho : o.op = .call { callee := .builtin .append, args := #[s, x], argTypes := #[t, t] })
    (B n : Nat) (v : Value) (cs ds : List Value) (hs : a.eval s = v) (hown : w.ownsRow B e k v n cs) (ao : Option Addr) (m c A' B' : Nat) (hx : a.eval x = .slice ao m c) (hm : ds.length = m * k) (hd : Rw A' B' w ao ds) (h1 : ∀ u ∈ ds, u.oneCell' = true)
    (hn : n + m ≤ 1000000) (hb : bytes ≤ 1000000) (hB : B ≤ w.heap.size)
    (h : ∀ v' w', w'.ownsRow B e k v' (n + m) (cs ++ ds) → w.grownBy w' v.ownBlock → K (a.put o.dst v') w') :
    o.wp Try.prog a w K Q := by
  obtain ⟨i0, hi, hz0, hz1, hz2⟩ := info_parts hinfo
  rcases hd with rfl | ⟨b, off, rfl, _, _, hc⟩
  · obtain rfl : m = 0 := by
      rcases Nat.eq_zero_or_pos m with q | q
      · exact q
      · have := Nat.mul_pos q hk; rw [← hm] at this; simp at this
    obtain ⟨av, cap, rfl, hcap, _, _⟩ := rk_own hown
    have hr := run_append_nothing (ty := o.type) ht hi av ao n cap c hcap w
    unfold Oper.wp execOp
    simp only [ho, resolve, invoke, builtin, Sem.run_bind, Sem.run_pure, Result.andThen_ok, List.map_toArray, List.map_cons, List.map_nil, hs, hx, hr]
    refine h _ w ?_ ⟨rfl, rfl, rfl, Nat.le_refl _, fun _ _ _ => rfl⟩
    rw [List.append_nil]
    exact hown
  · have hb2 : (n + m) * bytes ≤ 140737488355328 := Nat.le_trans (Nat.mul_le_mul hn hb) (by decide)
    refine wp_append_own _ s x t ho B e i0 z k bytes ht hi hz0 hz1 hz2 hzc hk v n cs hs hown ⟨b, off, none⟩ m c ds hx hm ?_ h1 (by unfold maxLen; omega) hb2 hB fun v' w' h1 h2 _ => h v' w' h1 h2
    intro j u hj
    have := hc j u hj
    rcases Nat.eq_zero_or_pos j with hj0 | hj0
    · subst hj0; simpa [Addr.add] using this
    · simpa [Addr.add, Nat.ne_of_gt hj0] using this
theorem append_rk {ops : Array Oper} {rest : List Oper} {o : Oper} {a : Act} {Q : Exit → Act → World → Prop} {w : World} (hgd : o.guard = none) (s x : Operand) {t e : TypeId} {z : Value} {bytes k : Nat} (hk : 0 < k)
    (ht : Try.prog.underlying t = some (.slice e)) (hinfo : (Try.prog.info? e).map (fun i => (i.zero, i.size, i.bytes)) = some (some z, k, bytes)) (hzc : z.cells.size = k)
    (ho : o.op = .call { callee := .builtin .append, args := #[s, x], argTypes := #[t, t] })
    (B n : Nat) (v : Value) (cs ds : List Value) (hs : a.eval s = v) (hown : w.ownsRow B e k v n cs) (ao : Option Addr) (m c A' B' : Nat) (hx : a.eval x = .slice ao m c) (hm : ds.length = m * k) (hd : Rw A' B' w ao ds) (h1 : ∀ u ∈ ds, u.oneCell' = true)
    (hn : n + m ≤ 1000000) (hb : bytes ≤ 1000000) (hB : B ≤ w.heap.size)
    (h : ∀ v' w', w'.ownsRow B e k v' (n + m) (cs ++ ds) → w.grownBy w' v.ownBlock → wpList Try.prog ops Q rest (a.put o.dst v') w') :
    wpList Try.prog ops Q (o :: rest) a w :=
  wpList_plain hgd fun _ hK => wp_append_rk s x hk ht hinfo hzc ho B n v cs ds hs hown ao m c A' B' hx hm hd h1 hn hb hB fun v' w' h2 h3 => hK _ _ (h v' w' h2 h3)
theorem step_append_rk {ops : Array Oper} {o : Oper} {a : Act} {K : Act → World → Prop} {Q : Exit → Act → World → Prop} {w : World} {E : Prop} (hgd : o.guard = none) (s x : Operand) {t e : TypeId} {z : Value} {bytes k : Nat} (hk : 0 < k)
    (ht : Try.prog.underlying t = some (.slice e)) (hinfo : (Try.prog.info? e).map (fun i => (i.zero, i.size, i.bytes)) = some (some z, k, bytes)) (hzc : z.cells.size = k)
    (ho : o.op = .call { callee := .builtin .append, args := #[s, x], argTypes := #[t, t] })
    (B n : Nat) (v : Value) (cs ds : List Value) (hs : a.eval s = v) (hown : w.ownsRow B e k v n cs) (ao : Option Addr) (m c A' B' : Nat) (hx : a.eval x = .slice ao m c) (hm : ds.length = m * k) (hd : Rw A' B' w ao ds) (h1 : ∀ u ∈ ds, u.oneCell' = true)
    (hn : n + m ≤ 1000000) (hb : bytes ≤ 1000000) (hB : B ≤ w.heap.size)
    (h : ∀ v' w', w'.ownsRow B e k v' (n + m) (cs ++ ds) → w.grownBy w' v.ownBlock → K (a.put o.dst v') w') :
    if Region.wanted o (yielded ops a.tmps) = true then Oper.wp Try.prog o a w K Q else E := by
  have hw : Region.wanted o (yielded ops a.tmps) = true := by simp [Region.wanted, hgd]
  rw [if_pos hw]
  exact wp_append_rk s x hk ht hinfo hzc ho B n v cs ds hs hown ao m c A' B' hx hm hd h1 hn hb hB h
theorem rowk_from {t : TypeId} {k : Nat} (ht : Try.prog.underlying t = some (.slice (Try.prog.elem t))) (hs : ∀ w, (Go.sizeOf (Try.prog.elem t)).run Try.prog w = .ok k w) (a : Option Addr) (n cap p : Nat) (hp : p ≤ n) (hn : n ≤ cap) :
    ∃ a', (∀ w, (Instr.slice t (.slice a n cap) (some (.int .i64 (p : Int))) none none).run Try.prog w = .ok (.slice a' (n - p) (cap - p)) w) ∧ ∀ A B w cs, cs.length = n * k → Rw A B w a cs → Rw A B w a' (cs.drop (p * k)) := by
  refine ⟨if cap = p then a else a.map (·.add (p * k)), fun w => ?_, fun A B w cs hl h => ?_⟩
  · rw [run_slice_l w t a n cap ht .i64 (p : Int) (by omega) (by omega), hs]
    simp [Result.andThen, sliced]
  · split
    · refine Or.inl (List.drop_of_length_le ?_)
      rw [hl]
      exact Nat.mul_le_mul_right k (by omega)
    · rcases h with h | ⟨b, off, rfl, h1, h2, hc⟩
      · subst h; exact Or.inl (by simp)
      · refine Or.inr ⟨b, off + p * k, ?_, h1, h2, fun j u hj => ?_⟩
        · simp only [Option.map_some, Addr.add]
          split <;> simp_all
        · rw [List.getElem?_drop] at hj
          rw [Nat.add_assoc]
          exact hc _ u hj
theorem rowk_to {t : TypeId} {k : Nat} (ht : Try.prog.underlying t = some (.slice (Try.prog.elem t))) (hs : ∀ w, (Go.sizeOf (Try.prog.elem t)).run Try.prog w = .ok k w) (a : Option Addr) (n cap p : Nat) (hp : p ≤ n) (hn : n ≤ cap) (w : World) :
    (Instr.slice t (.slice a n cap) none (some (.int .i64 (p : Int))) none).run Try.prog w = .ok (.slice a p cap) w := by
  rw [run_slice_h w t a n cap ht .i64 (p : Int) (by omega) (by omega), hs]
  cases a <;> simp [Result.andThen, sliced, Addr.add]

/-! Pairs. -/
def prAt (l : List Pr) (j : Nat) : Pr := l.getD j ([], 0)
def prCells : List Pr → List Value
  | [] => []
  | p :: l => .string (tx p.1) :: .int .i64 p.2 :: prCells l
theorem prCells_len (l : List Pr) : (prCells l).length = l.length * 2 := by
  induction l with
  | nil => rfl
  | cons p l ih => unfold prCells; rw [List.length_cons, List.length_cons, ih, List.length_cons]; omega
theorem prCells_append (l m : List Pr) : prCells (l ++ m) = prCells l ++ prCells m := by
  induction l with
  | nil => rfl
  | cons p l ih => simp only [List.cons_append, prCells, ih]
theorem prCells_drop (l : List Pr) (k : Nat) : prCells (l.drop k) = (prCells l).drop (k * 2) := by
  induction k generalizing l with
  | zero => simp
  | succ k ih =>
    cases l with
    | nil => simp [prCells]
    | cons p l =>
      rw [List.drop_succ_cons, ih]
      conv => rhs; unfold prCells
      rw [show (k + 1) * 2 = k * 2 + 1 + 1 by omega, List.drop_succ_cons, List.drop_succ_cons]
theorem prCells_take (l : List Pr) (k : Nat) : prCells (l.take k) = (prCells l).take (k * 2) := by
  induction k generalizing l with
  | zero => simp [prCells]
  | succ k ih =>
    cases l with
    | nil => simp [prCells]
    | cons p l =>
      rw [List.take_succ_cons]
      unfold prCells
      rw [ih, show (k + 1) * 2 = k * 2 + 1 + 1 by omega, List.take_succ_cons, List.take_succ_cons]
theorem prCells_one (l : List Pr) : ∀ u ∈ prCells l, u.oneCell' = true := by
  induction l with
  | nil => intro u hu; cases hu
  | cons p l ih =>
    intro u hu
    unfold prCells at hu
    rcases List.mem_cons.1 hu with rfl | hu
    · rfl
    · rcases List.mem_cons.1 hu with rfl | hu
      · rfl
      · exact ih u hu
theorem prCells_at (l : List Pr) (j : Nat) (hj : j < l.length) : (prCells l)[j * 2]? = some (.string (tx (prAt l j).1)) ∧ (prCells l)[j * 2 + 1]? = some (.int .i64 (prAt l j).2) := by
  induction l generalizing j with
  | nil => simp at hj
  | cons p l ih =>
    unfold prCells
    cases j with
    | zero => exact ⟨rfl, rfl⟩
    | succ j =>
      have := ih j (by simpa using hj)
      rw [show (j + 1) * 2 = j * 2 + 1 + 1 by omega, List.getElem?_cons_succ, List.getElem?_cons_succ, show j * 2 + 1 + 1 + 1 = (j * 2 + 1) + 1 + 1 by omega, List.getElem?_cons_succ, List.getElem?_cons_succ]
      exact this
theorem prAt_get (l : List Pr) (j : Nat) (hj : j < l.length) : l[j]? = some (prAt l j) := by
  unfold prAt
  rw [List.getElem?_eq_getElem hj, List.getD_eq_getElem?_getD, List.getElem?_eq_getElem hj]
  rfl
/-- A slice of just these pairs. -/
def Prs (A B : Nat) (w : World) (a : Option Addr) (l : List Pr) : Prop := Rw A B w a (prCells l)
theorem Prs.at {A B : Nat} {w : World} {a : Option Addr} {l : List Pr} (h : Prs A B w a l) {j : Nat} (hj : j < l.length) : ∃ b off, a = some ⟨b, off, none⟩ ∧ b < B ∧ w.cell? ⟨b, off + j * 2, none⟩ = some (.string (tx (prAt l j).1)) ∧ w.cell? ⟨b, off + j * 2 + 1, none⟩ = some (.int .i64 (prAt l j).2) := by
  rcases h with h | ⟨b, off, ha, _, hb, hc⟩
  · have := prCells_len l
    rw [h] at this
    simp at this
    omega
  · have h2 := prCells_at l j hj
    exact ⟨b, off, ha, hb, hc _ _ h2.1, by rw [Nat.add_assoc]; exact hc _ _ h2.2⟩
end Go.Proofs.Ytifihejogbcbgaa
