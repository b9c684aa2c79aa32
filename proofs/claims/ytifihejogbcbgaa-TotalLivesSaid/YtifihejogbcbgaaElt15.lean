/- Rows of elements of a few cells each, whatever they are: how they lie, and one more of them. -/
import Derived.Test.YtifihejogbcbgaaMRows10
namespace Go.Proofs.Ytifihejogbcbgaa
open Go.RowKit

/-- A kind of elements: how many cells each has, and which. -/
structure Elt (α : Type) where
  k : Nat
  pos : 0 < k
  enc : α → List Value
  len : ∀ x, (enc x).length = k
  one : ∀ x, ∀ u ∈ enc x, u.oneCell' = true
def Elt.cells {α : Type} (E : Elt α) (l : List α) : List Value := l.flatMap E.enc
theorem Elt.cells_len {α : Type} (E : Elt α) (l : List α) : (E.cells l).length = l.length * E.k := by
  induction l with
  | nil => simp [Elt.cells]
  | cons x l ih =>
    unfold Elt.cells at ih ⊢
    rw [List.flatMap_cons, List.length_append, ih, E.len, List.length_cons, Nat.succ_mul, Nat.add_comm]
theorem Elt.cells_append {α : Type} (E : Elt α) (l m : List α) : E.cells (l ++ m) = E.cells l ++ E.cells m := by unfold Elt.cells; rw [List.flatMap_append]
theorem Elt.cells_one {α : Type} (E : Elt α) (x : α) : E.cells [x] = E.enc x := by unfold Elt.cells; simp
theorem Elt.one_cell {α : Type} (E : Elt α) (l : List α) : ∀ u ∈ E.cells l, u.oneCell' = true := by
  intro u hu
  obtain ⟨x, _, hx⟩ := List.mem_flatMap.1 hu
  exact E.one x u hx
theorem Elt.cells_at {α : Type} (E : Elt α) {l : List α} {j : Nat} {x : α} (hj : l[j]? = some x) {i : Nat} {v : Value} (hi : (E.enc x)[i]? = some v) : (E.cells l)[j * E.k + i]? = some v := by
  induction l generalizing j with
  | nil => simp at hj
  | cons y l ih =>
    have hc : E.cells (y :: l) = E.enc y ++ E.cells l := by unfold Elt.cells; rw [List.flatMap_cons]
    rw [hc]
    have hil : i < E.k := by rw [← E.len x]; exact (List.getElem?_eq_some_iff.1 hi).1
    cases j with
    | zero =>
      have : y = x := by simpa using hj
      subst this
      rw [Nat.zero_mul, Nat.zero_add, List.getElem?_append_left (by rw [E.len]; exact hil)]
      exact hi
    | succ j =>
      rw [List.getElem?_append_right (by rw [E.len, Nat.succ_mul]; omega), E.len, show (j + 1) * E.k + i - E.k = j * E.k + i by rw [Nat.succ_mul]; omega]
      exact ih (by simpa using hj)
/-- A slice of just these elements. -/
def Els {α : Type} (E : Elt α) (A B : Nat) (w : World) (a : Option Addr) (l : List α) : Prop := Rw A B w a (E.cells l)
theorem Els.at {α : Type} {E : Elt α} {A B : Nat} {w : World} {a : Option Addr} {l : List α} (h : Els E A B w a l) {j : Nat} {x : α} (hj : l[j]? = some x) : ∃ b off, a = some ⟨b, off, none⟩ ∧ A ≤ b ∧ b < B ∧ ∀ i v, (E.enc x)[i]? = some v → w.cell? ⟨b, off + (j * E.k + i), none⟩ = some v := by
  rcases h with h | ⟨b, off, ha, h1, h2, hc⟩
  · have := E.cells_len l
    rw [h] at this
    have hl := (List.getElem?_eq_some_iff.1 hj).1
    have hp := Nat.mul_pos (Nat.lt_of_le_of_lt (Nat.zero_le _) hl) E.pos
    simp at this
    omega
  · exact ⟨b, off, ha, h1, h2, fun i v hi => hc _ _ (E.cells_at hj hi)⟩
theorem Els.step {α : Type} {E : Elt α} {A : Nat} {w w' : World} {a : Option Addr} {l : List α} (h : Els E A w.heap.size w a l) (hb : Below w.heap.size w w') : Els E A w'.heap.size w' a l := Rw.step h hb
theorem Els.wide {α : Type} {E : Elt α} {A A' B B' : Nat} {w : World} {a : Option Addr} {l : List α} (h : Els E A B w a l) (hA : A' ≤ A) (hB : B ≤ B') : Els E A' B' w a l := Rw.wide h hA hB
theorem Els.below {α : Type} {E : Elt α} {A B : Nat} {w w' : World} {a : Option Addr} {l : List α} (h : Els E A B w a l) (hb : Below B w w') : Els E A B w' a l := Rw.below h hb
/-- A list of the call's own, under way. -/
structure OutE {α : Type} (E : Elt α) (e : TypeId) (w W : World) (a : Option Addr) (c : Nat) (l : List α) : Prop where
  own : W.ownsRow w.heap.size e E.k (.slice a l.length c) l.length (E.cells l)
  below : Below w.heap.size w W
theorem OutE.start {α : Type} (E : Elt α) (e : TypeId) (w : World) : OutE E e w w none 0 [] := ⟨by have := World.ownsRow_nil w w.heap.size e E.k; exact this, Below.refl _ _⟩
theorem OutE.els {α : Type} {E : Elt α} {e : TypeId} {w W : World} {a : Option Addr} {c : Nat} {l : List α} (h : OutE E e w W a c l) : l.length ≤ c ∧ Els E w.heap.size W.heap.size W a l := by
  obtain ⟨a', c', hv, hc, _, ht⟩ := rk_own h.own
  injection hv with h1 _ h3
  subst h1 h3
  exact ⟨hc, ht⟩
theorem OutE.drew {α : Type} {E : Elt α} {e : TypeId} {w W : World} {a : Option Addr} {c : Nat} {l : List α} (h : OutE E e w W a c l) : OutE E e w W.drew a c l := ⟨h.own, h.below.drew⟩
theorem lit_one_e {α : Type} {E : Elt α} {e : TypeId} (V : World) (p : α) {arr : Array Value} (ha : arr.toList = E.enc p) : Rw 0 (V.heap.size + 1) (V.alloc (.cells arr e)) (some ⟨V.heap.size, 0, none⟩) (E.cells [p]) := by
  refine Or.inr ⟨V.heap.size, 0, rfl, Nat.zero_le _, by omega, fun j u hj => lit_cell V _ _ j u ?_⟩
  rw [E.cells_one, ← ha] at hj
  rw [← hj, Array.getElem?_toList]
theorem OutE.more {α : Type} {E : Elt α} {e : TypeId} {w V w' : World} {a0 : Option Addr} {c0 : Nat} {l : List α} {p : α} {v' : Value} {o : Obj} (hO : OutE E e w V a0 c0 l) (ho' : w'.ownsRow w.heap.size e E.k v' (l.length + 1) (E.cells l ++ E.cells [p])) (hg' : (V.alloc o).grownBy w' (Value.slice a0 l.length c0).ownBlock) :
    ∃ a' c', v' = .slice a' (l ++ [p]).length c' ∧ OutE E e w w' a' c' (l ++ [p]) := by
  rw [← E.cells_append] at ho'
  have ho2 : w'.ownsRow w.heap.size e E.k v' (l ++ [p]).length (E.cells (l ++ [p])) := by rw [List.length_append]; exact ho'
  obtain ⟨a', c', rfl, _, _, _⟩ := rk_own ho2
  refine ⟨a', c', rfl, ho2, hO.below.trans ?_⟩
  refine ((Below.refl w.heap.size V).alloc hO.below.size o).grown hg' (by have := hO.below.size; simp; omega) fun k hk => ?_
  exact (hO.own.lt k hk).1
/-- Appending one: the literal of one is the newest block. -/
theorem append_elt {α : Type} (E : Elt α) {ops : Array Oper} {rest : List Oper} {o : Oper} {a : Act} {Q : Exit → Act → World → Prop} {w V : World} {t e : TypeId} {z : Value} {bytes : Nat}
    (ht : Try.prog.underlying t = some (.slice e)) (hinfo : (Try.prog.info? e).map (fun i => (i.zero, i.size, i.bytes)) = some (some z, E.k, bytes)) (hzc : z.cells.size = E.k) (hb : bytes ≤ 1000000) (hgd : o.guard = none) (s x : Operand)
    (ho : o.op = .call { callee := .builtin .append, args := #[s, x], argTypes := #[t, t] })
    (a0 : Option Addr) (c0 : Nat) (l : List α) (hs : a.eval s = .slice a0 l.length c0) (hO : OutE E e w V a0 c0 l) (p : α) {arr : Array Value} (harr : arr.toList = E.enc p)
    (g : Nat) (hx : a.eval x = .slice (some ⟨g, 0, none⟩) 1 1) (hg : g = V.heap.size) (hk : l.length ≤ 900000)
    (h : ∀ a' c' V' m, Hid (m = l ++ [p]) → OutE E e w V' a' c' m → wpList Try.prog ops Q rest (a.put o.dst (.slice a' m.length c')) V') :
    wpList Try.prog ops Q (o :: rest) a (V.alloc (.cells arr e)) := by
  subst hg
  refine append_rk hgd s x E.pos ht hinfo hzc ho w.heap.size l.length _ (E.cells l) (E.cells [p]) hs (hO.own.alloc _) _ 1 1 0 (V.heap.size + 1) hx (E.cells_len [p]) (lit_one_e V p harr) (E.one_cell [p]) (by omega) hb (by have := hO.below.size; simp; omega) ?_
  intro v' w' ho' hg'
  obtain ⟨a', c', rfl, hO'⟩ := hO.more ho' hg'
  exact h a' c' w' _ (Lib.hid rfl) hO'
theorem step_append_elt {α : Type} (E : Elt α) {ops : Array Oper} {o : Oper} {a : Act} {K : Act → World → Prop} {Q : Exit → Act → World → Prop} {w V : World} {X : Prop} {t e : TypeId} {z : Value} {bytes : Nat}
    (ht : Try.prog.underlying t = some (.slice e)) (hinfo : (Try.prog.info? e).map (fun i => (i.zero, i.size, i.bytes)) = some (some z, E.k, bytes)) (hzc : z.cells.size = E.k) (hb : bytes ≤ 1000000) (hgd : o.guard = none) (s x : Operand)
    (ho : o.op = .call { callee := .builtin .append, args := #[s, x], argTypes := #[t, t] })
    (a0 : Option Addr) (c0 : Nat) (l : List α) (hs : a.eval s = .slice a0 l.length c0) (hO : OutE E e w V a0 c0 l) (p : α) {arr : Array Value} (harr : arr.toList = E.enc p)
    (g : Nat) (hx : a.eval x = .slice (some ⟨g, 0, none⟩) 1 1) (hg : g = V.heap.size) (hk : l.length ≤ 900000)
    (h : ∀ a' c' V' m, Hid (m = l ++ [p]) → OutE E e w V' a' c' m → K (a.put o.dst (.slice a' m.length c')) V') :
    if Region.wanted o (yielded ops a.tmps) = true then Oper.wp Try.prog o a (V.alloc (.cells arr e)) K Q else X := by
  subst hg
  refine step_append_rk hgd s x E.pos ht hinfo hzc ho w.heap.size l.length _ (E.cells l) (E.cells [p]) hs (hO.own.alloc _) _ 1 1 0 (V.heap.size + 1) hx (E.cells_len [p]) (lit_one_e V p harr) (E.one_cell [p]) (by omega) hb (by have := hO.below.size; simp; omega) ?_
  intro v' w' ho' hg'
  obtain ⟨a', c', rfl, hO'⟩ := hO.more ho' hg'
  exact h a' c' w' _ (Lib.hid rfl) hO'
theorem ownk_on {w w' : World} {B k n : Nat} {e : TypeId} {v : Value} {xs : List Value} (h : w.ownsRow B e k v n xs) (hb : Below w.heap.size w w') : w'.ownsRow B e k v n xs := by
  refine ⟨h.1, ?_⟩
  rcases h.2 with h1 | ⟨g, cap, cur, h1, h2, h3, h4⟩
  · exact Or.inl h1
  · exact Or.inr ⟨g, cap, cur, h1, h2, old_obj hb h3, h4⟩
/-- Appending one to a row of the call's own that lies from a block on: what lies elsewhere stays. -/
theorem append_e {α : Type} (E : Elt α) {ops : Array Oper} {rest : List Oper} {o : Oper} {a : Act} {Q : Exit → Act → World → Prop} {V : World} {t e : TypeId} {z : Value} {bytes : Nat}
    (ht : Try.prog.underlying t = some (.slice e)) (hinfo : (Try.prog.info? e).map (fun i => (i.zero, i.size, i.bytes)) = some (some z, E.k, bytes)) (hzc : z.cells.size = E.k) (hb : bytes ≤ 1000000) (hgd : o.guard = none) (s x : Operand)
    (ho : o.op = .call { callee := .builtin .append, args := #[s, x], argTypes := #[t, t] })
    (B : Nat) (a0 : Option Addr) (c0 : Nat) (l : List α) (hs : a.eval s = .slice a0 l.length c0) (hown : V.ownsRow B e E.k (.slice a0 l.length c0) l.length (E.cells l)) (hB : B ≤ V.heap.size) (p : α) {arr : Array Value} (harr : arr.toList = E.enc p)
    (g : Nat) (hx : a.eval x = .slice (some ⟨g, 0, none⟩) 1 1) (hg : g = V.heap.size) (hk : l.length ≤ 900000)
    (h : ∀ a' c' V' m, Hid (m = l ++ [p]) → V'.ownsRow B e E.k (.slice a' m.length c') m.length (E.cells m) → (V.alloc (.cells arr e)).grownBy V' (Value.slice a0 l.length c0).ownBlock → wpList Try.prog ops Q rest (a.put o.dst (.slice a' m.length c')) V') :
    wpList Try.prog ops Q (o :: rest) a (V.alloc (.cells arr e)) := by
  subst hg
  refine append_rk hgd s x E.pos ht hinfo hzc ho B l.length _ (E.cells l) (E.cells [p]) hs (hown.alloc _) _ 1 1 0 (V.heap.size + 1) hx (E.cells_len [p]) (lit_one_e V p harr) (E.one_cell [p]) (by omega) hb (by simp; omega) ?_
  intro v' w' ho' hg'
  rw [← E.cells_append] at ho'
  have ho2 : w'.ownsRow B e E.k v' (l ++ [p]).length (E.cells (l ++ [p])) := by rw [List.length_append]; exact ho'
  obtain ⟨a', c', rfl, _, _, _⟩ := rk_own ho2
  exact h a' c' w' _ (Lib.hid rfl) ho2 hg'
end Go.Proofs.Ytifihejogbcbgaa
