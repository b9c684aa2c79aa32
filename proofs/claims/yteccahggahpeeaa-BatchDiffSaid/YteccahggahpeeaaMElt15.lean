/- Rows of elements of a few cells each, whatever they are: how they lie, and one more of them. -/
import Derived.Test.YteccahggahpeeaaMBatA15
import Derived.Test.YteccahggahpeeaaMInts
import Derived.Test.YteccahggahpeeaaMRows10
import Derived.RegionTactic
import Derived.BigRegion
import Derived.Deep.RegionHeld3
import Derived.WideShapes
import Derived.Deep.Slices
import Derived.OpenShut
namespace Go.Proofs.Yteccahggahpeeaa
open Go.RowKit

/-- A kind of elements: how many cells each has, and which. -/
structure Elt (α : Type) where
  k : Nat
  pos : 0 < k
  enc : α → List Value
  len : ∀ x, (enc x).length = k
  one : ∀ x, ∀ u ∈ enc x, u.oneCell' = true
def Elt.cells {α : Type} (E : Elt α) (l : List α) : List Value := l.flatMap E.enc
theorem Elt.cells_len {α : Type} (E : Elt α) (l : List α) : (E.cells l).length = l.length * E.k := by
  induction l with
  | nil => simp [Elt.cells]
  | cons x l ih =>
    unfold Elt.cells at ih ⊢
    rw [List.flatMap_cons, List.length_append, ih, E.len, List.length_cons, Nat.succ_mul, Nat.add_comm]
theorem Elt.cells_append {α : Type} (E : Elt α) (l m : List α) : E.cells (l ++ m) = E.cells l ++ E.cells m := by unfold Elt.cells; rw [List.flatMap_append]
theorem Elt.cells_one {α : Type} (E : Elt α) (x : α) : E.cells [x] = E.enc x := by unfold Elt.cells; simp
theorem Elt.one_cell {α : Type} (E : Elt α) (l : List α) : ∀ u ∈ E.cells l, u.oneCell' = true := by
  intro u hu
  obtain ⟨x, _, hx⟩ := List.mem_flatMap.1 hu
  exact E.one x u hx
theorem Elt.cells_at {α : Type} (E : Elt α) {l : List α} {j : Nat} {x : α} (hj : l[j]? = some x) {i : Nat} {v : Value} (hi : (E.enc x)[i]? = some v) : (E.cells l)[j * E.k + i]? = some v := by
  induction l generalizing j with
  | nil => simp at hj
  | cons y l ih =>
    have hc : E.cells (y :: l) = E.enc y ++ E.cells l := by unfold Elt.cells; rw [List.flatMap_cons]
    rw [hc]
    have hil : i < E.k := by rw [← E.len x]; exact (List.getElem?_eq_some_iff.1 hi).1
    cases j with
    | zero =>
      have : y = x := by simpa using hj
      subst this
      rw [Nat.zero_mul, Nat.zero_add, List.getElem?_append_left (by rw [E.len]; exact hil)]
      exact hi
    | succ j =>
      rw [List.getElem?_append_right (by rw [E.len, Nat.succ_mul]; omega), E.len, show (j + 1) * E.k + i - E.k = j * E.k + i by rw [Nat.succ_mul]; omega]
      exact ih (by simpa using hj)
/-- A slice of just these elements. -/
def Els {α : Type} (E : Elt α) (A B : Nat) (w : World) (a : Option Addr) (l : List α) : Prop := Rw A B w a (E.cells l)
theorem Els.at {α : Type} {E : Elt α} {A B : Nat} {w : World} {a : Option Addr} {l : List α} (h : Els E A B w a l) {j : Nat} {x : α} (hj : l[j]? = some x) : ∃ b off, a = some ⟨b, off, none⟩ ∧ A ≤ b ∧ b < B ∧ ∀ i v, (E.enc x)[i]? = some v → w.cell? ⟨b, off + (j * E.k + i), none⟩ = some v := by
  rcases h with h | ⟨b, off, ha, h1, h2, hc⟩
  · have := E.cells_len l
    rw [h] at this
    have hl := (List.getElem?_eq_some_iff.1 hj).1
    have hp := Nat.mul_pos (Nat.lt_of_le_of_lt (Nat.zero_le _) hl) E.pos
    simp at this
    omega
  · exact ⟨b, off, ha, h1, h2, fun i v hi => hc _ _ (E.cells_at hj hi)⟩
theorem Els.step {α : Type} {E : Elt α} {A : Nat} {w w' : World} {a : Option Addr} {l : List α} (h : Els E A w.heap.size w a l) (hb : Below w.heap.size w w') : Els E A w'.heap.size w' a l := Rw.step h hb
theorem Els.wide {α : Type} {E : Elt α} {A A' B B' : Nat} {w : World} {a : Option Addr} {l : List α} (h : Els E A B w a l) (hA : A' ≤ A) (hB : B ≤ B') : Els E A' B' w a l := Rw.wide h hA hB
theorem Els.below {α : Type} {E : Elt α} {A B : Nat} {w w' : World} {a : Option Addr} {l : List α} (h : Els E A B w a l) (hb : Below B w w') : Els E A B w' a l := Rw.below h hb
/-- A list of the call's own, under way. -/
structure OutE {α : Type} (E : Elt α) (e : TypeId) (w W : World) (a : Option Addr) (c : Nat) (l : List α) : Prop where
  own : W.ownsRow w.heap.size e E.k (.slice a l.length c) l.length (E.cells l)
  below : Below w.heap.size w W
theorem OutE.start {α : Type} (E : Elt α) (e : TypeId) (w : World) : OutE E e w w none 0 [] := ⟨by have := World.ownsRow_nil w w.heap.size e E.k; exact this, Below.refl _ _⟩
theorem OutE.els {α : Type} {E : Elt α} {e : TypeId} {w W : World} {a : Option Addr} {c : Nat} {l : List α} (h : OutE E e w W a c l) : l.length ≤ c ∧ Els E w.heap.size W.heap.size W a l := by
  obtain ⟨a', c', hv, hc, _, ht⟩ := rk_own h.own
  injection hv with h1 _ h3
  subst h1 h3
  exact ⟨hc, ht⟩
theorem OutE.drew {α : Type} {E : Elt α} {e : TypeId} {w W : World} {a : Option Addr} {c : Nat} {l : List α} (h : OutE E e w W a c l) : OutE E e w W.drew a c l := ⟨h.own, h.below.drew⟩
theorem lit_one_e {α : Type} {E : Elt α} {e : TypeId} (V : World) (p : α) {arr : Array Value} (ha : arr.toList = E.enc p) : Rw 0 (V.heap.size + 1) (V.alloc (.cells arr e)) (some ⟨V.heap.size, 0, none⟩) (E.cells [p]) := by
  refine Or.inr ⟨V.heap.size, 0, rfl, Nat.zero_le _, by omega, fun j u hj => lit_cell V _ _ j u ?_⟩
  rw [E.cells_one, ← ha] at hj
  rw [← hj, Array.getElem?_toList]
theorem OutE.more {α : Type} {E : Elt α} {e : TypeId} {w V w' : World} {a0 : Option Addr} {c0 : Nat} {l : List α} {p : α} {v' : Value} {o : Obj} (hO : OutE E e w V a0 c0 l) (ho' : w'.ownsRow w.heap.size e E.k v' (l.length + 1) (E.cells l ++ E.cells [p])) (hg' : (V.alloc o).grownBy w' (Value.slice a0 l.length c0).ownBlock) :
    ∃ a' c', v' = .slice a' (l ++ [p]).length c' ∧ OutE E e w w' a' c' (l ++ [p]) := by
  rw [← E.cells_append] at ho'
  have ho2 : w'.ownsRow w.heap.size e E.k v' (l ++ [p]).length (E.cells (l ++ [p])) := by rw [List.length_append]; exact ho'
  obtain ⟨a', c', rfl, _, _, _⟩ := rk_own ho2
  refine ⟨a', c', rfl, ho2, hO.below.trans ?_⟩
  refine ((Below.refl w.heap.size V).alloc hO.below.size o).grown hg' (by have := hO.below.size; simp; omega) fun k hk => ?_
  exact (hO.own.lt k hk).1
/-- Appending one: the literal of one is the newest block. -/
theorem append_elt {α : Type} (E : Elt α) {ops : Array Oper} {rest : List Oper} {o : Oper} {a : Act} {Q : Exit → Act → World → Prop} {w V : World} {t e : TypeId} {z : Value} {bytes : Nat}
    (ht : Try.prog.underlying t = some (.slice e)) (hinfo : (Try.prog.info? e).map (fun i => (i.zero, i.size, i.bytes)) = some (some z, E.k, bytes)) (hzc : z.cells.size = E.k) (hb : bytes ≤ 1000000) (hgd : o.guard = none) (s x : Operand)
    (ho : o.op = .call { callee := .builtin .append, args := #[s, x], argTypes := #[t, t] })
    (a0 : Option Addr) (c0 : Nat) (l : List α) (hs : a.eval s = .slice a0 l.length c0) (hO : OutE E e w V a0 c0 l) (p : α) {arr : Array Value} (harr : arr.toList = E.enc p)
    (g : Nat) (hx : a.eval x = .slice (some ⟨g, 0, none⟩) 1 1) (hg : g = V.heap.size) (hk : l.length ≤ 900000)
    (h : ∀ a' c' V' m, Hid (m = l ++ [p]) → OutE E e w V' a' c' m → wpList Try.prog ops Q rest (a.put o.dst (.slice a' m.length c')) V') :
    wpList Try.prog ops Q (o :: rest) a (V.alloc (.cells arr e)) := by
  subst hg
  refine append_rk hgd s x E.pos ht hinfo hzc ho w.heap.size l.length _ (E.cells l) (E.cells [p]) hs (hO.own.alloc _) _ 1 1 0 (V.heap.size + 1) hx (E.cells_len [p]) (lit_one_e V p harr) (E.one_cell [p]) (by omega) hb (by have := hO.below.size; simp; omega) ?_
  intro v' w' ho' hg'
  obtain ⟨a', c', rfl, hO'⟩ := hO.more ho' hg'
  exact h a' c' w' _ (Lib.hid rfl) hO'
theorem step_append_elt {α : Type} (E : Elt α) {ops : Array Oper} {o : Oper} {a : Act} {K : Act → World → Prop} {Q : Exit → Act → World → Prop} {w V : World} {X : Prop} {t e : TypeId} {z : Value} {bytes : Nat}
    (ht : Try.prog.underlying t = some (.slice e)) (hinfo : (Try.prog.info? e).map (fun i => (i.zero, i.size, i.bytes)) = some (some z, E.k, bytes)) (hzc : z.cells.size = E.k) (hb : bytes ≤ 1000000) (hgd : o.guard = none) (s x : Operand)
    (ho : o.op = .call { callee := .builtin .append, args := #[s, x], argTypes := #[t, t] })
    (a0 : Option Addr) (c0 : Nat) (l : List α) (hs : a.eval s = .slice a0 l.length c0) (hO : OutE E e w V a0 c0 l) (p : α) {arr : Array Value} (harr : arr.toList = E.enc p)
    (g : Nat) (hx : a.eval x = .slice (some ⟨g, 0, none⟩) 1 1) (hg : g = V.heap.size) (hk : l.length ≤ 900000)
    (h : ∀ a' c' V' m, Hid (m = l ++ [p]) → OutE E e w V' a' c' m → K (a.put o.dst (.slice a' m.length c')) V') :
    if Region.wanted o (yielded ops a.tmps) = true then Oper.wp Try.prog o a (V.alloc (.cells arr e)) K Q else X := by
  subst hg
  refine step_append_rk hgd s x E.pos ht hinfo hzc ho w.heap.size l.length _ (E.cells l) (E.cells [p]) hs (hO.own.alloc _) _ 1 1 0 (V.heap.size + 1) hx (E.cells_len [p]) (lit_one_e V p harr) (E.one_cell [p]) (by omega) hb (by have := hO.below.size; simp; omega) ?_
  intro v' w' ho' hg'
  obtain ⟨a', c', rfl, hO'⟩ := hO.more ho' hg'
  exact h a' c' w' _ (Lib.hid rfl) hO'
theorem ownk_on {w w' : World} {B k n : Nat} {e : TypeId} {v : Value} {xs : List Value} (h : w.ownsRow B e k v n xs) (hb : Below w.heap.size w w') : w'.ownsRow B e k v n xs := by
  refine ⟨h.1, ?_⟩
  rcases h.2 with h1 | ⟨g, cap, cur, h1, h2, h3, h4⟩
  · exact Or.inl h1
  · exact Or.inr ⟨g, cap, cur, h1, h2, old_obj hb h3, h4⟩
/-- Appending one to a row of the call's own that lies from a block on: what lies elsewhere stays. -/
theorem append_e {α : Type} (E : Elt α) {ops : Array Oper} {rest : List Oper} {o : Oper} {a : Act} {Q : Exit → Act → World → Prop} {V : World} {t e : TypeId} {z : Value} {bytes : Nat}
    (ht : Try.prog.underlying t = some (.slice e)) (hinfo : (Try.prog.info? e).map (fun i => (i.zero, i.size, i.bytes)) = some (some z, E.k, bytes)) (hzc : z.cells.size = E.k) (hb : bytes ≤ 1000000) (hgd : o.guard = none) (s x : Operand)
    (ho : o.op = .call { callee := .builtin .append, args := #[s, x], argTypes := #[t, t] })
    (B : Nat) (a0 : Option Addr) (c0 : Nat) (l : List α) (hs : a.eval s = .slice a0 l.length c0) (hown : V.ownsRow B e E.k (.slice a0 l.length c0) l.length (E.cells l)) (hB : B ≤ V.heap.size) (p : α) {arr : Array Value} (harr : arr.toList = E.enc p)
    (g : Nat) (hx : a.eval x = .slice (some ⟨g, 0, none⟩) 1 1) (hg : g = V.heap.size) (hk : l.length ≤ 900000)
    (h : ∀ a' c' V' m, Hid (m = l ++ [p]) → V'.ownsRow B e E.k (.slice a' m.length c') m.length (E.cells m) → (V.alloc (.cells arr e)).grownBy V' (Value.slice a0 l.length c0).ownBlock → wpList Try.prog ops Q rest (a.put o.dst (.slice a' m.length c')) V') :
    wpList Try.prog ops Q (o :: rest) a (V.alloc (.cells arr e)) := by
  subst hg
  refine append_rk hgd s x E.pos ht hinfo hzc ho B l.length _ (E.cells l) (E.cells [p]) hs (hown.alloc _) _ 1 1 0 (V.heap.size + 1) hx (E.cells_len [p]) (lit_one_e V p harr) (E.one_cell [p]) (by omega) hb (by simp; omega) ?_
  intro v' w' ho' hg'
  rw [← E.cells_append] at ho'
  have ho2 : w'.ownsRow B e E.k v' (l ++ [p]).length (E.cells (l ++ [p])) := by rw [List.length_append]; exact ho'
  obtain ⟨a', c', rfl, _, _, _⟩ := rk_own ho2
  exact h a' c' w' _ (Lib.hid rfl) ho2 hg'
end Go.Proofs.Yteccahggahpeeaa
namespace Go.Proofs.Yteccahggahpeeaa
open Go.RowKit

def recE : Elt Rec15 where
  k := 2
  pos := by decide
  enc := fun r => [.int .i64 r.1, .string (tx r.2)]
  len := fun _ => rfl
  one := fun x u hu => by
    rcases List.mem_cons.1 hu with rfl | hu
    · rfl
    · rw [List.mem_singleton.1 hu]; rfl
def clE : Elt Cl15 where
  k := 3
  pos := by decide
  enc := fun c => [.int .i64 c.1, .int .i64 c.2.1, .string (tx c.2.2)]
  len := fun _ => rfl
  one := fun x u hu => by
    rcases List.mem_cons.1 hu with rfl | hu
    · rfl
    · rcases List.mem_cons.1 hu with rfl | hu
      · rfl
      · rw [List.mem_singleton.1 hu]; rfl
def opE : Elt Op15 where
  k := 4
  pos := by decide
  enc := fun o => [.int .i64 o.t, .int .i64 o.k, .int .i64 o.id, .string (tx o.x)]
  len := fun _ => rfl
  one := fun x u hu => by
    rcases List.mem_cons.1 hu with rfl | hu
    · rfl
    · rcases List.mem_cons.1 hu with rfl | hu
      · rfl
      · rcases List.mem_cons.1 hu with rfl | hu
        · rfl
        · rw [List.mem_singleton.1 hu]; rfl
theorem cls_at {A B : Nat} {w : World} {a : Option Addr} {cs : List Cl15} (h : Els clE A B w a cs) {i : Nat} (hi : i < cs.length) : ∃ b off, a = some ⟨b, off, none⟩ ∧ b < B ∧ w.cell? ⟨b, off + i * 3, none⟩ = some (.int .i64 (clAt cs i).1) ∧ w.cell? ⟨b, off + i * 3 + 1, none⟩ = some (.int .i64 (clAt cs i).2.1) ∧ w.cell? ⟨b, off + i * 3 + 2, none⟩ = some (.string (tx (clAt cs i).2.2)) := by
  obtain ⟨b, off, ha, _, hb, hc⟩ := h.at (clAt_get hi)
  exact ⟨b, off, ha, hb, hc 0 _ rfl, by rw [Nat.add_assoc]; exact hc 1 _ rfl, by rw [Nat.add_assoc]; exact hc 2 _ rfl⟩
def opAt (l : List Op15) (i : Nat) : Op15 := l.getD i ⟨0, 0, 0, []⟩
theorem opAt_get {l : List Op15} {i : Nat} (h : i < l.length) : l[i]? = some (opAt l i) := by
  unfold opAt; rw [List.getElem?_eq_getElem h, List.getD_eq_getElem?_getD, List.getElem?_eq_getElem h]; rfl
theorem ops_at {A B : Nat} {w : World} {a : Option Addr} {l : List Op15} (h : Els opE A B w a l) {i : Nat} (hi : i < l.length) : ∃ b off, a = some ⟨b, off, none⟩ ∧ b < B ∧ w.cell? ⟨b, off + i * 4, none⟩ = some (.int .i64 (opAt l i).t) ∧ w.cell? ⟨b, off + i * 4 + 1, none⟩ = some (.int .i64 (opAt l i).k) ∧ w.cell? ⟨b, off + i * 4 + 2, none⟩ = some (.int .i64 (opAt l i).id) ∧ w.cell? ⟨b, off + i * 4 + 3, none⟩ = some (.string (tx (opAt l i).x)) := by
  obtain ⟨b, off, ha, _, hb, hc⟩ := h.at (opAt_get hi)
  exact ⟨b, off, ha, hb, hc 0 _ rfl, by rw [Nat.add_assoc]; exact hc 1 _ rfl, by rw [Nat.add_assoc]; exact hc 2 _ rfl, by rw [Nat.add_assoc]; exact hc 3 _ rfl⟩
def recAt (T : Tb15) (i : Nat) : Rec15 := T.getD i (0, [])
theorem recAt_get {T : Tb15} {i : Nat} (h : i < T.length) : T[i]? = some (recAt T i) := by
  unfold recAt; rw [List.getElem?_eq_getElem h, List.getD_eq_getElem?_getD, List.getElem?_eq_getElem h]; rfl
theorem recs_at {A B : Nat} {w : World} {a : Option Addr} {T : Tb15} (h : Els recE A B w a T) {i : Nat} (hi : i < T.length) : ∃ b off, a = some ⟨b, off, none⟩ ∧ b < B ∧ w.cell? ⟨b, off + i * 2, none⟩ = some (.int .i64 (recAt T i).1) ∧ w.cell? ⟨b, off + i * 2 + 1, none⟩ = some (.string (tx (recAt T i).2)) := by
  obtain ⟨b, off, ha, _, hb, hc⟩ := h.at (recAt_get hi)
  exact ⟨b, off, ha, hb, hc 0 _ rfl, by rw [Nat.add_assoc]; exact hc 1 _ rfl⟩
/-- The document's store by value. -/
abbrev docVal (n : Nat) (a : Option Addr) (c : Nat) (cs : List Cl15) : Value := .agg #[.int .i64 n, .slice a cs.length c]
abbrev opVal (o : Op15) : Value := .agg #[.int .i64 o.t, .int .i64 o.k, .int .i64 o.id, .string (tx o.x)]
/-- It lies in a block of its own. -/
def BoxD (w W : World) (n : Nat) (a : Option Addr) (c : Nat) (cs : List Cl15) : Prop :=
  Below w.heap.size w W ∧ W.cell? ⟨w.heap.size, 0, none⟩ = some (.int .i64 n) ∧ W.cell? ⟨w.heap.size, 1, none⟩ = some (.slice a cs.length c)
theorem boxD_start (w : World) (n : Nat) (a : Option Addr) (c : Nat) (cs : List Cl15) : BoxD w (w.alloc (.cells #[.int .i64 n, .slice a cs.length c] 32)) n a c cs := by
  have h0 := lit_cell w #[.int .i64 n, .slice a cs.length c] 32 0 _ rfl
  have h1 := lit_cell w #[.int .i64 n, .slice a cs.length c] 32 1 _ rfl
  exact ⟨(Below.refl _ w).alloc (Nat.le_refl _) _, h0, by rw [Nat.zero_add] at h1; exact h1⟩
theorem BoxD.step {w W V : World} {n : Nat} {a : Option Addr} {c : Nat} {cs : List Cl15} (h : BoxD w W n a c cs) (hb : Below W.heap.size W V) : BoxD w V n a c cs :=
  have hlt := World.block_lt_of_cell? W _ h.2.1
  ⟨h.1.trans (hb.mono h.1.size), (hb.cell (p := ⟨w.heap.size, 0, none⟩) hlt).trans h.2.1, (hb.cell (p := ⟨w.heap.size, 1, none⟩) hlt).trans h.2.2⟩
theorem infoCl : (Try.prog.info? 72).map (fun i => (i.zero, i.size, i.bytes)) = some (some (.agg #[.int .i64 0, .int .i64 0, .string ⟨#[]⟩]), 3, 32) := by kernel_rfl
theorem infoOpR : (Try.prog.info? 76).map (fun i => (i.zero, i.size, i.bytes)) = some (some (.agg #[.int .i64 0, .int .i64 0, .int .i64 0, .string ⟨#[]⟩]), 4, 40) := by kernel_rfl
end Go.Proofs.Yteccahggahpeeaa
namespace Go.Proofs.Yteccahggahpeeaa
open Go.RowKit

/-- Tables, as they lie. -/
def TabsV (A B : Nat) (w : World) (a : Option Addr) (S : St15) : Prop :=
  S = [] ∨ ∃ b off, a = some ⟨b, off, none⟩ ∧ A ≤ b ∧ b < B ∧ ∀ j : Nat, j < S.length → ∃ (aj : Option Addr) (cj : Nat), w.cell? ⟨b, off + j, none⟩ = some (.slice aj (tab S (j : Int)).length cj) ∧ (tab S (j : Int)).length ≤ cj ∧ Els recE A B w aj (tab S (j : Int))
theorem TabsV.below {A B : Nat} {w w' : World} {a : Option Addr} {S : St15} (h : TabsV A B w a S) (hb : Below B w w') : TabsV A B w' a S := by
  rcases h with h | ⟨b, off, ha, hA, hB, hc⟩
  · exact Or.inl h
  · refine Or.inr ⟨b, off, ha, hA, hB, fun j hj => ?_⟩
    obtain ⟨aj, cj, h1, h2, h3⟩ := hc j hj
    exact ⟨aj, cj, (hb.cell (p := ⟨b, off + j, none⟩) hB).trans h1, h2, h3.below hb⟩
theorem TabsV.wide {A A' B B' : Nat} {w : World} {a : Option Addr} {S : St15} (h : TabsV A B w a S) (hA : A' ≤ A) (hB : B ≤ B') : TabsV A' B' w a S := by
  rcases h with h | ⟨b, off, ha, h1, h2, hc⟩
  · exact Or.inl h
  · refine Or.inr ⟨b, off, ha, by omega, by omega, fun j hj => ?_⟩
    obtain ⟨aj, cj, h1, h2, h3⟩ := hc j hj
    exact ⟨aj, cj, h1, h2, h3.wide hA hB⟩
theorem TabsV.step {A : Nat} {w w' : World} {a : Option Addr} {S : St15} (h : TabsV A w.heap.size w a S) (hb : Below w.heap.size w w') : TabsV A w'.heap.size w' a S := (h.below hb).wide (Nat.le_refl _) hb.size
theorem TabsV.at {A B : Nat} {w : World} {a : Option Addr} {S : St15} (h : TabsV A B w a S) {j : Nat} (hj : j < S.length) : ∃ b off, a = some ⟨b, off, none⟩ ∧ b < B ∧ ∃ (aj : Option Addr) (cj : Nat), w.cell? ⟨b, off + j, none⟩ = some (.slice aj (tab S (j : Int)).length cj) ∧ (tab S (j : Int)).length ≤ cj ∧ Els recE A B w aj (tab S (j : Int)) := by
  rcases h with h | ⟨b, off, ha, _, hb, hc⟩
  · subst h; simp at hj
  · exact ⟨b, off, ha, hb, hc j hj⟩
abbrev stVal (a : Option Addr) (c : Nat) (S : St15) : Value := .agg #[.slice a S.length c]
/-- A store that came in by value lies in a block of its own. -/
def BoxS (w W : World) (a : Option Addr) (c : Nat) (S : St15) : Prop := Below w.heap.size w W ∧ W.cell? ⟨w.heap.size, 0, none⟩ = some (.slice a S.length c)
theorem boxS_start (w : World) (a : Option Addr) (c : Nat) (S : St15) : BoxS w (w.alloc (.cells #[.slice a S.length c] 24)) a c S :=
  ⟨(Below.refl _ w).alloc (Nat.le_refl _) _, by have := lit_cell w #[.slice a S.length c] 24 0 _ rfl; exact this⟩
theorem BoxS.step {w W V : World} {a : Option Addr} {c : Nat} {S : St15} (h : BoxS w W a c S) (hb : Below W.heap.size W V) : BoxS w V a c S :=
  ⟨h.1.trans (hb.mono h.1.size), (hb.cell (p := ⟨w.heap.size, 0, none⟩) (World.block_lt_of_cell? W _ h.2)).trans h.2⟩
/-- The laws' bounds. -/
def fewT (T : Tb15) : Bool := decide (T.length ≤ 70 ∧ ∀ k, k < T.length → (recAt T k).2.length ≤ 300)
def fewS (S : St15) : Bool := decide (S.length ≤ 12 ∧ ∀ i : Nat, i < S.length → fewT (tab S (i : Int)) = true)
def shortL (l : List Op15) : Bool := decide (l.length ≤ 60 ∧ ∀ i, i < l.length → (opAt l i).x.length ≤ 300)
set_option maxHeartbeats 4000000 in
theorem short15_any (a : Option Addr) (c : Nat) (l : List Op15) (w : World) (h : Els opE 0 w.heap.size w a l) :
    Calls Try.prog 9 #[.slice a l.length c] w fun e w' => e = .returned (.bool (shortL l)) ∧ w = w' := by
  by_cases h1 : 60 < l.length
  · have e1 : decide (60 < (l.length : Int)) = true := decide_eq_true (by omega)
    have e1' : decide (60 < l.length) = true := decide_eq_true h1
    have HR : Hid (shortL l = false) := Lib.hid (decide_eq_false fun q => by omega)
    clear h1 h
    go_enter Try.func9, Try.ntmps9
    go_wp2
    go_ret
    exact ⟨by rw [HR.out]; rfl, rfl⟩
  have e1 : decide (60 < (l.length : Int)) = false := decide_eq_false (by omega)
  have e1' : decide (60 < l.length) = false := decide_eq_false h1
  have hll : l.length ≤ 60 := by omega
  have HX := Lib.hid h
  clear h1 h
  go_enter Try.func9, Try.ntmps9
  go_upto_region 4 with fail
  go_loop [3] (fun s3 => ∃ k : Nat, s3 = .int .i64 k ∧ k ≤ l.length ∧ Hid (∀ i, i < k → (opAt l i).x.length ≤ 300)) (fun i => l.length + 1 - (intOf i).toNat)
  case atStart => exact ⟨0, rfl, by omega, Lib.hid fun i hi => absurd hi (by omega)⟩
  case round =>
    obtain ⟨k, rfl, hk, HN⟩ := hrel
    by_cases hlt : k < l.length
    · have i1 : (k : Int) < (l.length : Int) := by omega
      have i3 : (0 : Int) ≤ (k : Int) := by omega
      obtain ⟨b, off, ea, _, _, _, _, x3⟩ := ops_at HX.out hlt
      subst ea
      by_cases q : 300 < (opAt l k).x.length
      · have d1 : decide (300 < ((tx (opAt l k).x).size : Int)) = true := decide_eq_true (by rw [tx_size]; omega)
        have d1' : decide (300 < (tx (opAt l k).x).size) = true := decide_eq_true (by rw [tx_size]; exact q)
        have HR : Hid (shortL l = false) := Lib.hid (decide_eq_false fun z => by have := z.2 k hlt; omega)
        clear q
        go_wp2
        go_ret
        exact ⟨by rw [HR.out]; rfl, rfl⟩
      · have d1 : decide (300 < ((tx (opAt l k).x).size : Int)) = false := decide_eq_false (by rw [tx_size]; omega)
        have d1' : decide (300 < (tx (opAt l k).x).size) = false := decide_eq_false (by rw [tx_size]; exact q)
        have HR : Hid (∀ i, i < k + 1 → (opAt l i).x.length ≤ 300) := Lib.hid fun i hi => by
          rcases (by omega : i < k ∨ i = k) with z | z
          · exact HN.out i z
          · rw [z]; omega
        clear q
        go_wp2
        go_round
        case rel => exact ⟨k + 1, by go_num, by omega, HR⟩
        case measure => first | (simp [intOf]; omega) | simp [intOf]
    · obtain rfl : k = l.length := by omega
      have HR : Hid (shortL l = true) := Lib.hid (decide_eq_true ⟨hll, HN.out⟩)
      go_wp2
      go_ret
      exact ⟨by rw [HR.out]; rfl, rfl⟩
end Go.Proofs.Yteccahggahpeeaa
namespace Go.Proofs.Yteccahggahpeeaa
open Go.RowKit

theorem take_op (l : List Op15) (k : Nat) (h : k < l.length) : l.take (k + 1) = l.take k ++ [opAt l k] := by
  rw [List.take_add_one, opAt_get h]; rfl
set_option maxRecDepth 100000 in
set_option maxHeartbeats 8000000 in
theorem ops15_any (a : Option Addr) (c : Nat) (l : List Op15) (w : World) (h : Els opE 0 w.heap.size w a l) (hl : l.length ≤ 100000) :
    Calls Try.prog 14 #[.slice a l.length c] w fun e w' => ∃ oa oc, e = .returned (.slice oa l.length oc) ∧ l.length ≤ oc ∧ Els opE w.heap.size w'.heap.size w' oa l ∧ Below w.heap.size w w' := by
  have HX := Lib.hid h
  have HO0 := Lib.hid (OutE.start opE 76 w)
  clear h
  go_enter Try.func14, Try.ntmps14
  go_upto_region 3 with fail
  go_loopw [3, 4] (fun s3 s4 wr => ∃ (k : Nat) (oa : Option Addr) (oc : Nat) (m : List Op15), s3 = .slice oa m.length oc ∧ s4 = .int .i64 k ∧ k ≤ l.length ∧ Hid (OutE opE 76 w wr oa oc m) ∧ Hid (m = l.take k)) (fun _ k _ => l.length + 1 - (intOf k).toNat)
  case atStart => exact ⟨0, none, 0, [], rfl, rfl, by omega, HO0, Lib.hid rfl⟩
  case round =>
    clear HO0
    obtain ⟨k, oa, oc, m, rfl, rfl, hk, HO, HM⟩ := hrel
    by_cases hlt : k < l.length
    · have i1 : (k : Int) < (l.length : Int) := by omega
      have i3 : (0 : Int) ≤ (k : Int) := by omega
      obtain ⟨b, off, eb, hbb, o0, o1, o2, o3⟩ := ops_at HX.out hlt
      have hml : m.length ≤ 900000 := by rw [HM.out, List.length_take]; omega
      have HM3 : Hid (m ++ [opAt l k] = l.take (k + 1)) := Lib.hid (by rw [HM.out, take_op l k hlt])
      have HOP : Hid (∀ W, Below w.heap.size w W → W.cell? ⟨b, off + k * 4, none⟩ = some (.int .i64 (opAt l k).t) ∧ W.cell? ⟨b, off + k * 4 + 1, none⟩ = some (.int .i64 (opAt l k).k) ∧ W.cell? ⟨b, off + k * 4 + 2, none⟩ = some (.int .i64 (opAt l k).id) ∧ W.cell? ⟨b, off + k * 4 + 3, none⟩ = some (.string (tx (opAt l k).x))) := Lib.hid fun W hW => ⟨(hW.cell (p := ⟨b, off + k * 4, none⟩) hbb).trans o0, (hW.cell (p := ⟨b, off + k * 4 + 1, none⟩) hbb).trans o1, (hW.cell (p := ⟨b, off + k * 4 + 2, none⟩) hbb).trans o2, (hW.cell (p := ⟨b, off + k * 4 + 3, none⟩) hbb).trans o3⟩
      subst eb
      clear o0 o1 o2 o3 hbb
      generalize opAt l k = o at *
      go_upto_region 5 with fail
      have HO3 := Lib.hid HO.out.drew
      have SS := HOP.out _ HO3.out.below
      go_region_held3 (fun v => v.cell? ⟨b, off + k * 4, none⟩ = some (.int .i64 o.t) ∧ v.cell? ⟨b, off + k * 4 + 1, none⟩ = some (.int .i64 o.k) ∧ v.cell? ⟨b, off + k * 4 + 2, none⟩ = some (.int .i64 o.id) ∧ v.cell? ⟨b, off + k * 4 + 3, none⟩ = some (.string (tx o.x))) (first | assumption | exact HOP.out _ hO7.below | exact HOP.out _ (Below.drew (Below.alloc HO.out.below HO.out.below.size _)) | go_keep) (first
        | (refine step_append_elt (V := World.drew _) opE Try.underlying39 infoOpR rfl (by decide) rfl _ _ rfl oa oc m rfl HO3.out o rfl _ rfl rfl hml ?_; intro a7 c7 V7 ts hts' hO7)
        | fail)
      have hts := hts'.out
      clear hts'
      have HO7 := Lib.hid hO7
      rw [← hts] at HM3
      clear hO7 hts SS
      go_wp2
      go_roundw
      case rel => exact ⟨k + 1, a7, c7, ts, rfl, by first | rfl | go_num, by omega, HO7, HM3⟩
      case measure => first | (simp [intOf]; omega) | simp [intOf]
    · obtain rfl : k = l.length := by omega
      have HML : Hid (m = l) := Lib.hid (by rw [HM.out, List.take_length])
      obtain ⟨hc, he⟩ := HO.out.els
      have HE := Lib.hid (And.intro hc he)
      clear hc he
      go_wp2
      go_ret
      refine ⟨oa, oc, by rw [HML.out]; rfl, ?_, ?_, HO.out.below⟩
      · rw [← HML.out]; exact HE.out.1
      · rw [← HML.out]; exact HE.out.2
end Go.Proofs.Yteccahggahpeeaa
namespace Go.Proofs.Yteccahggahpeeaa
open Go.RowKit

set_option maxRecDepth 100000 in
set_option maxHeartbeats 4000000 in
theorem few15_any (a : Option Addr) (c : Nat) (S : St15) (w : World) (h : TabsV 0 w.heap.size w a S) :
    Calls Try.prog 8 #[stVal a c S] w fun e w' => e = .returned (.bool (fewS S)) ∧ Below w.heap.size w w' := by
  obtain ⟨hb, c0⟩ := boxS_start w a c S
  have HB := Lib.hid hb
  have HX := Lib.hid (h.step hb)
  clear h hb
  by_cases h1 : 12 < S.length
  · have e1 : decide (12 < (S.length : Int)) = true := decide_eq_true (by omega)
    have e1' : decide (12 < S.length) = true := decide_eq_true h1
    have HR : Hid (fewS S = false) := Lib.hid (decide_eq_false fun q => by omega)
    clear h1 HX
    go_enter Try.func8, Try.ntmps8
    go_wp2
    go_ret
    exact ⟨by rw [HR.out]; rfl, HB.out⟩
  have e1 : decide (12 < (S.length : Int)) = false := decide_eq_false (by omega)
  have e1' : decide (12 < S.length) = false := decide_eq_false h1
  have hll : S.length ≤ 12 := by omega
  clear h1
  go_enter Try.func8, Try.ntmps8
  go_upto_region 4 with fail
  obtain ⟨V, hV⟩ : ∃ V, V = w.alloc (.cells #[.slice a S.length c] 24) := ⟨_, rfl⟩
  rw [← hV] at c0 HX HB ⊢
  clear hV e1 e1'
  go_loop [3] (fun s3 => ∃ k : Nat, s3 = .int .i64 k ∧ k ≤ S.length ∧ Hid (∀ i : Nat, i < k → fewT (tab S (i : Int)) = true)) (fun i => S.length + 1 - (intOf i).toNat)
  case atStart => exact ⟨0, rfl, by omega, Lib.hid fun i hi => absurd hi (by omega)⟩
  case round =>
    obtain ⟨k, rfl, hk, HN⟩ := hrel
    by_cases hlt : k < S.length
    · have i1 : (k : Int) < (S.length : Int) := by omega
      have i3 : (0 : Int) ≤ (k : Int) := by omega
      obtain ⟨b, off, ea, _, aj, cj, x0, _, hT⟩ := HX.out.at hlt
      have HT := Lib.hid hT
      subst ea
      have HS0 : Hid (fewT (tab S (k : Int)) = false → fewS S = false) := Lib.hid fun z => decide_eq_false fun y => by have := y.2 k hlt; rw [z] at this; cases this
      have HS1 : Hid (fewT (tab S (k : Int)) = true → ∀ i : Nat, i < k + 1 → fewT (tab S (i : Int)) = true) := Lib.hid fun z i hi => by
        rcases (by omega : i < k ∨ i = k) with y | y
        · exact HN.out i y
        · rw [y]; exact z
      obtain ⟨T, hT2⟩ : ∃ T, tab S (k : Int) = T := ⟨_, rfl⟩
      rw [hT2] at x0 HT HS0 HS1
      clear hT hT2 HN
      by_cases h2 : 70 < T.length
      · have e2 : decide (70 < (T.length : Int)) = true := decide_eq_true (by omega)
        have e2' : decide (70 < T.length) = true := decide_eq_true h2
        have HR := Lib.hid (HS0.out (decide_eq_false fun q => by omega))
        clear h2
        go_wp2
        go_ret
        exact ⟨by rw [HR.out]; rfl, HB.out⟩
      have e2 : decide (70 < (T.length : Int)) = false := decide_eq_false (by omega)
      have e2' : decide (70 < T.length) = false := decide_eq_false h2
      have hlT : T.length ≤ 70 := by omega
      clear h2
      go_upto_region 9 with fail
      go_loop [4] (fun s4 => ∃ j : Nat, s4 = .int .i64 j ∧ j ≤ T.length ∧ Hid (∀ i, i < j → (recAt T i).2.length ≤ 300)) (fun i => T.length + 1 - (intOf i).toNat)
      case atStart => exact ⟨0, rfl, by omega, Lib.hid fun i hi => absurd hi (by omega)⟩
      case round =>
        obtain ⟨j, rfl, hj, HN⟩ := hrel
        by_cases hlt2 : j < T.length
        · have j1 : (j : Int) < (T.length : Int) := by omega
          have j3 : (0 : Int) ≤ (j : Int) := by omega
          obtain ⟨b', off', ea', _, y0, y1⟩ := recs_at HT.out hlt2
          subst ea'
          by_cases q : 300 < (recAt T j).2.length
          · have d1 : decide (300 < ((tx (recAt T j).2).size : Int)) = true := decide_eq_true (by rw [tx_size]; omega)
            have d1' : decide (300 < (tx (recAt T j).2).size) = true := decide_eq_true (by rw [tx_size]; exact q)
            have HR := Lib.hid (HS0.out (decide_eq_false fun z => by have := z.2 j hlt2; omega))
            clear q
            go_wp2
            go_ret
            exact ⟨by rw [HR.out]; rfl, HB.out⟩
          · have d1 : decide (300 < ((tx (recAt T j).2).size : Int)) = false := decide_eq_false (by rw [tx_size]; omega)
            have d1' : decide (300 < (tx (recAt T j).2).size) = false := decide_eq_false (by rw [tx_size]; exact q)
            have HR : Hid (∀ i, i < j + 1 → (recAt T i).2.length ≤ 300) := Lib.hid fun i hi => by
              rcases (by omega : i < j ∨ i = j) with z | z
              · exact HN.out i z
              · rw [z]; omega
            clear q
            go_wp2
            go_round
            case rel => exact ⟨j + 1, by go_num, by omega, HR⟩
            case measure => first | (simp [intOf]; omega) | simp [intOf]
        · obtain rfl : j = T.length := by omega
          have HR := Lib.hid (HS1.out (decide_eq_true ⟨hlT, HN.out⟩))
          go_wp2
          go_round
          case rel => exact ⟨k + 1, by go_num, by omega, HR⟩
          case measure => first | (simp [intOf]; omega) | simp [intOf]
    · obtain rfl : k = S.length := by omega
      have HR : Hid (fewS S = true) := Lib.hid (decide_eq_true ⟨hll, HN.out⟩)
      go_wp2
      go_ret
      exact ⟨by rw [HR.out]; rfl, HB.out⟩
end Go.Proofs.Yteccahggahpeeaa
namespace Go.Proofs.Yteccahggahpeeaa
open Go.RowKit Go.ChangeShapes Go.Deep

theorem add_lies15 (b off : Nat) (i : Nat) : (⟨b, off, none⟩ : Addr).add i = ⟨b, off + i, none⟩ := by
  unfold Addr.add
  split
  · rename_i h; subst h; rfl
  · rfl
theorem list_of15 {α : Type} (n : Nat) (P : Nat → α → Prop) (h : ∀ i, i < n → ∃ p, P i p) : ∃ l : List α, l.length = n ∧ ∀ i x, l[i]? = some x → P i x := by
  induction n with
  | zero => exact ⟨[], rfl, fun i x hx => by simp at hx⟩
  | succ n ih =>
    obtain ⟨l, hl, hp⟩ := ih fun i hi => h i (by omega)
    obtain ⟨p, hp2⟩ := h n (by omega)
    refine ⟨l ++ [p], by simp [hl], fun i x hx => ?_⟩
    rcases Nat.lt_trichotomy i n with g | g | g
    · rw [List.getElem?_append_left (by omega)] at hx; exact hp i x hx
    · subst g
      rw [List.getElem?_append_right (by omega), hl, Nat.sub_self] at hx
      have : p = x := by simpa using hx
      rw [← this]; exact hp2
    · rw [List.getElem?_eq_none (by simp [hl]; omega)] at hx; cases hx
theorem Elt.cells_from {α : Type} (E : Elt α) {l : List α} {j : Nat} {u : Value} (h : (E.cells l)[j]? = some u) : ∃ x, l[j / E.k]? = some x ∧ (E.enc x)[j % E.k]? = some u := by
  have hj : j < l.length * E.k := by rw [← E.cells_len]; exact (List.getElem?_eq_some_iff.1 h).1
  have hq : j / E.k < l.length := (Nat.div_lt_iff_lt_mul E.pos).2 hj
  have hi : j % E.k < E.k := Nat.mod_lt _ E.pos
  have hx : l[j / E.k]? = some l[j / E.k] := List.getElem?_eq_getElem hq
  have hv : (E.enc l[j / E.k])[j % E.k]? = some ((E.enc l[j / E.k])[j % E.k]'(by rw [E.len]; exact hi)) := List.getElem?_eq_getElem (by rw [E.len]; exact hi)
  have := E.cells_at hx hv
  rw [Nat.mul_comm, Nat.div_add_mod, h] at this
  exact ⟨_, hx, hv.trans this.symm⟩
/-- A slice of elements that came in, read as the form reads it. -/
theorem elts_of {α : Type} (E : Elt α) {H : Type} {enc : TypeId × Value → H} {base : Nat} {held : Bool} {t e : TypeId} {fuel : Nat} {a : Option Addr} {len cap : Nat} {W : World} {x : DataW H × List MemPlace}
    (ht : Try.prog.underlying t = some (.slice e)) (hc : Try.prog.cellsOf e = E.k)
    (hone : ∀ (fu : Nat) (cs : List Value) (y : DataW H × List MemPlace), DataW.trod enc Try.prog W base (fun _ => true) held fu e cs = some y → ∃ p : α, cs = E.enc p)
    (h : DataW.trod enc Try.prog W base (fun _ => true) held fuel t (Value.slice a len cap).cells.toList = some x) :
    ∃ l : List α, l.length = len ∧ len ≤ cap ∧ l.length ≤ maxLen ∧ Els E 0 W.heap.size W a l := by
  rcases open_slice ht h with ⟨hcs, _⟩ | ⟨y, n, c, m, fu, D, Pl, hcs, _, hl, hm, hmm, _, hel⟩
  · simp [Value.cells] at hcs
    obtain ⟨rfl, rfl, rfl⟩ := hcs
    exact ⟨[], rfl, Nat.le_refl _, by simp, Or.inl rfl⟩
  · simp [Value.cells] at hcs
    obtain ⟨rfl, rfl, rfl⟩ := hcs
    have hm2 : m = cap := by rw [hmm]; simp
    have key : ∀ j, j < len → ∃ p : α, ∀ i v, (E.enc p)[i]? = some v → W.cell? ((y.add (j * E.k)).add i) = some v := by
      intro j hj
      obtain ⟨cs, hcl, htr⟩ := hel j (by omega)
      rw [hc] at hcl
      obtain ⟨_, hlen, hat⟩ := World.cells?_some hcl
      obtain ⟨p, rfl⟩ := hone _ _ _ htr
      refine ⟨p, fun i v hi => ?_⟩
      have hil := (List.getElem?_eq_some_iff.1 hi).1
      rw [E.len] at hil
      rw [hat i hil, hi]
    obtain ⟨l, hll, hp⟩ := list_of15 len _ key
    refine ⟨l, hll, by omega, by omega, ?_⟩
    rcases Nat.eq_zero_or_pos len with h0 | h0
    · have : l = [] := List.length_eq_zero_iff.1 (by omega)
      rw [this]; exact Or.inl rfl
    · obtain ⟨b, off, spot⟩ := y
      have hx0 : l[0]? = some l[0] := List.getElem?_eq_getElem (by omega)
      have hv0 : (E.enc l[0])[0]? = some ((E.enc l[0])[0]'(by rw [E.len]; exact E.pos)) := List.getElem?_eq_getElem (by rw [E.len]; exact E.pos)
      have hc0 := hp 0 _ hx0 0 _ hv0
      have hspot : spot = none := by simpa [Addr.add] using World.cell?_spot hc0
      subst hspot
      have hbl : b < W.heap.size := by
        have := World.block_lt_of_cell? W _ hc0
        simpa [Addr.add] using this
      refine Or.inr ⟨b, off, rfl, Nat.zero_le _, hbl, fun j u hj => ?_⟩
      obtain ⟨p, h1, h2⟩ := E.cells_from hj
      have := hp _ _ h1 _ _ h2
      rw [add_lies15, add_lies15, Nat.add_assoc, Nat.mul_comm, Nat.div_add_mod] at this
      exact this
theorem one_part15 {cs : List Value} {a : Value} (hl : cs.length = 1) (h0 : (cs.drop 0).take 1 = [a]) : cs = [a] := by
  match cs, hl with
  | [_], _ => simp at h0; simp [h0]
theorem two_parts15 {cs : List Value} {a b : Value} (hl : cs.length = 2) (h0 : (cs.drop 0).take 1 = [a]) (h1 : (cs.drop 1).take 1 = [b]) : cs = [a, b] := by
  match cs, hl with
  | [_, _], _ => simp at h0 h1; simp [h0, h1]
theorem four_parts15 {cs : List Value} {a b c d : Value} (hl : cs.length = 4) (h0 : (cs.drop 0).take 1 = [a]) (h1 : (cs.drop 1).take 1 = [b]) (h2 : (cs.drop 2).take 1 = [c]) (h3 : (cs.drop 3).take 1 = [d]) : cs = [a, b, c, d] := by
  match cs, hl with
  | [_, _, _, _], _ => simp at h0 h1 h2 h3; simp [h0, h1, h2, h3]
theorem rec_cells {H : Type} {enc : TypeId × Value → H} {base : Nat} {held : Bool} {fuel : Nat} {cs : List Value} {W : World} {x : DataW H × List MemPlace} {e i s : TypeId} {f0 f1 : Field}
    (he : Try.prog.underlying e = some (.struct #[f0, f1])) (hi : Try.prog.underlying i = some (.int .i64)) (hs : Try.prog.underlying s = some .string) (hec : Try.prog.cellsOf e = 2) (hic : Try.prog.cellsOf i = 1) (hsc : Try.prog.cellsOf s = 1)
    (t0 : f0.type = i) (t1 : f1.type = s) (o0 : f0.offset = 0) (o1 : f1.offset = 1)
    (h : DataW.trod enc Try.prog W base (fun _ => true) held fuel e cs = some x) : ∃ p : Rec15, cs = recE.enc p := by
  obtain ⟨xs, n, _, _, hlen, hxl, hg⟩ := DataW.trod_struct he h
  have g0 := hg 0 f0 rfl
  have g1 := hg 1 f1 rfl
  rw [t0, o0, hic] at g0
  rw [t1, o1, hsc] at g1
  match xs, hxl with
  | [y0, y1], _ =>
    obtain ⟨n0, e0, _, _⟩ := DataW.trod_int hi g0
    obtain ⟨n1, e1, _, _⟩ := DataW.trod_string hs g1
    rw [hec] at hlen
    refine ⟨(n0, n1.data.toList), ?_⟩
    have : n1 = tx n1.data.toList := tx_of rfl
    rw [two_parts15 hlen e0 e1]
    show _ = [Value.int .i64 n0, Value.string (tx n1.data.toList)]
    rw [← this]
theorem op_cells {H : Type} {enc : TypeId × Value → H} {base : Nat} {held : Bool} {fuel : Nat} {cs : List Value} {W : World} {x : DataW H × List MemPlace} {e i s : TypeId} {f0 f1 f2 f3 : Field}
    (he : Try.prog.underlying e = some (.struct #[f0, f1, f2, f3])) (hi : Try.prog.underlying i = some (.int .i64)) (hs : Try.prog.underlying s = some .string) (hec : Try.prog.cellsOf e = 4) (hic : Try.prog.cellsOf i = 1) (hsc : Try.prog.cellsOf s = 1)
    (t0 : f0.type = i) (t1 : f1.type = i) (t2 : f2.type = i) (t3 : f3.type = s) (o0 : f0.offset = 0) (o1 : f1.offset = 1) (o2 : f2.offset = 2) (o3 : f3.offset = 3)
    (h : DataW.trod enc Try.prog W base (fun _ => true) held fuel e cs = some x) : ∃ p : Op15, cs = opE.enc p := by
  obtain ⟨xs, n, _, _, hlen, hxl, hg⟩ := DataW.trod_struct he h
  have g0 := hg 0 f0 rfl
  have g1 := hg 1 f1 rfl
  have g2 := hg 2 f2 rfl
  have g3 := hg 3 f3 rfl
  rw [t0, o0, hic] at g0
  rw [t1, o1, hic] at g1
  rw [t2, o2, hic] at g2
  rw [t3, o3, hsc] at g3
  match xs, hxl with
  | [y0, y1, y2, y3], _ =>
    obtain ⟨n0, e0, _, _⟩ := DataW.trod_int hi g0
    obtain ⟨n1, e1, _, _⟩ := DataW.trod_int hi g1
    obtain ⟨n2, e2, _, _⟩ := DataW.trod_int hi g2
    obtain ⟨n3, e3, _, _⟩ := DataW.trod_string hs g3
    rw [hec] at hlen
    refine ⟨⟨n0, n1, n2, n3.data.toList⟩, ?_⟩
    have : n3 = tx n3.data.toList := tx_of rfl
    rw [four_parts15 hlen e0 e1 e2 e3]
    show _ = [Value.int .i64 n0, Value.int .i64 n1, Value.int .i64 n2, Value.string (tx n3.data.toList)]
    rw [← this]
theorem rec_here {H : Type} {enc : TypeId × Value → H} {base : Nat} {held : Bool} {fuel : Nat} {cs : List Value} {W : World} {x : DataW H × List MemPlace} (h : DataW.trod enc Try.prog W base (fun _ => true) held fuel 67 cs = some x) : ∃ p : Rec15, cs = recE.enc p :=
  rec_cells Try.underlying67 Try.underlying3 Try.underlying9 (by kernel_rfl) (by kernel_rfl) (by kernel_rfl) rfl rfl rfl rfl h
theorem op_here {H : Type} {enc : TypeId × Value → H} {base : Nat} {held : Bool} {fuel : Nat} {cs : List Value} {W : World} {x : DataW H × List MemPlace} (h : DataW.trod enc Try.prog W base (fun _ => true) held fuel 69 cs = some x) : ∃ p : Op15, cs = opE.enc p :=
  op_cells Try.underlying69 Try.underlying3 Try.underlying9 (by kernel_rfl) (by kernel_rfl) (by kernel_rfl) rfl rfl rfl rfl rfl rfl rfl rfl h
theorem recs_of {H : Type} {enc : TypeId × Value → H} {base : Nat} {held : Bool} {fuel : Nat} {a : Option Addr} {len cap : Nat} {W : World} {x : DataW H × List MemPlace} (h : DataW.trod enc Try.prog W base (fun _ => true) held fuel 65 (Value.slice a len cap).cells.toList = some x) :
    ∃ l : List Rec15, l.length = len ∧ len ≤ cap ∧ l.length ≤ maxLen ∧ Els recE 0 W.heap.size W a l :=
  elts_of recE Try.underlying65 (by kernel_rfl) (fun _ _ _ h => rec_here h) h
theorem opsl_of {H : Type} {enc : TypeId × Value → H} {base : Nat} {held : Bool} {fuel : Nat} {a : Option Addr} {len cap : Nat} {W : World} {x : DataW H × List MemPlace} (h : DataW.trod enc Try.prog W base (fun _ => true) held fuel 25 (Value.slice a len cap).cells.toList = some x) :
    ∃ l : List Op15, l.length = len ∧ len ≤ cap ∧ l.length ≤ maxLen ∧ Els opE 0 W.heap.size W a l :=
  elts_of opE Try.underlying25 (by kernel_rfl) (fun _ _ _ h => op_here h) h
theorem list_tabs {I : Nat → Tb15} {n : Nat} : (List.ofFn fun j : Fin n => I j.val).length = n ∧ ∀ j : Nat, j < n → tab (List.ofFn fun j : Fin n => I j.val) (j : Int) = I j := by
  refine ⟨by simp, fun j hj => ?_⟩
  rw [tab_at (by simpa using hj)]
  simp
/-- Tables that came in. -/
theorem tabs_of {H : Type} {enc : TypeId × Value → H} {base : Nat} {held : Bool} {fuel : Nat} {cs : List Value} {W : World} {x : DataW H × List MemPlace}
    (h : DataW.trod enc Try.prog W base (fun _ => true) held fuel 22 cs = some x) :
    ∃ (a : Option Addr) (cap : Nat) (S : St15), cs = [.slice a S.length cap] ∧ S.length ≤ cap ∧ TabsV 0 W.heap.size W a S := by
  have c1 : Try.prog.cellsOf 65 = 1 := by kernel_rfl
  rcases Go.Deep.open_slice1 Try.underlying22 c1 h with ⟨hcs, _⟩ | ⟨a, len, cap, m, n, V, D, Pl, rfl, hb, hl, hm, hmm, _, hx⟩
  · exact ⟨none, 0, [], hcs, Nat.le_refl _, Or.inl rfl⟩
  · simp only [if_true] at hmm
    have key : ∀ j, j < len → ∃ y : Option Addr × Nat × Tb15, W.cell? (a.add j) = some (.slice y.1 y.2.2.length y.2.1) ∧ y.2.2.length ≤ y.2.1 ∧ Els recE 0 W.heap.size W y.1 y.2.2 := by
      intro j hj
      obtain ⟨hc, htr⟩ := hx j (by omega)
      obtain ⟨aj, lj, cj, hV⟩ : ∃ aj lj cj, V j = .slice aj lj cj := by
        rcases DataW.trod_slice Try.underlying65 htr with ⟨hcs, _⟩ | ⟨b, l, c, _, _, _, _, hcs, _⟩
        · exact ⟨none, 0, 0, by simpa using hcs⟩
        · exact ⟨some b, l, c, by simpa using hcs⟩
      rw [hV] at hc htr
      obtain ⟨xs, hxl, hcap, _, hi⟩ := recs_of (a := aj) (len := lj) (cap := cj) htr
      subst hxl
      exact ⟨(aj, cj, xs), hc, hcap, hi⟩
    obtain ⟨y, hy⟩ := Go.Deep.choose_lt key
    have hlist := list_tabs (I := fun j => (y j).2.2) (n := len)
    refine ⟨some a, cap, List.ofFn fun j : Fin len => (y j.val).2.2, by rw [hlist.1], by rw [hlist.1]; exact hl, ?_⟩
    rcases Nat.eq_zero_or_pos len with h0 | h0
    · exact Or.inl (List.length_eq_zero_iff.1 (by rw [hlist.1]; exact h0))
    · obtain ⟨b, off, spot⟩ := a
      have hc0 := (hy 0 h0).1
      have hspot : spot = none := by simpa [Addr.add] using World.cell?_spot hc0
      subst hspot
      have hbl : b < W.heap.size := by
        have := World.block_lt_of_cell? W _ hc0
        simpa [Addr.add] using this
      refine Or.inr ⟨b, off, rfl, Nat.zero_le _, hbl, fun j hj => ?_⟩
      rw [hlist.1] at hj
      have h1 := hy j hj
      rw [hlist.2 j hj]
      refine ⟨(y j).1, (y j).2.1, ?_, h1.2.1, h1.2.2⟩
      rw [← add_lies15]; exact h1.1
theorem st_agg {P : Program} {w : World} {r : Reach} {b0 : Nat} {v : Value} {e : TypeId} {fs : Array Field} (he : P.underlying e = some (.struct fs)) (hv : Value.okWide P w r b0 e v) : ∃ cs : Array Value, v = .agg cs := by
  obtain ⟨cs, h, _⟩ := WideShapes.okWide_struct he hv
  exact ⟨cs, h⟩
theorem st_cells {H : Type} {enc : TypeId × Value → H} {base : Nat} {held : Bool} {fuel : Nat} {cs : List Value} {W : World} {x : DataW H × List MemPlace} {ch : TypeId} {q0 : Field}
    (hch : Try.prog.underlying ch = some (.struct #[q0])) (hcc : Try.prog.cellsOf ch = 1) (r0 : q0.type = 22) (p0 : q0.offset = 0)
    (h : DataW.trod enc Try.prog W base (fun _ => true) held fuel ch cs = some x) :
    ∃ (a : Option Addr) (cap : Nat) (S : St15), cs = [.slice a S.length cap] ∧ S.length ≤ cap ∧ TabsV 0 W.heap.size W a S := by
  have k0 : Try.prog.cellsOf 22 = 1 := by kernel_rfl
  obtain ⟨zs, n', _, _, hlen, hzl, hz⟩ := DataW.trod_struct hch h
  have z0 := hz 0 q0 rfl
  rw [r0, p0, k0] at z0
  match zs, hzl with
  | [u0], _ =>
    obtain ⟨a, cap, S, h1, h2, h3⟩ := tabs_of z0
    rw [hcc] at hlen
    exact ⟨a, cap, S, one_part15 hlen h1, h2, h3⟩
set_option maxRecDepth 100000 in
theorem store_of {H : Type} {enc : TypeId × Value → H} {w : World} {base : Nat} {held : Bool} {r : Reach} {b0 : Nat} {v : Value} {d : DataW H} {p : List MemPlace}
    (hv : Value.okWide Try.prog w r b0 24 v) (h : DataW.Trod enc Try.prog w base (fun _ => true) held 24 v d p) :
    ∃ (a : Option Addr) (cap : Nat) (S : St15), v = stVal a cap S ∧ S.length ≤ cap ∧ TabsV 0 w.heap.size w a S := by
  obtain ⟨cs, hcs⟩ := st_agg Try.underlying24 hv
  subst hcs
  obtain ⟨fuel, hf⟩ := h
  obtain ⟨a, cap, S, ha, hb, hc⟩ := st_cells Try.underlying24 (by kernel_rfl) rfl rfl hf
  refine ⟨a, cap, S, ?_, hb, hc⟩
  obtain ⟨l⟩ := cs
  simp only [Value.cells] at ha
  rw [ha]
end Go.Proofs.Yteccahggahpeeaa
