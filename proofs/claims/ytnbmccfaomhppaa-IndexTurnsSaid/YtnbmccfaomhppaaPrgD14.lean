/- The program's copy of an index, for every index and in every world. -/
import Derived.Test.YtnbmccfaomhppaaAdds14
import Derived.Test.YtnbmccfaomhppaaLast13
import Derived.Test.YtnbmccfaomhppaaMIxOps14
import Derived.Test.YtnbmccfaomhppaaPrgA14
import Derived.Test.YtnbmccfaomhppaaRows14
import Derived.Test.YtnbmccfaomhppaaWake13
import Derived.Deep.OwnRows
import Derived.ChangeAlike
namespace Go.Proofs.Ytnbmccfaomhppaa
open Go.RowKit

theorem less_get {α : Type} (l : List α) (p i : Nat) (hp : p < l.length) : (less13 l p)[i]? = if i < p then l[i]? else l[i + 1]? := by
  unfold less13
  have ht : (l.take p).length = p := by rw [List.length_take]; omega
  split
  · rename_i q
    rw [List.getElem?_append_left (by omega), List.getElem?_take_of_lt q]
  · rename_i q
    rw [List.getElem?_append_right (by omega), ht, List.getElem?_drop, show p + 1 + (i - p) = i + 1 by omega]
theorem with_get {α : Type} (l : List α) (p : Nat) (v : α) (h : p ≤ l.length) (i : Nat) : (with13 l p v)[i]? = if i < p then l[i]? else if i = p then some v else l[i - 1]? := by
  unfold with13
  have ht : (l.take p).length = p := by rw [List.length_take]; omega
  split
  · rename_i q
    rw [List.getElem?_append_left (by omega), List.getElem?_take_of_lt q]
  · rename_i q
    rw [List.getElem?_append_right (by omega), ht]
    split
    · rename_i e; subst e; rw [Nat.sub_self]; rfl
    · rename_i e
      obtain ⟨j, hj⟩ : ∃ j, i - p = j + 1 := ⟨i - p - 1, by omega⟩
      rw [hj, List.getElem?_cons_succ, List.getElem?_drop, show p + j = i - 1 by omega]
/-- Blocks other than g and the next one. -/
def Off (g b : Nat) : Prop := b < g ∨ g + 2 ≤ b
/-- A slice of numbers that lies in a block of a kind. -/
def IntsO (P : Nat → Prop) (B : Nat) (w : World) (a : Option Addr) (xs : List Int) : Prop :=
  xs = [] ∨ ∃ b off, a = some ⟨b, off, none⟩ ∧ P b ∧ b < B ∧ ∀ j, j < xs.length → w.cell? ⟨b, off + j, none⟩ = some (.int .i64 (numAt xs j))
theorem IntsO.ints {P : Nat → Prop} {B : Nat} {w : World} {a : Option Addr} {xs : List Int} (h : IntsO P B w a xs) : Ints B w a xs := by
  rcases h with h | ⟨b, off, ha, _, hB, hc⟩
  · exact Or.inl h
  · exact Or.inr ⟨b, off, ha, hB, hc⟩
theorem IntsO.step {P : Nat → Prop} {w w' : World} {a : Option Addr} {xs : List Int} (h : IntsO P w.heap.size w a xs) (hb : Below w.heap.size w w') : IntsO P w'.heap.size w' a xs := by
  rcases h with h | ⟨b, off, ha, hA, hB, hc⟩
  · exact Or.inl h
  · exact Or.inr ⟨b, off, ha, hA, Nat.lt_of_lt_of_le hB hb.size, fun j hj => (hb.cell (p := ⟨b, off + j, none⟩) hB).trans (hc j hj)⟩
theorem IntsO.stepB {P : Nat → Prop} {B : Nat} {w w' : World} {a : Option Addr} {xs : List Int} (h : IntsO P B w a xs) (hb : Below B w w') (hB : B ≤ w'.heap.size) : IntsO P w'.heap.size w' a xs := by
  rcases h with h | ⟨b, off, ha, hA, hl, hc⟩
  · exact Or.inl h
  · exact Or.inr ⟨b, off, ha, hA, Nat.lt_of_lt_of_le hl hB, fun j hj => (hb.cell (p := ⟨b, off + j, none⟩) hl).trans (hc j hj)⟩
theorem IntsO.set {P : Nat → Prop} {w : World} {a : Option Addr} {xs : List Int} (h : IntsO P w.heap.size w a xs) {p : Addr} (hp : ¬ P p.block) (u : Value) : IntsO P (w.setCell p u).heap.size (w.setCell p u) a xs := by
  rcases h with h | ⟨b, off, ha, hA, hB, hc⟩
  · exact Or.inl h
  · refine Or.inr ⟨b, off, ha, hA, by rw [World.size_setCell]; exact hB, fun j hj => ?_⟩
    rw [World.cell?_setCell_other w p ⟨b, off + j, none⟩ u (fun e => by subst e; exact hp hA)]
    exact hc j hj
theorem IntsO.imp {P Q : Nat → Prop} {B : Nat} {w : World} {a : Option Addr} {xs : List Int} (h : IntsO P B w a xs) (hq : ∀ b, b < B → P b → Q b) : IntsO Q B w a xs := by
  rcases h with h | ⟨b, off, ha, hA, hB, hc⟩
  · exact Or.inl h
  · exact Or.inr ⟨b, off, ha, hq b hB hA, hB, hc⟩
theorem IntsNew.avoid {P : Nat → Prop} {A B : Nat} {w : World} {a : Option Addr} {xs : List Int} (h : IntsNew A B w a xs) (hA : ∀ b, A ≤ b → P b) : IntsO P B w a xs := by
  rcases h with h | ⟨b, off, ha, h1, hB, hc⟩
  · exact Or.inl h
  · exact Or.inr ⟨b, off, ha, hA b h1, hB, hc⟩
/-- A slice of slices of numbers, all of them from a block on. -/
def ListsN (A B : Nat) (w : World) (a : Option Addr) (I : List (List Int)) : Prop :=
  I = [] ∨ ∃ b off, a = some ⟨b, off, none⟩ ∧ A ≤ b ∧ b < B ∧ ∀ j, j < I.length → ∃ (aj : Option Addr) (cj : Nat), w.cell? ⟨b, off + j, none⟩ = some (.slice aj (numsAt I j).length cj) ∧ (numsAt I j).length ≤ cj ∧ IntsNew A B w aj (numsAt I j)
/-- Slices of numbers, as the cells of a row. -/
def LsC (P : Nat → Prop) (B : Nat) (w : World) (cs : List Value) (I : List (List Int)) : Prop :=
  cs.length = I.length ∧ ∀ j, j < I.length → ∃ (aj : Option Addr) (cj : Nat), cs[j]? = some (.slice aj (numsAt I j).length cj) ∧ (numsAt I j).length ≤ cj ∧ IntsO P B w aj (numsAt I j)
theorem lists_cells {P : Nat → Prop} {A B : Nat} {w : World} {a : Option Addr} {I : List (List Int)} (hA : ∀ b, A ≤ b → P b) (h : ListsN A B w a I) : ∃ cs, Rw A B w a cs ∧ LsC P B w cs I := by
  rcases h with rfl | ⟨b, off, ha, h1, h2, hc⟩
  · exact ⟨[], Or.inl rfl, rfl, fun j hj => absurd hj (by simp)⟩
  · refine ⟨(List.range I.length).map fun j => (w.cell? ⟨b, off + j, none⟩).getD (.bool false), Or.inr ⟨b, off, ha, h1, h2, fun j u hj => ?_⟩, by simp, fun j hj => ?_⟩
    · have hjl : j < I.length := by simpa using (List.getElem?_eq_some_iff.1 hj).1
      obtain ⟨aj, cj, e, _, _⟩ := hc j hjl
      rw [List.getElem?_map, List.getElem?_range hjl] at hj
      simp only [Option.map_some, e, Option.getD_some] at hj
      rw [e]; exact hj
    · obtain ⟨aj, cj, e, e2, e3⟩ := hc j hj
      refine ⟨aj, cj, ?_, e2, e3.avoid hA⟩
      rw [List.getElem?_map, List.getElem?_range hj]
      simp [e]
theorem cells_lists {P : Nat → Prop} {A B : Nat} {w : World} {a : Option Addr} {cs : List Value} {I : List (List Int)} (h : Rw A B w a cs) (hc : LsC P B w cs I) : Lists A B w a I := by
  rcases h with h | ⟨b, off, ha, h1, h2, h3⟩
  · left
    have := hc.1
    rw [h] at this
    exact List.length_eq_zero_iff.1 this.symm
  · refine Or.inr ⟨b, off, ha, h1, h2, fun j hj => ?_⟩
    obtain ⟨aj, cj, e, e2, e3⟩ := hc.2 j hj
    exact ⟨aj, cj, h3 j _ e, e2, e3.ints⟩
theorem LsC.step {P : Nat → Prop} {w w' : World} {cs : List Value} {I : List (List Int)} (h : LsC P w.heap.size w cs I) (hb : Below w.heap.size w w') : LsC P w'.heap.size w' cs I :=
  ⟨h.1, fun j hj => by
    obtain ⟨aj, cj, e, e2, e3⟩ := h.2 j hj
    exact ⟨aj, cj, e, e2, e3.step hb⟩⟩
theorem LsC.set {P : Nat → Prop} {w : World} {cs : List Value} {I : List (List Int)} (h : LsC P w.heap.size w cs I) {p : Addr} (hp : ¬ P p.block) (u : Value) : LsC P (w.setCell p u).heap.size (w.setCell p u) cs I :=
  ⟨h.1, fun j hj => by
    obtain ⟨aj, cj, e, e2, e3⟩ := h.2 j hj
    exact ⟨aj, cj, e, e2, e3.set hp u⟩⟩
theorem LsC.one {P : Nat → Prop} {B : Nat} {w : World} {cs : List Value} {I : List (List Int)} (h : LsC P B w cs I) : ∀ u ∈ cs, u.oneCell' = true := by
  intro u hu
  obtain ⟨j, hj, e⟩ := List.getElem_of_mem hu
  obtain ⟨aj, cj, e2, _, _⟩ := h.2 j (by have := h.1; omega)
  rw [List.getElem?_eq_getElem hj, e] at e2
  rw [Option.some.inj e2]
  rfl
theorem LsC.less {P : Nat → Prop} {B : Nat} {w : World} {cs : List Value} {I : List (List Int)} (h : LsC P B w cs I) {p : Nat} (hp : p < I.length) : LsC P B w (less13 cs p) (less13 I p) := by
  have hl := h.1
  refine ⟨by rw [less_len cs p (by omega), less_len I p hp, hl], fun j hj => ?_⟩
  rw [less_len I p hp] at hj
  rw [less_get cs p j (by omega), numsAt_less I p j hp]
  split
  · exact h.2 j (by omega)
  · exact h.2 (j + 1) (by omega)
theorem LsC.more {P : Nat → Prop} {B : Nat} {w : World} {cs : List Value} {I : List (List Int)} (h : LsC P B w cs I) {p : Nat} (hp : p ≤ I.length) {l : List Int} {al : Option Addr} {cl : Nat} (hcl : l.length ≤ cl) (hi : IntsO P B w al l) : LsC P B w (with13 cs p (.slice al l.length cl)) (with13 I p l) := by
  have hl := h.1
  refine ⟨by rw [with_len cs p _ (by omega), with_len I p l hp, hl], fun j hj => ?_⟩
  rw [with_len I p l hp] at hj
  rw [with_get cs p _ (by omega) j, numsAt_with I p l hp j]
  split
  · exact h.2 j (by omega)
  · split
    · exact ⟨al, cl, rfl, hcl, hi⟩
    · exact h.2 (j - 1) (by omega)
theorem LsC.imp {P Q : Nat → Prop} {B : Nat} {w : World} {cs : List Value} {I : List (List Int)} (h : LsC P B w cs I) (hq : ∀ b, b < B → P b → Q b) : LsC Q B w cs I :=
  ⟨h.1, fun j hj => by
    obtain ⟨aj, cj, e, e2, e3⟩ := h.2 j hj
    exact ⟨aj, cj, e, e2, e3.imp hq⟩⟩
theorem pcloneI_any (a : Option Addr) (c B : Nat) (l : List Int) (w : World) (hx : Ints B w a l) (hn : l.length ≤ 600000) :
    Calls Try.prog 59 #[.slice a l.length c] w fun e w' => ∃ a' c', e = .returned (.slice a' l.length c') ∧ l.length ≤ c' ∧ IntsNew w.heap.size w'.heap.size w' a' l ∧ Below w.heap.size w w' := by
  have fin : ∀ {v : Value} {w' : World}, w'.ownsRow w.heap.size 3 1 v l.length (intCells l) → Below w.heap.size w w' → ∃ a' c', Ending.returned v = .returned (.slice a' l.length c') ∧ l.length ≤ c' ∧ IntsNew w.heap.size w'.heap.size w' a' l ∧ Below w.heap.size w w' := by
    intro v w' ho hb
    obtain ⟨a', c', hv, hc, _, _⟩ := rw_own ho
    obtain ⟨a2, c2, hv2, ht⟩ := ints_own_new ho
    rw [hv] at hv2
    injection hv2 with e1 _ _
    subst e1
    exact ⟨a', c', by rw [hv], hc, ht, hb⟩
  rcases hx with rfl | ⟨b, off, rfl, _, hc⟩
  · cases a with
    | none =>
      refine (Try.slices_Clone_int_nil 0 c w).mono ?_
      rintro e w' ⟨rfl, rfl⟩
      exact ⟨none, 0, rfl, Nat.le_refl _, Or.inl rfl, Below.refl _ _⟩
    | some b =>
      refine (Try.slices_Clone_int_zero b c w).mono ?_
      rintro e w' ⟨v, rfl, ho, _, hb⟩
      exact fin ho hb
  · refine (Try.slices_Clone_int b off l.length c l w (Nat.le_refl _) (by omega) hc).mono ?_
    rintro e w' ⟨v, rfl, ho, _, hb⟩
    rw [List.take_of_length_le (Nat.le_refl _)] at ho
    exact fin ho hb
/-- A copy under way: the index that came in, the place of the one to be told, and the row that is filled. -/
structure Cl14 (w : World) (ka : Option Addr) (kc : Nat) (ia : Option Addr) (ic : Nat) (K : List (List UInt8)) (I : List (List Int)) (k : Nat) (C : Array Value) (wr : World) : Prop where
  old : Below w.heap.size w wr
  src : wr.heap[w.heap.size]? = some (.cells #[.slice ka K.length kc, .slice ia I.length ic] 25 (0, 0))
  res : wr.heap[w.heap.size + 1]? = some (.cells #[.slice none 0 0, .slice none 0 0] 25 (0, 0))
  row : wr.heap[w.heap.size + 1 + 1]? = some (.cells C 33 (0, 0))
  size : C.size = I.length
  fill : ∀ j, j < k → ∃ aj cj, C[j]? = some (.slice aj (numsAt I j).length cj) ∧ (numsAt I j).length ≤ cj ∧ IntsNew (w.heap.size + 3) wr.heap.size wr aj (numsAt I j)
theorem Cl14.step {w : World} {ka : Option Addr} {kc : Nat} {ia : Option Addr} {ic : Nat} {K : List (List UInt8)} {I : List (List Int)} {k : Nat} {C : Array Value} {wr w' : World} (h : Cl14 w ka kc ia ic K I k C wr) (hb : Below wr.heap.size wr w') : Cl14 w ka kc ia ic K I k C w' :=
  ⟨h.old.trans (hb.mono h.old.size), old_obj hb h.src, old_obj hb h.res, old_obj hb h.row, h.size, fun j hj => by
    obtain ⟨aj, cj, e, e2, e3⟩ := h.fill j hj
    exact ⟨aj, cj, e, e2, e3.step hb⟩⟩
theorem Cl14.set {w : World} {ka : Option Addr} {kc : Nat} {ia : Option Addr} {ic : Nat} {K : List (List UInt8)} {I : List (List Int)} {k : Nat} {C : Array Value} {wr : World} (h : Cl14 w ka kc ia ic K I k C wr) (hk : k < I.length) {a2 : Option Addr} {c2 : Nat} (hc : (numsAt I k).length ≤ c2) (hi : IntsNew (w.heap.size + 3) wr.heap.size wr a2 (numsAt I k)) :
    Cl14 w ka kc ia ic K I (k + 1) (C.setIfInBounds k (.slice a2 (numsAt I k).length c2)) (wr.setCell ⟨w.heap.size + 1 + 1, k, none⟩ (.slice a2 (numsAt I k).length c2)) := by
  refine ⟨h.old.setCell (p := ⟨w.heap.size + 1 + 1, k, none⟩) (by simp; omega) _, ?_, ?_, ?_, by rw [Array.size_setIfInBounds]; exact h.size, fun j hj => ?_⟩
  · rw [heap_setCell_other wr ⟨w.heap.size + 1 + 1, k, none⟩ _ _ (by simp; omega)]; exact h.src
  · rw [heap_setCell_other wr ⟨w.heap.size + 1 + 1, k, none⟩ _ _ (by simp)]; exact h.res
  · exact heap_setCell_same wr _ k _ _ _ h.row
  · rw [Array.getElem?_setIfInBounds]
    by_cases q : k = j
    · subst q
      rw [if_pos rfl, if_pos (by rw [h.size]; exact hk)]
      exact ⟨a2, c2, rfl, hc, hi.set (p := ⟨w.heap.size + 1 + 1, k, none⟩) (by simp) _⟩
    · rw [if_neg q]
      obtain ⟨aj, cj, e, e2, e3⟩ := h.fill j (by omega)
      exact ⟨aj, cj, e, e2, e3.set (p := ⟨w.heap.size + 1 + 1, k, none⟩) (by simp) _⟩
theorem Cl14.told {w : World} {ka : Option Addr} {kc : Nat} {ia : Option Addr} {ic : Nat} {K : List (List UInt8)} {I : List (List Int)} {C : Array Value} {wr : World} (h : Cl14 w ka kc ia ic K I I.length C wr) (x y : Value) :
    ListsN w.heap.size ((wr.setCell ⟨w.heap.size + 1, 0, none⟩ x).setCell ⟨w.heap.size + 1, 1, none⟩ y).heap.size ((wr.setCell ⟨w.heap.size + 1, 0, none⟩ x).setCell ⟨w.heap.size + 1, 1, none⟩ y) (some ⟨w.heap.size + 1 + 1, 0, none⟩) I ∧ Below w.heap.size w ((wr.setCell ⟨w.heap.size + 1, 0, none⟩ x).setCell ⟨w.heap.size + 1, 1, none⟩ y) := by
  refine ⟨Or.inr ⟨w.heap.size + 1 + 1, 0, rfl, by omega, by rw [World.size_setCell, World.size_setCell]; exact obj_lt h.row, fun j hj => ?_⟩, two_below14 h.old (by omega) _ _⟩
  obtain ⟨aj, cj, e, e2, e3⟩ := h.fill j hj
  refine ⟨aj, cj, ?_, e2, ((e3.set (p := ⟨w.heap.size + 1, 0, none⟩) (by simp) _).set (p := ⟨w.heap.size + 1, 1, none⟩) (by simp) _).wide (by omega) (Nat.le_refl _)⟩
  rw [Nat.zero_add, cell_off _ _ (by omega)]
  exact cell_of h.row e
theorem Txs.set14 {A : Nat} {w : World} {a : Option Addr} {xs : List (List UInt8)} (h : Txs A w.heap.size w a xs) {p : Addr} (hp : p.block < A) (u : Value) : Txs A (w.setCell p u).heap.size (w.setCell p u) a xs := by
  rcases h with h | ⟨b, off, ha, hA, hB, hc⟩
  · exact Or.inl h
  · refine Or.inr ⟨b, off, ha, hA, by rw [World.size_setCell]; exact hB, fun j hj => ?_⟩
    rw [World.cell?_setCell_other w p ⟨b, off + j, none⟩ u (fun e => by subst e; simp at hp; omega)]
    exact hc j hj
set_option maxRecDepth 100000 in
set_option maxHeartbeats 4000000 in
theorem pclone14_any (ka : Option Addr) (kc : Nat) (ia : Option Addr) (ic : Nat) (K : List (List UInt8)) (I : List (List Int)) (w : World) (hx : IxV w ka kc ia ic K I) (hs : Small14 K I) :
    Calls Try.prog 45 #[ixVal ka kc ia ic K I] w fun e w' => ∃ ka' kc' ia' ic', e = .returned (ixVal ka' kc' ia' ic' K I) ∧ K.length ≤ kc' ∧ I.length ≤ ic' ∧ Txs w.heap.size w'.heap.size w' ka' K ∧ ListsN w.heap.size w'.heap.size w' ia' I ∧ Below w.heap.size w w' := by
  have hmk := run_make_row' (P := Try.prog) 23 33 (.slice none 0 0) 24 Try.underlying23 infoLs rfl .i64 .i64 I.length (by have := hs.2.1; omega) (by have := hs.2.1; omega)
  have HX := Lib.hid hx
  have HS := Lib.hid hs
  have hil := hs.2.1
  clear hx hs
  go_enter Try.func45, Try.ntmps45
  go_upto_region 3 with fail
  obtain ⟨W0, hW0⟩ : ∃ W0, ((w.alloc (.cells #[.slice ka K.length kc, .slice ia I.length ic] 25)).alloc (.cells #[.slice none 0 0, .slice none 0 0] 25)).alloc (.cells (madeCells #[.slice none 0 0] I.length) 33) = W0 := ⟨_, rfl⟩
  have h0 : Cl14 w ka kc ia ic K I 0 (madeCells #[.slice none 0 0] I.length) W0 := by
    rw [← hW0]
    refine ⟨(((Below.refl _ w).alloc (Nat.le_refl _) _).alloc (by simp) _).alloc (by simp; omega) _, ?_, ?_, ?_, by rw [← Array.length_toList, toList_madeCells_one]; simp, fun j hj => absurd hj (by omega)⟩
    · exact old_obj ((Below.refl _ _).alloc (Nat.le_refl _) _) (heap_alloc2_old w _ _)
    · exact old_obj ((Below.refl _ _).alloc (Nat.le_refl _) _) (heap_alloc2_new w _ _)
    · have h := heap_alloc_new ((w.alloc (.cells #[.slice ka K.length kc, .slice ia I.length ic] 25)).alloc (.cells #[.slice none 0 0, .slice none 0 0] 25)) (.cells (madeCells #[.slice none 0 0] I.length) 33)
      simp only [World.size_alloc] at h
      exact h
  rw [hW0]
  have H0 := Lib.hid h0
  clear hW0 h0 hmk
  go_loopw [13] (fun i wr => ∃ (k : Nat) (C : Array Value), i = .int .i64 k ∧ k ≤ I.length ∧ Hid (Cl14 w ka kc ia ic K I k C wr)) (fun i _ => I.length + 1 - (intOf i).toNat)
  case atStart => exact ⟨0, _, rfl, by omega, H0⟩
  case round =>
    obtain ⟨k, C, rfl, hk, HC⟩ := hrel
    by_cases hlt : k < I.length
    · have i1 : (k : Int) < (I.length : Int) := by omega
      have i3 : (0 : Int) ≤ (k : Int) := by omega
      obtain ⟨ib, ioff, ei, hib, aj, cj, cI, _, hnt⟩ := HX.out.ids.at hlt
      have cI2 := (HC.out.old.cell (p := ⟨ib, ioff + k, none⟩) hib).trans cI
      have hcl := pcloneI_any aj cj w.heap.size (numsAt I k) wr (hnt.below HC.out.old) (Nat.le_trans (sum_mem (numsAt_mem hlt)) HS.out.2.2)
      have HSET : Hid (∀ (W : World) (a2 : Option Addr) (c2 : Nat), Cl14 w ka kc ia ic K I k C W → (numsAt I k).length ≤ c2 → IntsNew (w.heap.size + 3) W.heap.size W a2 (numsAt I k) → Cl14 w ka kc ia ic K I (k + 1) (C.setIfInBounds k (.slice a2 (numsAt I k).length c2)) (W.setCell ⟨w.heap.size + 1 + 1, k, none⟩ (.slice a2 (numsAt I k).length c2))) := Lib.hid fun W a2 c2 h h2 h3 => h.set hlt h2 h3
      have hkC : C[k]? = some (C[k]'(by rw [HC.out.size]; exact hlt)) := Array.getElem?_eq_getElem _
      obtain ⟨v0, hv0⟩ : ∃ v0, C[k]? = some v0 := ⟨_, hkC⟩
      obtain ⟨L, hL⟩ : ∃ L, numsAt I k = L := ⟨_, rfl⟩
      rw [hL] at cI2 hcl HSET
      have HV0 := Lib.hid hv0
      subst ei
      clear cI hnt hib hL hkC hv0
      go_wp2_with (go_at_call 59; refine hcl.mono ?_; rintro e w2 ⟨a2, c2, rfl, hc2, hn2, hb2⟩; have H2 := Lib.hid (HC.out.step hb2); have HN2 : Hid (L.length ≤ c2 ∧ IntsNew (w.heap.size + 3) w2.heap.size w2 a2 L) := Lib.hid ⟨hc2, hn2.wide (by have := obj_lt HC.out.row; omega) (Nat.le_refl _)⟩; have hc4 := cell_of H2.out.row HV0.out; have hf4 := frozen_of_row _ _ k _ _ H2.out.row; clear hc2 hn2 hb2)
      go_roundw
      case rel => exact ⟨k + 1, _, by first | rfl | go_num, by omega, Lib.hid (HSET.out _ _ _ H2.out HN2.out.1 HN2.out.2)⟩
      case measure => first | (simp [intOf]; omega) | simp [intOf]
    · obtain rfl : k = I.length := by omega
      obtain ⟨c0, c1⟩ := (show wr.cell? ⟨w.heap.size, 0, none⟩ = some (.slice ka K.length kc) ∧ wr.cell? ⟨w.heap.size, 1, none⟩ = some (.slice ia I.length ic) from ⟨cell_of HC.out.src rfl, cell_of HC.out.src rfl⟩)
      have hkl := pclone_any ka kc 0 wr.heap.size K wr (HX.out.step HC.out.old).keys (by have := HS.out.1; omega)
      go_wp2_with (go_at_call 60; refine hkl.mono ?_; rintro e w2 ⟨k2, kc2, rfl, hc2, hn2, hb2⟩; have H2 := Lib.hid (HC.out.step hb2); have HN2 := Lib.hid (And.intro hc2 hn2); obtain ⟨r0, r1⟩ := (show w2.cell? ⟨w.heap.size + 1, 0, none⟩ = some (.slice none 0 0) ∧ w2.cell? ⟨w.heap.size + 1, 1, none⟩ = some (.slice none 0 0) from ⟨cell_of H2.out.res rfl, cell_of H2.out.res rfl⟩); have rf0 := frozen_of_row _ _ 0 _ _ H2.out.res; have rf1 := frozen_of_row _ _ 1 _ _ H2.out.res; clear hc2 hn2 hb2)
      refine bodyPost_ret (results_cell_row rfl _ _ (w.heap.size + 1) 25 _ _ _ rfl (two_stored14 H2.out.res _ _) Try.underlying25 rfl (by kernel_rfl)) rfl ?_
      obtain ⟨t1, t2⟩ := H2.out.told (.slice k2 K.length kc2) (.slice (some ⟨w.heap.size + 1 + 1, 0, none⟩) I.length I.length)
      have hg := obj_lt HC.out.row
      exact ⟨k2, kc2, _, _, rfl, HN2.out.1, Nat.le_refl _, ((HN2.out.2.set14 (p := ⟨w.heap.size + 1, 0, none⟩) (by simp; omega) _).set14 (p := ⟨w.heap.size + 1, 1, none⟩) (by simp; omega) _).wide (by omega) (Nat.le_refl _), t1, t2⟩
end Go.Proofs.Ytnbmccfaomhppaa
