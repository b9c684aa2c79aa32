/- Rows of sectors, and the document's devices, as they lie in memory. -/
import Derived.Test.YtocengdojdeiiaaSect8
import Derived.Test.YtocengdojdeiiaaOwn
import Derived.Test.YtocengdojdeiiaaCells
import Derived.Test.YtocengdojdeiiaaCuts
import Derived.Deep.DeepCutAuto
namespace Go.Proofs.Ytocengdojdeiiaa
open Go.RowKit

theorem own_step {w w' : World} {B : Nat} {e : TypeId} {s : Nat} {v : Value} {n : Nat} {xs : List Value} (h : w.ownsRow B e s v n xs) (hb : Below w.heap.size w w') : w'.ownsRow B e s v n xs := by
  refine ⟨h.1, ?_⟩
  rcases h.2 with h2 | ⟨g, cap, cur, h1, h2, h3, h4⟩
  · exact Or.inl h2
  · exact Or.inr ⟨g, cap, cur, h1, h2, old_obj hb h3, h4⟩
theorem own_obj {w : World} {B : Nat} {e : TypeId} {s n g c : Nat} {xs : List Value} (h : w.ownsRow B e s (.slice (some ⟨g, 0, none⟩) n c) n xs) : ∃ cs, w.heap[g]? = some (.cells cs e (0, 0)) := by
  rcases h.2 with ⟨h', _⟩ | ⟨g', cap', cur, h', _, hg, _⟩
  · simp at h'
  · simp only [Value.slice.injEq, Option.some.injEq, Addr.mk.injEq, and_true, true_and] at h'
    obtain ⟨rfl, rfl⟩ := h'
    exact ⟨cur, hg⟩
theorem own_other {w : World} {B : Nat} {e : TypeId} {s n g c : Nat} {xs : List Value} (h : w.ownsRow B e s (.slice (some ⟨g, 0, none⟩) n c) n xs) {k : Nat} (hk : g ≠ k) (j : Nat) (v : Value) : (w.setCell ⟨k, j, none⟩ v).ownsRow B e s (.slice (some ⟨g, 0, none⟩) n c) n xs := by
  refine ⟨h.1, ?_⟩
  rcases h.2 with ⟨h', _⟩ | ⟨g', cap, cur, h1, h2, h3, h4⟩
  · simp at h'
  · simp only [Value.slice.injEq, Option.some.injEq, Addr.mk.injEq, and_true, true_and] at h1
    obtain ⟨rfl, rfl⟩ := h1
    exact Or.inr ⟨g, c, cur, rfl, h2, (heap_setCell_other w ⟨k, j, none⟩ g v (by simpa using hk)).trans h3, h4⟩
theorem own_stores {w : World} {B : Nat} {e : TypeId} {s n g c : Nat} {xs : List Value} (h : w.ownsRow B e s (.slice (some ⟨g, 0, none⟩) n c) n xs) {k : Nat} (hk : g ≠ k) (x y z u : Value) :
    ((((w.setCell ⟨k, 0, none⟩ x).setCell ⟨k, 1, none⟩ y).setCell ⟨k, 2, none⟩ z).setCell ⟨k, 3, none⟩ u).ownsRow B e s (.slice (some ⟨g, 0, none⟩) n c) n xs :=
  own_other (own_other (own_other (own_other h hk _ _) hk _ _) hk _ _) hk _ _
def secCells (l : List Sec) : List Value := l.flatMap fun c => [.string c.now, .string c.safe, .bool c.loose]
theorem sec_len (l : List Sec) : (secCells l).length = l.length * 3 := by
  induction l with
  | nil => rfl
  | cons c l ih =>
    show (([.string c.now, .string c.safe, .bool c.loose] : List Value) ++ secCells l).length = _
    rw [List.length_append, ih, List.length_cons]
    simp only [List.length_cons, List.length_nil]; omega
theorem sec_more (a b : List Sec) : secCells (a ++ b) = secCells a ++ secCells b := by unfold secCells; rw [List.flatMap_append]
theorem sec_split (l : List Sec) (k : Nat) (h : k < l.length) : secCells l = secCells (l.take k) ++ ([.string l[k].now, .string l[k].safe, .bool l[k].loose] ++ secCells (l.drop (k + 1))) := by
  have e : l = l.take k ++ (l[k] :: l.drop (k + 1)) := by rw [List.getElem_cons_drop, List.take_append_drop]
  conv => lhs; rw [e]
  rw [sec_more]; rfl
theorem sec_at (l : List Sec) (k : Nat) (h : k < l.length) : (secCells l)[3 * k]? = some (.string l[k].now) ∧ (secCells l)[3 * k + 1]? = some (.string l[k].safe) ∧ (secCells l)[3 * k + 2]? = some (.bool l[k].loose) := by
  have hl : (secCells (l.take k)).length = 3 * k := by rw [sec_len, List.length_take, Nat.min_eq_left (by omega)]; omega
  rw [sec_split l k h]
  refine ⟨?_, ?_, ?_⟩
  · rw [List.getElem?_append_right (by omega), hl, Nat.sub_self]; rfl
  · rw [List.getElem?_append_right (by omega), hl, show 3 * k + 1 - 3 * k = 1 by omega]; rfl
  · rw [List.getElem?_append_right (by omega), hl, show 3 * k + 2 - 3 * k = 2 by omega]; rfl
theorem sec_set (l : List Sec) (k : Nat) (h : k < l.length) (x : ByteArray) (y : ByteArray) (z : Bool) :
    (secCells l).set (3 * k) (.string x) = secCells (l.set k ⟨x, l[k].safe, l[k].loose⟩) ∧ (secCells l).set (3 * k + 1) (.string y) = secCells (l.set k ⟨l[k].now, y, l[k].loose⟩) ∧ (secCells l).set (3 * k + 2) (.bool z) = secCells (l.set k ⟨l[k].now, l[k].safe, z⟩) := by
  have hl : (secCells (l.take k)).length = 3 * k := by rw [sec_len, List.length_take, Nat.min_eq_left (by omega)]; omega
  have hs : ∀ c : Sec, secCells (l.set k c) = secCells (l.take k) ++ ([.string c.now, .string c.safe, .bool c.loose] ++ secCells (l.drop (k + 1))) := fun c => by
    have e : l.set k c = l.take k ++ (c :: l.drop (k + 1)) := by
      rw [List.set_eq_take_append_cons_drop, if_pos h]
    rw [e, sec_more]; rfl
  rw [sec_split l k h, hs, hs, hs]
  refine ⟨?_, ?_, ?_⟩
  · rw [List.set_append_right _ _ (by omega), hl, Nat.sub_self]; rfl
  · rw [List.set_append_right _ _ (by omega), hl, show 3 * k + 1 - 3 * k = 1 by omega]; rfl
  · rw [List.set_append_right _ _ (by omega), hl, show 3 * k + 2 - 3 * k = 2 by omega]; rfl
theorem sec_one (l : List Sec) : ∀ u ∈ secCells l, u.oneCell' = true := by
  intro u hu
  unfold secCells at hu
  obtain ⟨c, _, hc⟩ := List.mem_flatMap.1 hu
  simp at hc
  rcases hc with rfl | rfl | rfl <;> rfl
theorem infoCell : (Try.prog.info? 69).map (fun i => (i.zero, i.size, i.bytes)) = some (some (.agg #[.string ⟨#[]⟩, .string ⟨#[]⟩, .bool false]), 3, 40) := by kernel_rfl
/-- A device of the document's: its value, and its row. -/
structure RDev (B : Nat) (w : World) (a : Value) (d : Dv) : Prop where
  row : w.ownsRow B 69 3 a d.cells.length (secCells d.cells)
def devV (a : Value) (d : Dv) : Value := .agg #[a, .int .i64 d.ops, .int .i64 d.armed, .bool d.dead]
theorem RDev.step {B : Nat} {w w' : World} {a : Value} {d : Dv} (h : RDev B w a d) (hb : Below w.heap.size w w') : RDev B w' a d := ⟨own_step h.row hb⟩
theorem RDev.mono {B B' : Nat} {w : World} {a : Value} {d : Dv} (h : RDev B w a d) (hB : B' ≤ B) : RDev B' w a d := by
  refine ⟨h.row.1, ?_⟩
  rcases h.row.2 with h2 | ⟨g, cap, cur, h1, h2, h3⟩
  · exact Or.inl h2
  · exact Or.inr ⟨g, cap, cur, h1, by omega, h3⟩
theorem four_cells8 {w : World} {g : Nat} {x y z u : Value} {t : TypeId} (h : w.heap[g]? = some (.cells #[x, y, z, u] t (0, 0))) :
    w.cell? ⟨g, 0, none⟩ = some x ∧ w.cell? ⟨g, 1, none⟩ = some y ∧ w.cell? ⟨g, 2, none⟩ = some z ∧ w.cell? ⟨g, 3, none⟩ = some u ∧ w.frozen? ⟨g, 0, none⟩ = false ∧ w.frozen? ⟨g, 1, none⟩ = false ∧ w.frozen? ⟨g, 2, none⟩ = false ∧ w.frozen? ⟨g, 3, none⟩ = false :=
  ⟨cell_of (j := 0) h rfl, cell_of (j := 1) h rfl, cell_of (j := 2) h rfl, cell_of (j := 3) h rfl, frozen_of_row w g 0 _ _ h, frozen_of_row w g 1 _ _ h, frozen_of_row w g 2 _ _ h, frozen_of_row w g 3 _ _ h⟩
theorem four_stored8 {w : World} {g : Nat} {x y z u : Value} {t : TypeId} (h : w.heap[g]? = some (.cells #[x, y, z, u] t (0, 0))) (x' y' z' u' : Value) :
    ((((w.setCell ⟨g, 0, none⟩ x').setCell ⟨g, 1, none⟩ y').setCell ⟨g, 2, none⟩ z').setCell ⟨g, 3, none⟩ u').heap[g]? = some (.cells #[x', y', z', u'] t (0, 0)) := by
  have h0 := heap_setCell_same w g 0 _ t x' h
  have h1 := heap_setCell_same _ g 1 _ t y' h0
  have h2 := heap_setCell_same _ g 2 _ t z' h1
  exact heap_setCell_same _ g 3 _ t u' h2
theorem four_below8 {B : Nat} {w w' : World} (h : Below B w w') {g : Nat} (hg : B ≤ g) (x y z u : Value) :
    Below B w ((((w'.setCell ⟨g, 0, none⟩ x).setCell ⟨g, 1, none⟩ y).setCell ⟨g, 2, none⟩ z).setCell ⟨g, 3, none⟩ u) :=
  (((h.setCell (p := ⟨g, 0, none⟩) hg x).setCell (p := ⟨g, 1, none⟩) hg y).setCell (p := ⟨g, 2, none⟩) hg z).setCell (p := ⟨g, 3, none⟩) hg u
theorem dev_load {w : World} {g : Nat} {t : TypeId} {x y z u : Value} {fr : Nat × Nat} (h : w.heap[g]? = some (.cells #[x, y, z, u] t fr)) : (loadVar 32 ⟨g, 0, none⟩).run Try.prog w = .ok (.agg #[x, y, z, u]) w :=
  run_loadVar_row (P := Try.prog) w g t 32 #[x, y, z, u] fr _ h Try.underlying32 rfl (by kernel_rfl)

set_option maxHeartbeats 1000000 in
theorem rfresh_any (B : Nat) (a : Value) (d : Dv) (w : World) (hd : RDev B w a d) (h0 : 0 < d.cells.length) (h1 : d.cells.length ≤ 2000) :
    Calls Try.prog 46 #[.agg #[a, .int .i64 d.ops, .int .i64 d.armed, .bool d.dead]] w fun e w' => ∃ a', e = .returned (.agg #[a', .int .i64 d.ops, .int .i64 d.armed, .bool d.dead]) ∧ RDev w.heap.size w' a' d ∧ Below w.heap.size w w' := by
  obtain ⟨i0, hi, hz0, hz1, hz2⟩ := info_parts infoCell
  obtain ⟨g, cap, rfl⟩ := Joins.ownsRow_form hd.row h0
  go_enter Try.func46, Try.ntmps46
  obtain ⟨W0, hW0⟩ : ∃ W0, W0 = (w.alloc (.cells #[.slice (some ⟨g, 0, none⟩) d.cells.length cap, .int .i64 d.ops, .int .i64 d.armed, .bool d.dead] 32)).alloc (.cells #[.slice none 0 0, .int .i64 0, .int .i64 0, .bool false] 32) := ⟨_, rfl⟩
  have hs0 : W0.heap.size = w.heap.size + 2 := by rw [hW0]; simp
  have hb0 : Below w.heap.size w W0 := by rw [hW0]; exact ((Below.refl _ w).alloc (Nat.le_refl _) _).alloc (by simp) _
  have ha0 := heap_alloc2_old w (.cells #[.slice (some ⟨g, 0, none⟩) d.cells.length cap, .int .i64 d.ops, .int .i64 d.armed, .bool d.dead] 32) (.cells #[.slice none 0 0, .int .i64 0, .int .i64 0, .bool false] 32)
  have hr0 := heap_alloc2_new w (.cells #[.slice (some ⟨g, 0, none⟩) d.cells.length cap, .int .i64 d.ops, .int .i64 d.armed, .bool d.dead] 32) (.cells #[.slice none 0 0, .int .i64 0, .int .i64 0, .bool false] 32)
  rw [← hW0] at ha0 hr0
  have hd1 := (hd.step hb0).step ((Below.refl _ W0).alloc (Nat.le_refl _) (.cells #[] 69))
  go_upto_region 1 with fail
  rw [← hW0]
  clear hW0
  obtain ⟨c0, c1, c2, c3, f0, f1, f2, f3⟩ := four_cells8 ha0
  have hown0 : (W0.alloc (.cells #[] 69)).ownsRow w.heap.size 69 3 (.slice (some ⟨w.heap.size + 2, 0, none⟩) 0 0) 0 [] :=
    ⟨rfl, Or.inr ⟨w.heap.size + 2, 0, #[], rfl, by omega, by rw [← hs0]; exact heap_alloc_new _ _, Nat.le_refl _, by unfold maxLen; omega, rfl, rfl⟩⟩
  have hnews := hd1.row.cells (g := g) rfl
  have hsz1 : (W0.alloc (.cells #[] 69)).heap.size = w.heap.size + 3 := by simp; omega
  go_wp2_with (at_builtin; refine wpList_append_own _ rfl _ _ 30 rfl w.heap.size 69 i0 (.agg #[.string ⟨#[]⟩, .string ⟨#[]⟩, .bool false]) 3 40 Try.underlying30 hi hz0 hz1 hz2 rfl (by decide) _ 0 [] rfl hown0 ⟨g, 0, none⟩ d.cells.length cap (secCells d.cells) rfl (sec_len _) hnews (sec_one _) (by unfold maxLen; omega) (by omega) (by omega) ?_)
  intro v' w2 hown2 hg2 _
  have hg3 : (W0.alloc (.cells #[] 69)).grownBy w2 (some (w.heap.size + 2)) := hg2
  have ha2 := grown_obj hg3 (old_obj ((Below.refl _ W0).alloc (Nat.le_refl _) (.cells #[] 69)) ha0) (by omega)
  have hr2 := grown_obj hg3 (old_obj ((Below.refl _ W0).alloc (Nat.le_refl _) (.cells #[] 69)) hr0) (by omega)
  have hb2 : Below w.heap.size w w2 := (hb0.alloc (by omega) _).grown hg3 (by omega) (fun k hk => by injection hk; omega)
  obtain ⟨g2, cap2, rfl⟩ := Joins.ownsRow_form hown2 h0
  have hne : g2 ≠ w.heap.size ∧ g2 ≠ w.heap.size + 1 := by
    refine ⟨fun e => ?_, fun e => ?_⟩
    · subst e
      obtain ⟨cs, hcs⟩ := own_obj hown2
      rw [ha2] at hcs
      injection hcs with hcs; injection hcs with _ ht; revert ht; decide
    · subst e
      obtain ⟨cs, hcs⟩ := own_obj hown2
      rw [hr2] at hcs
      injection hcs with hcs; injection hcs with _ ht; revert ht; decide
  clear c0 c1 c2 c3 f0 f1 f2 f3 hnews hown0 hg2
  obtain ⟨c0, c1, c2, c3, f0, f1, f2, f3⟩ := four_cells8 ha2
  obtain ⟨e0, e1, e2, e3, k0, k1, k2, k3⟩ := four_cells8 hr2
  have HA2 := Lib.hid ha2
  have HR2 := Lib.hid hr2
  have HB2 := Lib.hid hb2
  have HO2 := Lib.hid hown2
  clear ha2 hr2 hb2 hown2 hg3 ha0 hr0 hd1 hd hb0
  go_wp2
  have hr3 := (heap_setCell_other w2 ⟨w.heap.size, 0, none⟩ (w.heap.size + 1) (.slice (some ⟨g2, 0, none⟩) d.cells.length cap2) (by simp)).trans HR2.out
  refine bodyPost_ret (results_cell_row rfl _ _ (w.heap.size + 1) 32 _ _ _ rfl (four_stored8 hr3 _ _ _ _) Try.underlying32 rfl (by kernel_rfl)) rfl ?_
  exact ⟨_, rfl, ⟨own_stores (own_other HO2.out hne.1 _ _) hne.2 _ _ _ _⟩, four_below8 (HB2.out.setCell (p := ⟨w.heap.size, 0, none⟩) (Nat.le_refl _) _) (by omega) _ _ _ _⟩
end Go.Proofs.Ytocengdojdeiiaa
