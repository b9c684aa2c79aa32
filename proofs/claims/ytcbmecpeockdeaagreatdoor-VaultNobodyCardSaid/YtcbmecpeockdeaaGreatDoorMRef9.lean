/- The document's own Sectors, Get, Choose and Next of snapshots, for every text, in every world. -/
import Derived.Test.YtcbmecpeockdeaaGreatDoorBits5
import Derived.Test.YtcbmecpeockdeaaGreatDoorMByte
import Derived.Test.YtcbmecpeockdeaaGreatDoorMCells
import Derived.Test.YtcbmecpeockdeaaGreatDoorRef7
namespace Go.Proofs.YtcbmecpeockdeaaGreatDoor
open Go.RowKit

theorem two_cells9 {w : World} {g : Nat} {x y : Value} {t : TypeId} (h : w.heap[g]? = some (.cells #[x, y] t (0, 0))) :
    w.cell? ⟨g, 0, none⟩ = some x ∧ w.cell? ⟨g, 1, none⟩ = some y ∧ w.frozen? ⟨g, 0, none⟩ = false ∧ w.frozen? ⟨g, 1, none⟩ = false :=
  ⟨cell_of (j := 0) h rfl, cell_of (j := 1) h rfl, frozen_of_row w g 0 _ _ h, frozen_of_row w g 1 _ _ h⟩
theorem two_stored9 {w : World} {g : Nat} {x y : Value} {t : TypeId} (h : w.heap[g]? = some (.cells #[x, y] t (0, 0))) (x' y' : Value) :
    ((w.setCell ⟨g, 0, none⟩ x').setCell ⟨g, 1, none⟩ y').heap[g]? = some (.cells #[x', y'] t (0, 0)) := by
  have h0 := heap_setCell_same w g 0 _ t x' h
  exact heap_setCell_same _ g 1 _ t y' h0
theorem two_below9 {B : Nat} {w w' : World} (h : Below B w w') {g : Nat} (hg : B ≤ g) (x y : Value) :
    Below B w ((w'.setCell ⟨g, 0, none⟩ x).setCell ⟨g, 1, none⟩ y) :=
  (h.setCell (p := ⟨g, 0, none⟩) hg x).setCell (p := ⟨g, 1, none⟩) hg y
/-- The first twelve bytes, as the document reads them. -/
theorem head9 (l : List UInt8) (h : 16 ≤ l.length) : getE l 0 8 = (if 127 < (l.getD 0 0).toNat then 8 else 0) ∧ (¬ 127 < (l.getD 0 0).toNat → getV l 0 8 = (gen9 l : Int)) ∧ getE l 8 4 = 0 ∧ getV l 8 4 = (len9 l : Int) := by
  have h1 : getE l 0 8 = (if 127 < (l.getD 0 0).toNat then 8 else 0) := by
    unfold getE
    rw [if_pos ⟨by unfold wideW; omega, by omega, by omega⟩, if_neg (by omega)]
    show (if (8 : Int) = 8 ∧ 127 < (l.getD 0 0).toNat then (8 : Int) else 0) = _
    by_cases q : 127 < (l.getD 0 0).toNat
    · rw [if_pos ⟨rfl, q⟩, if_pos q]
    · rw [if_neg (fun x => q x.2), if_neg q]
  have h2 : getE l 8 4 = 0 := by
    unfold getE
    rw [if_pos ⟨by unfold wideW; omega, by omega, by omega⟩, if_neg (by omega), if_neg (by omega)]
  refine ⟨h1, fun q => ?_, h2, ?_⟩
  · unfold getV
    rw [h1, if_neg q, if_pos rfl]
    rfl
  · unfold getV
    rw [h2, if_pos rfl]
    rfl
theorem bad9 {l : List UInt8} (h : getE9 l ≠ 0) : getG9 l = 0 ∧ getT9 l = [] := by unfold getG9 getT9; rw [if_neg h, if_neg h]; exact ⟨rfl, rfl⟩
/-- Behind the two calls and their blocks: the three blocks, each as it was laid. -/
theorem laid9 {w w1 w2 : World} {Z X Y : Obj} (h1 : Below (w.alloc Z).heap.size (w.alloc Z) w1) (h2 : Below (w1.alloc X).heap.size (w1.alloc X) w2) :
    (w2.alloc Y).heap[w.heap.size]? = some Z ∧ (w2.alloc Y).heap[w1.heap.size]? = some X ∧ (w2.alloc Y).heap[w2.heap.size]? = some Y ∧ w.heap.size < w1.heap.size ∧ w1.heap.size < w2.heap.size ∧ Below w.heap.size w (w2.alloc Y) := by
  have s1 := h1.size
  have s2 := h2.size
  simp at s1 s2
  have b1 : Below w.heap.size w w1 := ((Below.refl _ w).alloc (Nat.le_refl _) Z).trans (h1.mono (by simp))
  have b2 : Below w1.heap.size w1 w2 := ((Below.refl _ w1).alloc (Nat.le_refl _) X).trans (h2.mono (by simp))
  have b3 : Below w2.heap.size w2 (w2.alloc Y) := (Below.refl _ w2).alloc (Nat.le_refl _) Y
  refine ⟨old_obj b3 (old_obj b2 (old_obj h1 (heap_alloc_new w Z))), old_obj b3 (old_obj h2 (heap_alloc_new w1 X)), heap_alloc_new w2 Y, by omega, by omega, (b1.trans (b2.mono (by omega))).trans (b3.mono (by omega))⟩
theorem gen_range (l : List UInt8) : 0 ≤ getG9 l ∧ getG9 l ≤ 1000000000 := by
  unfold getG9
  split
  · rename_i h
    have := (get_parts h).2.2.1
    omega
  · omega
theorem pick_range (a b : List UInt8) : 0 ≤ pickG a b ∧ pickG a b ≤ 1000000000 := by
  have h1 := gen_range a
  have h2 := gen_range b
  unfold pickG
  split
  · omega
  · split <;> omega
end Go.Proofs.YtcbmecpeockdeaaGreatDoor
namespace Go.Proofs.YtcbmecpeockdeaaGreatDoor
open Go.RowKit

/-- The program's five functions answer as the plain words say, in every world with the trait T, which lasts while nothing old changes. -/
structure Slot9 (T : World → Prop) : Prop where
  below : ∀ {w w' : World}, T w → Below w.heap.size w w' → T w'
  sect : ∀ (t : ByteArray), t.size ≤ 281474976710656 → ∀ w, Calls Tryz.prog 24 #[.string t] w fun e w' => e = .returned (.int .i64 (sect9 t.size : Nat)) ∧ Below w.heap.size w w'
  put : ∀ (g : Int) (t : ByteArray), g ≤ 9223372036854775807 → t.size ≤ 281474976710656 → ∀ w, T w → Calls Tryz.prog 39 #[.agg #[.int .i64 g, .string t]] w fun e w' => ∃ u : ByteArray, e = .returned (.tuple #[.string u, .int .i64 (putE9 g t.data.toList)]) ∧ Hid (u.data.toList = putL9 g t.data.toList) ∧ Below w.heap.size w w'
  get : ∀ (s : ByteArray), s.size ≤ 281474976710656 → ∀ w, T w → Calls Tryz.prog 47 #[.string s] w fun e w' => ∃ t : ByteArray, e = .returned (.tuple #[.agg #[.int .i64 (getG9 s.data.toList), .string t], .int .i64 (getE9 s.data.toList)]) ∧ Hid (t.data.toList = getT9 s.data.toList) ∧ Below w.heap.size w w'
  choose : ∀ (a b : ByteArray), a.size ≤ 281474976710656 → b.size ≤ 281474976710656 → ∀ w, T w → Calls Tryz.prog 28 #[.string a, .string b] w fun e w' => ∃ t : ByteArray, e = .returned (.tuple #[.agg #[.int .i64 (pickG a.data.toList b.data.toList), .string t], .int .i64 (pickI a.data.toList b.data.toList)]) ∧ Hid (t.data.toList = pickT a.data.toList b.data.toList) ∧ Below w.heap.size w w'
  next : ∀ (a b : ByteArray), a.size ≤ 281474976710656 → b.size ≤ 281474976710656 → ∀ w, T w → Calls Tryz.prog 38 #[.string a, .string b] w fun e w' => e = .returned (.tuple #[.int .i64 (nextG a.data.toList b.data.toList), .int .i64 (nextS a.data.toList b.data.toList)]) ∧ Below w.heap.size w w'
end Go.Proofs.YtcbmecpeockdeaaGreatDoor
