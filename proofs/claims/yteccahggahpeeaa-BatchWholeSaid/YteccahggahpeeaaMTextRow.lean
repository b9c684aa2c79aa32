/- Rows of texts of the call's own: appended to, and read as slices of texts; two slices of texts compared by the document's own SameTexts. -/
import Derived.Test.YteccahggahpeeaaMBits5
import Derived.Test.YteccahggahpeeaaMByte
import Derived.Test.YteccahggahpeeaaMCells
import Derived.Test.YteccahggahpeeaaMInts
import Derived.Test.YteccahggahpeeaaMLeaf
import Derived.Test.YteccahggahpeeaaRows
import Derived.Test.YteccahggahpeeaaShelf
import Derived.Laws.ResultCell
import Derived.Laws.Rows
import Derived.Lib.RuneBytes
import Derived.WalkKit
import Derived.BigCall
import Derived.Outline
import Derived.Laws.IdiomStrings
import Derived.Lib.SmallJoins
import Derived.Lib.OthersKept
import Derived.Laws.RangeAny
namespace Go.Proofs.Yteccahggahpeeaa
open Go.RowKit

theorem infoStr : (Try.prog.info? 9).map (fun i => (i.zero, i.size, i.bytes)) = some (some (.string ⟨#[]⟩), 1, 16) := by kernel_rfl
def strCells (xs : List ByteArray) : List Value := xs.map fun x => .string x
theorem strCells_at (l : List ByteArray) (j : Nat) (hj : j < l.length) : (strCells l)[j]? = some (.string (textAt l j)) := by
  unfold strCells textAt
  rw [List.getElem?_map, List.getElem?_eq_getElem hj, List.getD_eq_getElem?_getD, List.getElem?_eq_getElem hj]
  rfl
theorem strCells_more (l : List ByteArray) (x : ByteArray) : strCells l ++ [.string x] = strCells (l ++ [x]) := by unfold strCells; simp
/-- As Texts, the row lying from block A on. -/
def TextsNew (A B : Nat) (w : World) (a : Option Addr) (xs : List ByteArray) : Prop :=
  xs = [] ∨ ∃ b off, a = some ⟨b, off, none⟩ ∧ A ≤ b ∧ b < B ∧ ∀ j, j < xs.length → w.cell? ⟨b, off + j, none⟩ = some (.string (textAt xs j))
theorem TextsNew.texts {A B : Nat} {w : World} {a : Option Addr} {xs : List ByteArray} (h : TextsNew A B w a xs) : Texts B w a xs := by
  rcases h with h | ⟨b, off, ha, _, hB, hc⟩
  · exact Or.inl h
  · exact Or.inr ⟨b, off, ha, hB, hc⟩
theorem TextsNew.below {A B : Nat} {w w' : World} {a : Option Addr} {xs : List ByteArray} (h : TextsNew A B w a xs) (hb : Below B w w') : TextsNew A B w' a xs := by
  rcases h with h | ⟨b, off, ha, hA, hB, hc⟩
  · exact Or.inl h
  · exact Or.inr ⟨b, off, ha, hA, hB, fun j hj => (hb.cell (p := ⟨b, off + j, none⟩) hB).trans (hc j hj)⟩
theorem TextsNew.wide {A A' B B' : Nat} {w : World} {a : Option Addr} {xs : List ByteArray} (h : TextsNew A B w a xs) (hA : A' ≤ A) (hB : B ≤ B') : TextsNew A' B' w a xs := by
  rcases h with h | ⟨b, off, ha, h1, h2, hc⟩
  · exact Or.inl h
  · exact Or.inr ⟨b, off, ha, by omega, by omega, hc⟩
theorem TextsNew.step {A : Nat} {w w' : World} {a : Option Addr} {xs : List ByteArray} (h : TextsNew A w.heap.size w a xs) (b : Below w.heap.size w w') : TextsNew A w'.heap.size w' a xs := (h.below b).wide (Nat.le_refl _) b.size
theorem TextsNew.set {A : Nat} {w : World} {a : Option Addr} {xs : List ByteArray} (h : TextsNew A w.heap.size w a xs) {p : Addr} (hp : p.block < A) (u : Value) : TextsNew A (w.setCell p u).heap.size (w.setCell p u) a xs := by
  rcases h with h | ⟨b, off, ha, hA, hB, hc⟩
  · exact Or.inl h
  · refine Or.inr ⟨b, off, ha, hA, by rw [World.size_setCell]; exact hB, fun j hj => ?_⟩
    rw [World.cell?_setCell_other w p ⟨b, off + j, none⟩ u (fun e => by subst e; simp at hp; omega)]
    exact hc j hj
theorem texts_own_new {w : World} {B : Nat} {v : Value} {l : List ByteArray} (h : w.ownsRow B 9 1 v l.length (strCells l)) : ∃ a cap, v = .slice a l.length cap ∧ TextsNew B w.heap.size w a l := by
  rcases Nat.eq_zero_or_pos l.length with h0 | h0
  · have hl := List.length_eq_zero_iff.1 h0
    subst hl
    rcases Joins.ownsRow_forms h with ⟨rfl, _⟩ | ⟨g, cap, rfl⟩
    · exact ⟨none, 0, rfl, Or.inl rfl⟩
    · exact ⟨_, cap, rfl, Or.inl rfl⟩
  · obtain ⟨g, cap, rfl⟩ := Joins.ownsRow_form h h0
    refine ⟨_, cap, rfl, Or.inr ⟨g, 0, rfl, (h.lt g rfl).1, (h.lt g rfl).2, fun j hj => ?_⟩⟩
    have hc := h.cells (g := g) rfl j _ (strCells_at l j hj)
    rcases Nat.eq_zero_or_pos j with hj0 | hj0
    · subst hj0; simpa [Addr.add] using hc
    · simpa [Addr.add, Nat.ne_of_gt hj0] using hc
end Go.Proofs.Yteccahggahpeeaa
namespace Go.Proofs.Yteccahggahpeeaa
open Go.RowKit

def rdr (s : ByteArray) (r : Rs) : Value := .agg #[.string s, .int .i64 r.p, .int .i64 r.e]
theorem rdr_load {w : World} {g : Nat} {t : TypeId} {x y z : Value} {fr : Nat × Nat} (h : w.heap[g]? = some (.cells #[x, y, z] t fr)) : (loadVar 109 ⟨g, 0, none⟩).run Try.prog w = .ok (.agg #[x, y, z]) w :=
  run_loadVar_row (P := Try.prog) w g t 109 #[x, y, z] fr _ h Try.underlying109 rfl (by kernel_rfl)
theorem rmoved_any (s : ByteArray) (p e t f : Int) (w : World) :
    Calls Try.prog 79 #[.agg #[.string s, .int .i64 p, .int .i64 e], .int .i64 t, .int .i64 f] w fun x w' => x = .returned (.agg #[.string s, .int .i64 (stp ⟨p, e⟩ t f).p, .int .i64 (stp ⟨p, e⟩ t f).e]) ∧ Below w.heap.size w w' := by
  by_cases h : f = 0
  · have hd : (f != 0) = false := by rw [h]; rfl
    have He : Hid (stp ⟨p, e⟩ t f = ⟨t, e⟩) := Lib.hid (by unfold stp; rw [if_pos h])
    clear h
    go_enter Try.func79, Try.ntmps79
    go_wp2
    refine bodyPost_ret (results_cell_row rfl _ _ (w.heap.size + 1) 109 _ _ _ rfl (heap_alloc2_new _ _ _) Try.underlying109 rfl (by kernel_rfl)) rfl ?_
    exact ⟨by rw [He.out], ((Below.refl _ _).alloc (Nat.le_refl _) _).alloc (by simp) _⟩
  · have hd : (f != 0) = true := by rw [bne_iff_ne]; exact h
    have He : Hid (stp ⟨p, e⟩ t f = ⟨p, f⟩) := Lib.hid (by unfold stp; rw [if_neg h])
    clear h
    go_enter Try.func79, Try.ntmps79
    go_wp2
    refine bodyPost_ret (results_cell_row rfl _ _ (w.heap.size + 1) 109 _ _ _ rfl (heap_alloc2_new _ _ _) Try.underlying109 rfl (by kernel_rfl)) rfl ?_
    exact ⟨by rw [He.out], ((Below.refl _ _).alloc (Nat.le_refl _) _).alloc (by simp) _⟩
/-- A place that may be asked for. -/
def Fit (r : Rs) : Prop := -9223372036854775808 ≤ r.p ∧ r.p ≤ 9223372036854775807
set_option maxHeartbeats 1000000 in
theorem rnum6 (s : ByteArray) (hs : s.size ≤ 4611686018427387904) (r : Rs) (hr : Fit r) (x m : Int) (w : World) :
    Calls Try.prog 54 #[rdr s r, .int .i64 x, .int .i64 m] w fun e w' => e = .returned (.tuple #[rdr s (numR s.data.toList r x m), .int .i64 (numV s.data.toList r x m)]) ∧ Below w.heap.size w w' := by
  obtain ⟨p, e⟩ := r
  by_cases h : e = 0
  · subst h
    unfold rdr
    obtain ⟨V, hV⟩ : ∃ V, V = getV s.data.toList p x := ⟨_, rfl⟩
    obtain ⟨T, hT⟩ : ∃ T, T = getT s.data.toList p x := ⟨_, rfl⟩
    obtain ⟨E, hE⟩ : ∃ E, E = getE s.data.toList p x := ⟨_, rfl⟩
    have HG : Hid (∀ v, Calls Try.prog 78 #[.string s, .int .i64 p, .int .i64 x] v fun e w' => e = .returned (.tuple #[.int .i64 V, .int .i64 T, .int .i64 E]) ∧ v = w') := Lib.hid fun v => by rw [hV, hT, hE]; exact rget_any s hs p x hr.1 hr.2 v
    by_cases c : E = 0
    · subst c
      by_cases c2 : m < V
      · have He : Hid (numR s.data.toList ⟨p, 0⟩ x m = stp ⟨p, 0⟩ T 3 ∧ numV s.data.toList ⟨p, 0⟩ x m = 0) := Lib.hid (by simp [numR, numV, numE, ← hV, ← hT, ← hE, c2])
        have hd : decide (m < V) = true := decide_eq_true c2
        clear c2 hr hV hT hE
        go_enter Try.func54, Try.ntmps54
        go_wp2_with (go_at_call 78; refine (HG.out _).mono ?_; rintro e w' ⟨rfl, rfl⟩)
        refine (rmoved_any _ _ _ _ _ _).mono ?_
        rintro x1 w1 ⟨rfl, b1⟩
        obtain ⟨hbl, G, _⟩ := below_two b1
        obtain ⟨d0, d1, d2, f0, f1, f2⟩ := three_cells G
        clear b1
        go_wp2
        refine bodyPost_ret (results_row_slot rfl _ _ (w.heap.size + 1) _ rfl (rdr_load (three_stored G _ _ _))) rfl ?_
        exact ⟨by rw [He.out.1, He.out.2]; rfl, three_below hbl (by omega) _ _ _⟩
      · have He : Hid (numR s.data.toList ⟨p, 0⟩ x m = stp ⟨p, 0⟩ T 0 ∧ numV s.data.toList ⟨p, 0⟩ x m = V) := Lib.hid (by simp [numR, numV, numE, ← hV, ← hT, ← hE, c2])
        have hd : decide (m < V) = false := decide_eq_false c2
        clear c2 hr hV hT hE
        go_enter Try.func54, Try.ntmps54
        go_wp2_with (go_at_call 78; refine (HG.out _).mono ?_; rintro e w' ⟨rfl, rfl⟩)
        refine (rmoved_any _ _ _ _ _ _).mono ?_
        rintro x1 w1 ⟨rfl, b1⟩
        obtain ⟨hbl, G, _⟩ := below_two b1
        obtain ⟨d0, d1, d2, f0, f1, f2⟩ := three_cells G
        clear b1
        go_wp2
        refine bodyPost_ret (results_row_slot rfl _ _ (w.heap.size + 1) _ rfl (rdr_load (three_stored G _ _ _))) rfl ?_
        exact ⟨by rw [He.out.1, He.out.2]; rfl, three_below hbl (by omega) _ _ _⟩
    · have He : Hid (numR s.data.toList ⟨p, 0⟩ x m = stp ⟨p, 0⟩ T E ∧ numV s.data.toList ⟨p, 0⟩ x m = 0) := Lib.hid (by simp [numR, numV, numE, ← hT, ← hE, c])
      have hd : (E == 0) = false := by simpa using c
      have hd2 : (E != 0) = true := by simpa using c
      clear c hr hV hT hE
      go_enter Try.func54, Try.ntmps54
      go_wp2_with (go_at_call 78; refine (HG.out _).mono ?_; rintro e w' ⟨rfl, rfl⟩)
      refine (rmoved_any _ _ _ _ _ _).mono ?_
      rintro x1 w1 ⟨rfl, b1⟩
      obtain ⟨hbl, G, _⟩ := below_two b1
      obtain ⟨d0, d1, d2, f0, f1, f2⟩ := three_cells G
      clear b1
      go_wp2
      refine bodyPost_ret (results_row_slot rfl _ _ (w.heap.size + 1) _ rfl (rdr_load (three_stored G _ _ _))) rfl ?_
      exact ⟨by rw [He.out.1, He.out.2]; rfl, three_below hbl (by omega) _ _ _⟩
  · have hd : (e != 0) = true := by rw [bne_iff_ne]; exact h
    have He : Hid (numR s.data.toList ⟨p, e⟩ x m = ⟨p, e⟩ ∧ numV s.data.toList ⟨p, e⟩ x m = 0) := Lib.hid (by unfold numR numV; rw [if_neg h, if_neg h]; exact ⟨rfl, rfl⟩)
    clear h
    unfold rdr
    go_enter Try.func54, Try.ntmps54
    go_wp2
    refine bodyPost_ret (results_row_slot rfl _ _ (w.heap.size + 1) _ rfl (rdr_load (heap_alloc2_new _ _ _))) rfl ?_
    exact ⟨by rw [He.out.1, He.out.2]; rfl, ((Below.refl _ _).alloc (Nat.le_refl _) _).alloc (by simp) _⟩
theorem rtext6 (s : ByteArray) (hs : s.size ≤ 4611686018427387904) (r : Rs) (hr : Fit r) (m : Int) (w : World) :
    Calls Try.prog 55 #[rdr s r, .int .i64 m] w fun e w' => e = .returned (.tuple #[rdr s (textR s.data.toList r m), .string (bt (textL s.data.toList r m))]) ∧ Below w.heap.size w w' := by
  obtain ⟨p, e⟩ := r
  by_cases h : e = 0
  · subst h
    unfold rdr
    obtain ⟨V, hV⟩ : ∃ V, V = takeL s.data.toList p m := ⟨_, rfl⟩
    obtain ⟨T, hT⟩ : ∃ T, T = takeT s.data.toList p m := ⟨_, rfl⟩
    obtain ⟨E, hE⟩ : ∃ E, E = takeE s.data.toList p m := ⟨_, rfl⟩
    have HG : Hid (∀ v, Calls Try.prog 80 #[.string s, .int .i64 p, .int .i64 m] v fun e w' => e = .returned (.tuple #[.string (bt V), .int .i64 T, .int .i64 E]) ∧ v = w') := Lib.hid fun v => by rw [hV, hT, hE]; exact rtake_bt s hs p m hr.1 hr.2 v
    have He : Hid (textR s.data.toList ⟨p, 0⟩ m = stp ⟨p, 0⟩ T E ∧ textL s.data.toList ⟨p, 0⟩ m = V) := Lib.hid (by simp [textR, textL, ← hV, ← hT, ← hE])
    clear hr hV hT hE
    go_enter Try.func55, Try.ntmps55
    go_wp2_with (go_at_call 80; refine (HG.out _).mono ?_; rintro e w' ⟨rfl, rfl⟩)
    refine (rmoved_any _ _ _ _ _ _).mono ?_
    rintro x1 w1 ⟨rfl, b1⟩
    obtain ⟨hbl, G, _⟩ := below_two b1
    obtain ⟨d0, d1, d2, f0, f1, f2⟩ := three_cells G
    clear b1
    go_wp2
    refine bodyPost_ret (results_row_slot rfl _ _ (w.heap.size + 1) _ rfl (rdr_load (three_stored G _ _ _))) rfl ?_
    exact ⟨by rw [He.out.1, He.out.2]; rfl, three_below hbl (by omega) _ _ _⟩
  · have hd : (e != 0) = true := by rw [bne_iff_ne]; exact h
    have He : Hid (textR s.data.toList ⟨p, e⟩ m = ⟨p, e⟩ ∧ textL s.data.toList ⟨p, e⟩ m = []) := Lib.hid (by unfold textR textL; rw [if_neg h, if_neg h]; exact ⟨rfl, rfl⟩)
    clear h
    unfold rdr
    go_enter Try.func55, Try.ntmps55
    go_wp2
    refine bodyPost_ret (results_row_slot rfl _ _ (w.heap.size + 1) _ rfl (rdr_load (heap_alloc2_new _ _ _))) rfl ?_
    exact ⟨by rw [He.out.1, He.out.2]; rfl, ((Below.refl _ _).alloc (Nat.le_refl _) _).alloc (by simp) _⟩
theorem rend6 (s : ByteArray) (r : Rs) (w : World) :
    Calls Try.prog 56 #[rdr s r] w fun e w' => e = .returned (rdr s (endR s.data.toList r)) ∧ Below w.heap.size w w' := by
  obtain ⟨p, e⟩ := r
  have hz : (s.data.toList.length : Int) = s.size := by rw [Array.length_toList]; rfl
  by_cases h : e = 0
  · by_cases h2 : p < s.size
    · have He : Hid (endR s.data.toList ⟨p, e⟩ = ⟨p, 6⟩) := Lib.hid (by unfold endR; rw [hz, if_pos ⟨h, h2⟩])
      have hd : (e == 0) = true := by simpa using h
      have hd2 : decide (p < (s.size : Int)) = true := decide_eq_true h2
      clear h h2 hz
      unfold rdr
      go_enter Try.func56, Try.ntmps56
      go_wp2
      refine bodyPost_ret (results_cell_row rfl _ _ (w.heap.size + 1) 109 _ _ _ rfl (heap_alloc2_new _ _ _) Try.underlying109 rfl (by kernel_rfl)) rfl ?_
      exact ⟨by rw [He.out], ((Below.refl _ _).alloc (Nat.le_refl _) _).alloc (by simp) _⟩
    · have He : Hid (endR s.data.toList ⟨p, e⟩ = ⟨p, e⟩) := Lib.hid (by unfold endR; rw [hz, if_neg (fun h3 => h2 h3.2)])
      have hd : (e == 0) = true := by simpa using h
      have hd2 : decide (p < (s.size : Int)) = false := decide_eq_false h2
      clear h h2 hz
      unfold rdr
      go_enter Try.func56, Try.ntmps56
      go_wp2
      refine bodyPost_ret (results_cell_row rfl _ _ (w.heap.size + 1) 109 _ _ _ rfl (heap_alloc2_new _ _ _) Try.underlying109 rfl (by kernel_rfl)) rfl ?_
      exact ⟨by rw [He.out], ((Below.refl _ _).alloc (Nat.le_refl _) _).alloc (by simp) _⟩
  · have He : Hid (endR s.data.toList ⟨p, e⟩ = ⟨p, e⟩) := Lib.hid (by unfold endR; rw [if_neg (fun h3 => h h3.1)])
    have hd : (e == 0) = false := by simpa using h
    clear h hz
    unfold rdr
    go_enter Try.func56, Try.ntmps56
    go_wp2
    refine bodyPost_ret (results_cell_row rfl _ _ (w.heap.size + 1) 109 _ _ _ rfl (heap_alloc2_new _ _ _) Try.underlying109 rfl (by kernel_rfl)) rfl ?_
    exact ⟨by rw [He.out], ((Below.refl _ _).alloc (Nat.le_refl _) _).alloc (by simp) _⟩
theorem own_step {w w' : World} {base : Nat} {e : TypeId} {size : Nat} {v : Value} {n : Nat} {xs : List Value} (h : w.ownsRow base e size v n xs) (b : Below w.heap.size w w') : w'.ownsRow base e size v n xs :=
  h.kept (row := none) ⟨b.os, b.tape, b.output, b.size, fun k hk _ => b.block k hk⟩ (by cases hv : v.ownBlock with | none => exact Or.inl rfl | some g => exact Or.inr (by simp))
theorem within_fit {S : List UInt8} {r : Rs} (h : Within S r) (hs : S.length ≤ 4611686018427387904) : Fit r := by
  obtain ⟨h0, h1⟩ := h
  exact ⟨by omega, by omega⟩
theorem sers_round {w w2 w3 : World} {B : Nat} {v x y z x' y' z' : Value} {T : TypeId} {A Z lit : Obj} {k : Nat} {e : TypeId} {xs : List Value} (G0 : w2.heap[B]? = some (.cells #[x', y', z'] T (0, 0))) (G1 : w2.heap[B + 1]? = some Z) (hb : Below B w w2) (hB : B + 2 ≤ w2.heap.size) (ho : w2.ownsRow (B + 2) e 1 v k xs)
    (hg : (((((w2.setCell ⟨B, 0, none⟩ x).setCell ⟨B, 1, none⟩ y).setCell ⟨B, 2, none⟩ z).alloc A).alloc lit).grownBy w3 v.ownBlock) :
    w3.heap[B]? = some (.cells #[x, y, z] T (0, 0)) ∧ w3.heap[B + 1]? = some Z ∧ Below B w w3 ∧ B + 2 ≤ w3.heap.size := by
  have h3 := three_stored G0 x y z
  have h4 : (((w2.setCell ⟨B, 0, none⟩ x).setCell ⟨B, 1, none⟩ y).setCell ⟨B, 2, none⟩ z).heap[B + 1]? = some Z := by
    rw [heap_setCell_other _ ⟨B, 2, none⟩ (B + 1) _ (by simp), heap_setCell_other _ ⟨B, 1, none⟩ (B + 1) _ (by simp), heap_setCell_other _ ⟨B, 0, none⟩ (B + 1) _ (by simp)]; exact G1
  have hbB := three_below hb (Nat.le_refl _) x y z
  have hsz : B + 2 ≤ (((w2.setCell ⟨B, 0, none⟩ x).setCell ⟨B, 1, none⟩ y).setCell ⟨B, 2, none⟩ z).heap.size := by simp; omega
  generalize ((w2.setCell ⟨B, 0, none⟩ x).setCell ⟨B, 1, none⟩ y).setCell ⟨B, 2, none⟩ z = V at *
  have hne : ∀ j, j < B + 2 → some j ≠ v.ownBlock := fun j hj e => by have := ho.lt j e.symm; omega
  refine ⟨?_, ?_, ((hbB.alloc (by omega) A).alloc (by simp; omega) lit).grown hg (by simp; omega) (fun j hj => by have := ho.lt j hj; omega), by have := hg.size; simp at this; omega⟩
  · rw [hg.block B (by simp; omega) (hne B (by omega)), Below.heap_alloc (V.alloc A) lit B (by simp; omega), Below.heap_alloc V A B (by omega)]; exact h3
  · rw [hg.block (B + 1) (by simp; omega) (hne (B + 1) (by omega)), Below.heap_alloc (V.alloc A) lit (B + 1) (by simp; omega), Below.heap_alloc V A (B + 1) (by omega)]; exact h4
end Go.Proofs.Yteccahggahpeeaa
