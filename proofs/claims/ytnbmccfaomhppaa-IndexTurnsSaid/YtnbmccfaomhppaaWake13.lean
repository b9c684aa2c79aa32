/- The law's probes of rows come out true; and its bound on texts. -/
import Derived.Test.YtnbmccfaomhppaaIds13
import Derived.Test.YtnbmccfaomhppaaLast13
import Derived.Test.YtnbmccfaomhppaaLess13
namespace Go.Proofs.Ytnbmccfaomhppaa
open Go.RowKit

theorem Txs.open {A B : Nat} {w : World} {a : Option Addr} {xs : List (List UInt8)} (h : Txs A B w a xs) : Txs 0 B w a xs := h.wide (Nat.zero_le _) (Nat.le_refl _)
/-- A literal of texts. -/
theorem lit_txs (w : World) (xs : List (List UInt8)) : Txs 0 (w.alloc (.cells (txCells xs).toArray 9)).heap.size (w.alloc (.cells (txCells xs).toArray 9)) (some ⟨w.heap.size, 0, none⟩) xs := by
  refine Or.inr ⟨w.heap.size, 0, rfl, Nat.zero_le _, by simp, fun j hj => ?_⟩
  exact lit_cell w _ _ j _ (by rw [List.getElem?_toArray]; exact txCells_at xs j hj)
theorem GivesC.txs {w w' : World} {e : Ending} {ys : List (List UInt8)} {E : Int} (h : GivesC w e w' (txCells ys) E) : Gives13 w e w' ys E := by
  obtain ⟨a, c, rfl, hc, hr, hb⟩ := h
  rw [txCells_len] at hc
  exact ⟨a, c, by rw [txCells_len], hc, txs_rw.2 hr, hb⟩
theorem txCells_with (xs : List (List UInt8)) (p : Int) (v : List UInt8) : withL (txCells xs) p (.string (tx v)) = txCells (withL xs p v) := by
  unfold withL with13
  rw [txCells_len]
  split
  · unfold txCells
    simp [List.map_take, List.map_drop]
  · rfl
theorem txCells_setL (xs : List (List UInt8)) (p : Int) (v : List UInt8) : setL (txCells xs) p (.string (tx v)) = txCells (setL xs p v) := by
  unfold setL
  rw [txCells_len]
  split
  · exact txCells_set _ _ _
  · rfl
theorem txCells_less (xs : List (List UInt8)) (p : Int) : lessL (txCells xs) p = txCells (lessL xs p) := by
  unfold lessL less13
  rw [txCells_len]
  split
  · unfold txCells
    simp [List.map_take, List.map_drop]
  · rfl
/-- The program's four, of texts. -/
theorem qwith_any (a : Option Addr) (cap : Nat) (xs : List (List UInt8)) (p : Int) (v : List UInt8) (A : Nat) (w : World) (hc : xs.length ≤ cap) (hx : Txs A w.heap.size w a xs) (hn : xs.length ≤ 100000) :
    Calls Try.prog 49 #[.slice a xs.length cap, .int .i64 p, .string (tx v)] w fun e w' => Gives13 w e w' (withL xs p v) (withE xs.length p) := by
  refine (pwith_tx a xs.length cap p (tx v) (txCells xs) A w (txCells_len xs) hc hn (txs_rw.1 hx) (txCells_one xs)).mono ?_
  intro e w' h
  rw [txCells_with] at h
  exact h.txs
theorem qless_any (a : Option Addr) (cap : Nat) (xs : List (List UInt8)) (p : Int) (A : Nat) (w : World) (hc : xs.length ≤ cap) (hx : Txs A w.heap.size w a xs) (hn : xs.length ≤ 100000) :
    Calls Try.prog 47 #[.slice a xs.length cap, .int .i64 p] w fun e w' => Gives13 w e w' (lessL xs p) (hasE xs.length p) := by
  refine (pless_any a xs.length cap p (txCells xs) A w (txCells_len xs) hc hn (txs_rw.1 hx) (txCells_one xs)).mono ?_
  intro e w' h
  rw [txCells_less] at h
  exact h.txs
theorem intCells_one (xs : List Int) : ∀ u ∈ intCells xs, u.oneCell' = true := by
  unfold intCells
  intro u hu
  obtain ⟨x, _, rfl⟩ := List.mem_map.1 hu
  rfl
/-- With one more, of numbers. -/
theorem iwith_any (a : Option Addr) (cap : Nat) (xs : List Int) (p : Nat) (v : Int) (w : World) (hc : xs.length ≤ cap) (hx : Ints w.heap.size w a xs) (hn : xs.length ≤ 100000) (hp : p ≤ xs.length) :
    Calls Try.prog 30 #[.slice a xs.length cap, .int .i64 (p : Int), .int .i64 v] w fun e w' => ∃ a' c', e = .returned (.tuple #[.slice a' (with13 xs p v).length c', .int .i64 0]) ∧ Ints w'.heap.size w' a' (with13 xs p v) ∧ Below w.heap.size w w' := by
  refine (pwith_in a xs.length cap p v (intCells xs) 0 w (intCells_len xs) hc hn (ints_rw.1 hx) (intCells_one xs)).mono ?_
  rintro e w' ⟨a', c', rfl, _, hr, hb⟩
  have h1 := with_ok (l := intCells xs) (p := p) (by rw [intCells_len]; exact hp) (.int .i64 v)
  rw [intCells_len] at h1
  have h2 : with13 (intCells xs) p (.int .i64 v) = intCells (with13 xs p v) := by
    unfold with13 intCells
    simp [List.map_take, List.map_drop]
  rw [h1.1, h2] at hr ⊢
  rw [h1.2, intCells_len]
  exact ⟨a', c', rfl, ints_rw.2 (hr.wide (Nat.zero_le _) (Nat.le_refl _)), hb⟩

end Go.Proofs.Ytnbmccfaomhppaa
