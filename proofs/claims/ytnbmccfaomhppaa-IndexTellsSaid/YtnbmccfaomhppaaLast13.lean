/- The program's last ones, for every list of texts and in every world. -/
import Derived.Test.YtnbmccfaomhppaaRcallB13
namespace Go.Proofs.Ytnbmccfaomhppaa
open Go.RowKit

theorem pclone_any (a : Option Addr) (c A B : Nat) (ys : List (List UInt8)) (w : World) (hx : Txs A B w a ys) (hn : ys.length ≤ 100000) :
    Calls Try.prog 60 #[.slice a ys.length c] w fun e w' => Tells13 w e w' ys := by
  have fin : ∀ {v : Value} {w' : World}, w'.ownsRow w.heap.size 9 1 v ys.length (txCells ys) → Below w.heap.size w w' → Tells13 w (.returned v) w' ys := by
    intro v w' ho hb
    obtain ⟨a', c', rfl, hc, ht⟩ := txs_own ho
    exact ⟨a', c', rfl, hc, ht, hb⟩
  rcases hx with rfl | ⟨b, off, rfl, _, _, hc⟩
  · cases a with
    | none =>
      refine (Try.slices_Clone_string_nil 0 c w).mono ?_
      rintro e w' ⟨rfl, rfl⟩
      exact ⟨none, 0, rfl, Nat.le_refl _, Or.inl rfl, Below.refl _ _⟩
    | some b =>
      refine (Try.slices_Clone_string_zero b c w).mono ?_
      rintro e w' ⟨v, rfl, ho, _, hb⟩
      exact fin ho hb
  · refine (Try.slices_Clone_string b off ys.length c (ys.map tx) w (by simp) (by omega) (fun j hj => ?_)).mono ?_
    · have hj' : j < ys.length := by simpa using hj
      rw [hc j hj']
      unfold rowAt
      rw [List.getD_eq_getElem?_getD, List.getD_eq_getElem?_getD, List.getElem?_map, List.getElem?_eq_getElem hj']
      rfl
    · rintro e w' ⟨v, rfl, ho, _, hb⟩
      rw [List.take_of_length_le (by simp), List.map_map] at ho
      exact fin ho hb
end Go.Proofs.Ytnbmccfaomhppaa
