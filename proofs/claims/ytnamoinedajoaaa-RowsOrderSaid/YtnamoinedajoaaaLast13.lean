/- The program's last ones, for every list of texts and in every world. -/
import Derived.Test.YtnamoinedajoaaaRcallB13
namespace Go.Proofs.Ytnamoinedajoaaa
open Go.RowKit

theorem pclone_any (a : Option Addr) (c A B : Nat) (ys : List (List UInt8)) (w : World) (hx : Txs A B w a ys) (hn : ys.length ≤ 100000) :
    Calls Try.prog 30 #[.slice a ys.length c] w fun e w' => Tells13 w e w' ys := by
  have fin : ∀ {v : Value} {w' : World}, w'.ownsRow w.heap.size 9 1 v ys.length (txCells ys) → Below w.heap.size w w' → Tells13 w (.returned v) w' ys := by
    intro v w' ho hb
    obtain ⟨a', c', rfl, hc, ht⟩ := txs_own ho
    exact ⟨a', c', rfl, hc, ht, hb⟩
  rcases hx with rfl | ⟨b, off, rfl, _, _, hc⟩
  · cases a with
    | none =>
      refine (Try.slices_Clone_string_nil 0 c w).mono ?_
      rintro e w' ⟨rfl, rfl⟩
      exact ⟨none, 0, rfl, Nat.le_refl _, Or.inl rfl, Below.refl _ _⟩
    | some b =>
      refine (Try.slices_Clone_string_zero b c w).mono ?_
      rintro e w' ⟨v, rfl, ho, _, hb⟩
      exact fin ho hb
  · refine (Try.slices_Clone_string b off ys.length c (ys.map tx) w (by simp) (by omega) (fun j hj => ?_)).mono ?_
    · have hj' : j < ys.length := by simpa using hj
      rw [hc j hj']
      unfold rowAt
      rw [List.getD_eq_getElem?_getD, List.getD_eq_getElem?_getD, List.getElem?_map, List.getElem?_eq_getElem hj']
      rfl
    · rintro e w' ⟨v, rfl, ho, _, hb⟩
      rw [List.take_of_length_le (by simp), List.map_map] at ho
      exact fin ho hb
set_option maxHeartbeats 4000000 in
theorem plast_any (a : Option Addr) (cap : Nat) (xs : List (List UInt8)) (p : Int) (A : Nat) (w : World) (hc : xs.length ≤ cap) (hx : Txs A w.heap.size w a xs) (hn : xs.length ≤ 100000) :
    Calls Try.prog 20 #[.slice a xs.length cap, .int .i64 p] w fun e w' => Tells13 w e w' (last13 xs p) := by
  obtain ⟨q, hq⟩ : ∃ q, xs.length - p.toNat = q := ⟨_, rfl⟩
  have hqn : q ≤ xs.length := by omega
  obtain ⟨a', hs, ha⟩ := row_from sl_tx sz_tx a xs.length cap q hqn hc
  have HD : Hid (Txs A w.heap.size w a' (xs.drop q)) := Lib.hid (txs_rw.2 (by
    have := ha A w.heap.size w (txCells xs) (txCells_len xs) (txs_rw.1 hx)
    unfold txCells at this ⊢
    rw [List.map_drop]
    exact this))
  have HC : Hid (∀ c, Calls Try.prog 30 #[.slice a' (xs.length - q) c] w fun e w' => Tells13 w e w' (last13 xs p)) := Lib.hid fun c => by
    have := pclone_any a' c A w.heap.size (xs.drop q) w HD.out (by rw [List.length_drop]; omega)
    rw [List.length_drop] at this
    unfold last13
    rw [hq]
    exact this
  clear hx ha
  obtain ⟨m0, hm0⟩ : ∃ m0, min p (xs.length : Int) = m0 := ⟨_, rfl⟩
  obtain ⟨M, hM⟩ : ∃ M : Nat, max 0 m0 = (M : Int) := ⟨(max 0 m0).toNat, by omega⟩
  have i1 : IntKind.i64.wrap ((xs.length : Int) - (M : Int)) = (q : Int) := by rw [IntWalk.i64_in _ (by omega)]; omega
  clear hq
  go_enter Try.func20, Try.ntmps20
  go_wp2_with (go_at_call 30; refine (HC.out _).mono ?_; rintro e w2 ⟨a2, c2, rfl, hh⟩; have HH := Lib.hid hh; clear hh)
  go_ret
  exact ⟨a2, c2, rfl, HH.out⟩
end Go.Proofs.Ytnamoinedajoaaa
