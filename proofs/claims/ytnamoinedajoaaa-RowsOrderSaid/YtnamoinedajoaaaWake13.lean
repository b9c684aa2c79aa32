/- The law's probes of rows come out true; and its bound on texts. -/
import Derived.Test.YtnamoinedajoaaaIds13
import Derived.Test.YtnamoinedajoaaaLess13
import Derived.Test.YtnamoinedajoaaaLast13
namespace Go.Proofs.Ytnamoinedajoaaa
open Go.RowKit

theorem Txs.open {A B : Nat} {w : World} {a : Option Addr} {xs : List (List UInt8)} (h : Txs A B w a xs) : Txs 0 B w a xs := h.wide (Nat.zero_le _) (Nat.le_refl _)
/-- A literal of texts. -/
theorem lit_txs (w : World) (xs : List (List UInt8)) : Txs 0 (w.alloc (.cells (txCells xs).toArray 9)).heap.size (w.alloc (.cells (txCells xs).toArray 9)) (some ⟨w.heap.size, 0, none⟩) xs := by
  refine Or.inr ⟨w.heap.size, 0, rfl, Nat.zero_le _, by simp, fun j hj => ?_⟩
  exact lit_cell w _ _ j _ (by rw [List.getElem?_toArray]; exact txCells_at xs j hj)
theorem GivesC.txs {w w' : World} {e : Ending} {ys : List (List UInt8)} {E : Int} (h : GivesC w e w' (txCells ys) E) : Gives13 w e w' ys E := by
  obtain ⟨a, c, rfl, hc, hr, hb⟩ := h
  rw [txCells_len] at hc
  exact ⟨a, c, by rw [txCells_len], hc, txs_rw.2 hr, hb⟩
theorem txCells_with (xs : List (List UInt8)) (p : Int) (v : List UInt8) : withL (txCells xs) p (.string (tx v)) = txCells (withL xs p v) := by
  unfold withL with13
  rw [txCells_len]
  split
  · unfold txCells
    simp [List.map_take, List.map_drop]
  · rfl
theorem txCells_setL (xs : List (List UInt8)) (p : Int) (v : List UInt8) : setL (txCells xs) p (.string (tx v)) = txCells (setL xs p v) := by
  unfold setL
  rw [txCells_len]
  split
  · exact txCells_set _ _ _
  · rfl
theorem txCells_less (xs : List (List UInt8)) (p : Int) : lessL (txCells xs) p = txCells (lessL xs p) := by
  unfold lessL less13
  rw [txCells_len]
  split
  · unfold txCells
    simp [List.map_take, List.map_drop]
  · rfl
/-- The program's four, of texts. -/
theorem qwith_any (a : Option Addr) (cap : Nat) (xs : List (List UInt8)) (p : Int) (v : List UInt8) (A : Nat) (w : World) (hc : xs.length ≤ cap) (hx : Txs A w.heap.size w a xs) (hn : xs.length ≤ 100000) :
    Calls Try.prog 13 #[.slice a xs.length cap, .int .i64 p, .string (tx v)] w fun e w' => Gives13 w e w' (withL xs p v) (withE xs.length p) := by
  refine (pwith_tx a xs.length cap p (tx v) (txCells xs) A w (txCells_len xs) hc hn (txs_rw.1 hx) (txCells_one xs)).mono ?_
  intro e w' h
  rw [txCells_with] at h
  exact h.txs
theorem qset_any (a : Option Addr) (cap : Nat) (xs : List (List UInt8)) (p : Int) (v : List UInt8) (A : Nat) (w : World) (hc : xs.length ≤ cap) (hx : Txs A w.heap.size w a xs) (hn : xs.length ≤ 100000) :
    Calls Try.prog 15 #[.slice a xs.length cap, .int .i64 p, .string (tx v)] w fun e w' => Gives13 w e w' (setL xs p v) (hasE xs.length p) := by
  refine (pset_tx a xs.length cap p (tx v) (txCells xs) A w (txCells_len xs) hc hn (txs_rw.1 hx) (txCells_one xs)).mono ?_
  intro e w' h
  rw [txCells_setL] at h
  exact h.txs
theorem qless_any (a : Option Addr) (cap : Nat) (xs : List (List UInt8)) (p : Int) (A : Nat) (w : World) (hc : xs.length ≤ cap) (hx : Txs A w.heap.size w a xs) (hn : xs.length ≤ 100000) :
    Calls Try.prog 17 #[.slice a xs.length cap, .int .i64 p] w fun e w' => Gives13 w e w' (lessL xs p) (hasE xs.length p) := by
  refine (pless_any a xs.length cap p (txCells xs) A w (txCells_len xs) hc hn (txs_rw.1 hx) (txCells_one xs)).mono ?_
  intro e w' h
  rw [txCells_less] at h
  exact h.txs
theorem intCells_one (xs : List Int) : ∀ u ∈ intCells xs, u.oneCell' = true := by
  unfold intCells
  intro u hu
  obtain ⟨x, _, rfl⟩ := List.mem_map.1 hu
  rfl
/-- With one more, of numbers. -/
theorem iwith_any (a : Option Addr) (cap : Nat) (xs : List Int) (p : Nat) (v : Int) (w : World) (hc : xs.length ≤ cap) (hx : Ints w.heap.size w a xs) (hn : xs.length ≤ 100000) (hp : p ≤ xs.length) :
    Calls Try.prog 22 #[.slice a xs.length cap, .int .i64 (p : Int), .int .i64 v] w fun e w' => ∃ a' c', e = .returned (.tuple #[.slice a' (with13 xs p v).length c', .int .i64 0]) ∧ Ints w'.heap.size w' a' (with13 xs p v) ∧ Below w.heap.size w w' := by
  refine (pwith_in a xs.length cap p v (intCells xs) 0 w (intCells_len xs) hc hn (ints_rw.1 hx) (intCells_one xs)).mono ?_
  rintro e w' ⟨a', c', rfl, _, hr, hb⟩
  have h1 := with_ok (l := intCells xs) (p := p) (by rw [intCells_len]; exact hp) (.int .i64 v)
  rw [intCells_len] at h1
  have h2 : with13 (intCells xs) p (.int .i64 v) = intCells (with13 xs p v) := by
    unfold with13 intCells
    simp [List.map_take, List.map_drop]
  rw [h1.1, h2] at hr ⊢
  rw [h1.2, intCells_len]
  exact ⟨a', c', rfl, ints_rw.2 (hr.wide (Nat.zero_le _) (Nat.le_refl _)), hb⟩

set_option maxRecDepth 100000 in
set_option maxHeartbeats 4000000 in
theorem awake13 (w : World) : Calls Try.prog 7 #[] w fun e w' => e = .returned (.bool true) ∧ Below w.heap.size w w' := by
  have lit : ∀ (W : World) (cs : Array Value) (t : TypeId), Below W.heap.size W (W.alloc (.cells cs t)) := fun W cs t => (Below.refl _ W).alloc (Nat.le_refl _) _
  have H1 : Hid (∀ W : World, Calls Try.prog 8 #[.slice (some ⟨W.heap.size, 0, none⟩) 3 3, .int .i64 5] (W.alloc (.cells #[.int .i64 2, .int .i64 5, .int .i64 9] 3)) fun e w' => e = .returned (.tuple #[.int .i64 1, .bool true]) ∧ Below W.heap.size W w') := Lib.hid fun W => by
    refine (pfind_any (some ⟨W.heap.size, 0, none⟩) 3 [2, 5, 9] 5 _ _ (lit_three W 2 5 9 _) (by decide)).mono ?_
    rintro e w' ⟨rfl, m, rfl⟩
    exact ⟨by rw [show findN [2, 5, 9] 5 = 1 from by decide, show findB13 [2, 5, 9] 5 = true from by decide]; rfl, drawn_below (lit W _ _) _⟩
  have H2 : Hid (∀ W : World, Calls Try.prog 8 #[.slice (some ⟨W.heap.size, 0, none⟩) 3 3, .int .i64 6] (W.alloc (.cells #[.int .i64 2, .int .i64 5, .int .i64 9] 3)) fun e w' => e = .returned (.tuple #[.int .i64 2, .bool false]) ∧ Below W.heap.size W w') := Lib.hid fun W => by
    refine (pfind_any (some ⟨W.heap.size, 0, none⟩) 3 [2, 5, 9] 6 _ _ (lit_three W 2 5 9 _) (by decide)).mono ?_
    rintro e w' ⟨rfl, m, rfl⟩
    exact ⟨by rw [show findN [2, 5, 9] 6 = 2 from by decide, show findB13 [2, 5, 9] 6 = false from by decide]; rfl, drawn_below (lit W _ _) _⟩
  have H3 : Hid (∀ W : World, Calls Try.prog 13 #[.slice (some ⟨W.heap.size, 0, none⟩) 2 2, .int .i64 1, .string ⟨#[120]⟩] (W.alloc (.cells #[.string ⟨#[97]⟩, .string ⟨#[98]⟩] 9)) fun e w' => ∃ a c, e = .returned (.tuple #[.slice a 3 c, .int .i64 0]) ∧ Txs 0 w'.heap.size w' a [[97], [120], [98]] ∧ Below W.heap.size W w') := Lib.hid fun W => by
    refine (qwith_any (some ⟨W.heap.size, 0, none⟩) 2 [[97], [98]] 1 [120] 0 _ (Nat.le_refl _) (lit_txs W [[97], [98]]) (by decide)).mono ?_
    rintro e w' ⟨a, c, rfl, _, hT, hb⟩
    exact ⟨a, c, rfl, hT.open, (lit W _ _).trans (hb.mono (lit W _ _).size)⟩
  have H4 : Hid (∀ W : World, Calls Try.prog 23 #[.slice (some ⟨W.heap.size, 0, none⟩) 2 2, .int .i64 1, .int .i64 7] (W.alloc (.cells #[.int .i64 1, .int .i64 2] 3)) fun e w' => ∃ a c, e = .returned (.tuple #[.slice a 2 c, .int .i64 0]) ∧ Ints w'.heap.size w' a [1, 7] ∧ Below W.heap.size W w') := Lib.hid fun W => by
    refine (pset_in (some ⟨W.heap.size, 0, none⟩) 2 2 1 7 (intCells [1, 2]) 0 _ rfl (Nat.le_refl _) (by decide) (ints_rw.1 (lit_two W 1 2 _)) (intCells_one _)).mono ?_
    rintro e w' ⟨a, c, rfl, _, hT, hb⟩
    exact ⟨a, c, rfl, ints_rw.2 (hT.wide (Nat.zero_le _) (Nat.le_refl _)), (lit W _ _).trans (hb.mono (lit W _ _).size)⟩
  have H5 : Hid (∀ W : World, Calls Try.prog 17 #[.slice (some ⟨W.heap.size, 0, none⟩) 2 2, .int .i64 0] (W.alloc (.cells #[.string ⟨#[97]⟩, .string ⟨#[98]⟩] 9)) fun e w' => ∃ a c, e = .returned (.tuple #[.slice a 1 c, .int .i64 0]) ∧ Txs 0 w'.heap.size w' a [[98]] ∧ Below W.heap.size W w') := Lib.hid fun W => by
    refine (qless_any (some ⟨W.heap.size, 0, none⟩) 2 [[97], [98]] 0 0 _ (Nat.le_refl _) (lit_txs W [[97], [98]]) (by decide)).mono ?_
    rintro e w' ⟨a, c, rfl, _, hT, hb⟩
    exact ⟨a, c, rfl, hT.open, (lit W _ _).trans (hb.mono (lit W _ _).size)⟩
  have H6 : Hid (∀ W : World, Calls Try.prog 17 #[.slice (some ⟨W.heap.size, 0, none⟩) 0 0, .int .i64 0] (W.alloc (.cells #[] 9)) fun e w' => ∃ a c, e = .returned (.tuple #[.slice a 0 c, .int .i64 2]) ∧ Below W.heap.size W w') := Lib.hid fun W => by
    refine (qless_any (some ⟨W.heap.size, 0, none⟩) 0 [] 0 0 _ (Nat.le_refl _) (Or.inl rfl) (by decide)).mono ?_
    rintro e w' ⟨a, c, rfl, _, hT, hb⟩
    exact ⟨a, c, rfl, (lit W _ _).trans (hb.mono (lit W _ _).size)⟩
  have H7 : Hid (∀ (W : World) (a : Option Addr) (c : Nat), Txs 0 W.heap.size W a [[97], [120], [98]] → Calls Try.prog 19 #[.slice a 3 c, .slice (some ⟨W.heap.size, 0, none⟩) 3 3] (W.alloc (.cells #[.string ⟨#[97]⟩, .string ⟨#[120]⟩, .string ⟨#[98]⟩] 9)) fun e w' => e = .returned (.bool true) ∧ Below W.heap.size W w') := Lib.hid fun W a c hT => by
    refine (same_txs a (some ⟨W.heap.size, 0, none⟩) 0 0 _ _ c 3 [[97], [120], [98]] (by decide) _ (hT.step (lit W (txCells [[97], [120], [98]]).toArray _)) (lit_txs W [[97], [120], [98]])).mono ?_
    rintro e w' ⟨rfl, hb⟩
    exact ⟨rfl, (lit W _ _).trans (hb.mono (lit W _ _).size)⟩
  have H8 : Hid (∀ (W : World) (a : Option Addr) (c : Nat), Ints W.heap.size W a [1, 7] → Calls Try.prog 24 #[.slice a 2 c, .slice (some ⟨W.heap.size, 0, none⟩) 2 2] (W.alloc (.cells #[.int .i64 1, .int .i64 7] 3)) fun e w' => e = .returned (.bool true) ∧ Below W.heap.size W w') := Lib.hid fun W a c hT => by
    refine (same_any a (some ⟨W.heap.size, 0, none⟩) c 2 [1, 7] [1, 7] _ (by decide) (hT.lit _) (lit_two W 1 7 _)).mono ?_
    rintro e w' ⟨rfl, hb⟩
    exact ⟨rfl, (lit W _ _).trans (hb.mono (lit W _ _).size)⟩
  have H9 : Hid (∀ (W : World) (a : Option Addr) (c : Nat), Txs 0 W.heap.size W a [[98]] → Calls Try.prog 19 #[.slice a 1 c, .slice (some ⟨W.heap.size, 0, none⟩) 1 1] (W.alloc (.cells #[.string ⟨#[98]⟩] 9)) fun e w' => e = .returned (.bool true) ∧ Below W.heap.size W w') := Lib.hid fun W a c hT => by
    refine (same_txs a (some ⟨W.heap.size, 0, none⟩) 0 0 _ _ c 1 [[98]] (by decide) _ (hT.step (lit W (txCells [[98]]).toArray _)) (lit_txs W [[98]])).mono ?_
    rintro e w' ⟨rfl, hb⟩
    exact ⟨rfl, (lit W _ _).trans (hb.mono (lit W _ _).size)⟩
  have H10 : Hid (∀ W : World, Calls Try.prog 10 #[.slice (some ⟨W.heap.size, 0, none⟩) 2 2] (W.alloc (.cells #[.int .i64 1, .int .i64 1] 3)) fun e w' => e = .returned (.int .i64 32) ∧ Below W.heap.size W w') := Lib.hid fun W => by
    refine (prising_any (some ⟨W.heap.size, 0, none⟩) 2 [1, 1] _ _ (lit_two W 1 1 _) (by decide)).mono ?_
    rintro e w' ⟨rfl, m, rfl⟩
    exact ⟨by rw [show risingE [1, 1] = 32 from by decide], drawn_below (lit W _ _) _⟩
  have H11 : Hid (∀ W : World, Calls Try.prog 10 #[.slice (some ⟨W.heap.size, 0, none⟩) 1 1] (W.alloc (.cells #[.int .i64 0] 3)) fun e w' => e = .returned (.int .i64 31) ∧ Below W.heap.size W w') := Lib.hid fun W => by
    refine (prising_any (some ⟨W.heap.size, 0, none⟩) 1 [0] _ _ (lit_one W 0 _) (by decide)).mono ?_
    rintro e w' ⟨rfl, m, rfl⟩
    exact ⟨by rw [show risingE [0] = 31 from by decide], drawn_below (lit W _ _) _⟩
  have H12 : Hid (∀ W : World, Calls Try.prog 20 #[.slice (some ⟨W.heap.size, 0, none⟩) 2 2, .int .i64 1] (W.alloc (.cells #[.string ⟨#[97]⟩, .string ⟨#[98]⟩] 9)) fun e w' => ∃ a c, e = .returned (.slice a 1 c) ∧ Below W.heap.size W w') := Lib.hid fun W => by
    refine (plast_any (some ⟨W.heap.size, 0, none⟩) 2 [[97], [98]] 1 0 _ (Nat.le_refl _) (lit_txs W [[97], [98]]) (by decide)).mono ?_
    rintro e w' ⟨a, c, rfl, _, hT, hb⟩
    exact ⟨a, c, rfl, (lit W _ _).trans (hb.mono (lit W _ _).size)⟩
  clear lit
  go_enter Try.func7, Try.ntmps7
  go_upto_region 2 with (go_at_call 8; refine (H1.out _).mono ?_; rintro e w1 ⟨rfl, hb1⟩; have B1 := Lib.hid hb1; clear hb1 H1)
  go_upto_region 3 with (go_at_call 8; refine (H2.out _).mono ?_; rintro e w2 ⟨rfl, hb⟩; have B2 := Lib.hid (B1.out.trans (hb.mono B1.out.size)); clear hb H2 B1)
  go_upto_region 4 with (go_at_call 13; refine (H3.out _).mono ?_; rintro e w3 ⟨a3, c3, rfl, hT, hb⟩; have T3 := Lib.hid hT; have B3 := Lib.hid (B2.out.trans (hb.mono B2.out.size)); clear hT hb H3 B2)
  go_upto_region 5 with (go_at_call 23; refine (H4.out _).mono ?_; rintro e w4 ⟨a4, c4, rfl, hT, hb⟩; have T4 := Lib.hid (T3.out.step hb); have I4 := Lib.hid hT; have B4 := Lib.hid (B3.out.trans (hb.mono B3.out.size)); clear hT hb H4 B3 T3)
  go_upto_region 6 with (go_at_call 17; refine (H5.out _).mono ?_; rintro e w5 ⟨a5, c5, rfl, hT, hb⟩; have T5 := Lib.hid (T4.out.step hb); have I5 := Lib.hid (I4.out.step hb); have N5 := Lib.hid hT; have B5 := Lib.hid (B4.out.trans (hb.mono B4.out.size)); clear hT hb H5 B4 T4 I4)
  go_upto_region 7 with (go_at_call 17; refine (H6.out _).mono ?_; rintro e w6 ⟨a6, c6, rfl, hb⟩; have T6 := Lib.hid (T5.out.step hb); have I6 := Lib.hid (I5.out.step hb); have N6 := Lib.hid (N5.out.step hb); have B6 := Lib.hid (B5.out.trans (hb.mono B5.out.size)); clear hb H6 B5 T5 I5 N5)
  go_wp2_with (first
    | (go_at_call 19; refine (H7.out _ _ _ T6.out).mono ?_; rintro e w7 ⟨rfl, hb⟩; have I7 := Lib.hid (I6.out.step hb); have N7 := Lib.hid (N6.out.step hb); have B7 := Lib.hid (B6.out.trans (hb.mono B6.out.size)); clear hb H7 B6 I6 N6 T6)
    | (go_at_call 24; refine (H8.out _ _ _ I7.out).mono ?_; rintro e w8 ⟨rfl, hb⟩; have N8 := Lib.hid (N7.out.step hb); have B8 := Lib.hid (B7.out.trans (hb.mono B7.out.size)); clear hb H8 B7 N7 I7)
    | (go_at_call 19; refine (H9.out _ _ _ N8.out).mono ?_; rintro e w9 ⟨rfl, hb⟩; have B9 := Lib.hid (B8.out.trans (hb.mono B8.out.size)); clear hb H9 B8 N8)
    | (go_at_call 10; refine (H10.out _).mono ?_; rintro e w10 ⟨rfl, hb⟩; have B10 := Lib.hid (B9.out.trans (hb.mono B9.out.size)); clear hb H10 B9)
    | (go_at_call 10; refine (H11.out _).mono ?_; rintro e w11 ⟨rfl, hb⟩; have B11 := Lib.hid (B10.out.trans (hb.mono B10.out.size)); clear hb H11 B10)
    | (go_at_call 20; refine (H12.out _).mono ?_; rintro e w12 ⟨a12, c12, rfl, hb⟩; have B12 := Lib.hid (B11.out.trans (hb.mono B11.out.size)); clear hb H12 B11))
  go_ret
  exact ⟨rfl, B12.out⟩
end Go.Proofs.Ytnamoinedajoaaa
