/- Ids that rise, and where one is found among them: the document's and the program's, for every slice of numbers and in every world. -/
import Derived.Test.YteccahggahpeeaaMInts
import Derived.Test.YteccahggahpeeaaMRows10
import Derived.Test.YteccahggahpeeaaShelf
import Derived.BigRegion
import Derived.Deep.RegionLaw
import Derived.Deep.RegionHeld3
import Derived.Deep.CutBlock
import Derived.Lib.AppendZeros
namespace Go.Proofs.Yteccahggahpeeaa
open Go.RowKit

theorem drew_more (w : World) (n m : Nat) : (w.drewN n).drewN m = w.drewN (n + m) := by
  first
  | rfl
  | (simp [World.drewN]; omega)
set_option maxHeartbeats 1000000 in
theorem prising_any (a : Option Addr) (cap : Nat) (xs : List Int) (B : Nat) (w : World) (hx : Ints B w a xs) (hn : xs.length ≤ 1000000) :
    Calls Try.prog 63 #[.slice a xs.length cap] w fun e w' => e = .returned (.int .i64 (risingE xs)) ∧ ∃ m, w' = w.drewN m := by
  have HX := Lib.hid hx
  clear hx
  go_enter Try.func63, Try.ntmps63
  go_wp2
  go_loopw [7] (fun i wr => ∃ k m : Nat, i = .int .i64 k ∧ wr = w.drewN m ∧ k ≤ xs.length ∧ Hid (riseTo xs k = 0)) (fun i _ => xs.length - (intOf i).toNat)
  case atStart => exact ⟨0, 0, rfl, rfl, by omega, Lib.hid rfl⟩
  case round =>
    obtain ⟨k, m, rfl, rfl, hk, hr⟩ := hrel
    by_cases hlt : k < xs.length
    · rcases HX.out with h0 | ⟨b, off, rfl, _, hc⟩
      · exfalso; rw [h0] at hlt; simp at hlt
      have hx := hc k hlt
      have HC := Lib.hid hc
      clear hc
      have i1 : (k : Int) < (xs.length : Int) := by omega
      have i3 : (0 : Int) ≤ (k : Int) := by omega
      have HA : Hid (riseAt xs k = if numAt xs k < 1 ∨ 999999 < numAt xs k then 31 else if 0 < k ∧ numAt xs k ≤ numAt xs (k - 1) then 32 else 0) := Lib.hid rfl
      by_cases q1 : numAt xs k < 1
      · have d1 : decide (numAt xs k < 1) = true := decide_eq_true q1
        have HR : Hid (risingE xs = 31) := Lib.hid (by
          have := HA.out
          rw [if_pos (Or.inl q1)] at this
          rw [rise_stop hlt hr.out (by rw [this]; decide), this])
        clear q1
        go_wp2
        go_ret
        refine ⟨by rw [HR.out]; rfl, ?_⟩; first | exact ⟨_, rfl⟩ | exact ⟨_, drew_more _ _ _⟩
      · have d1 : decide (numAt xs k < 1) = false := decide_eq_false q1
        by_cases q2 : 999999 < numAt xs k
        · have d2 : decide (999999 < numAt xs k) = true := decide_eq_true q2
          have HR : Hid (risingE xs = 31) := Lib.hid (by
            have := HA.out
            rw [if_pos (Or.inr q2)] at this
            rw [rise_stop hlt hr.out (by rw [this]; decide), this])
          clear q1 q2
          go_wp2
          go_ret
          refine ⟨by rw [HR.out]; rfl, ?_⟩; first | exact ⟨_, rfl⟩ | exact ⟨_, drew_more _ _ _⟩
        · have d2 : decide (999999 < numAt xs k) = false := decide_eq_false q2
          rcases Nat.eq_zero_or_pos k with hk0 | hk0
          · subst hk0
            have hx0 : w.cell? ⟨b, off, none⟩ = some (.int .i64 (numAt xs 0)) := by simpa using hx
            clear hx
            have HR : Hid (riseTo xs 1 = 0) := Lib.hid (by
              have := HA.out
              rw [if_neg (by omega), if_neg (by omega)] at this
              exact rise_step hr.out this)
            clear q1 q2
            go_wp2
            go_roundw
            case rel => exact ⟨1, _, rfl, rfl, by omega, HR⟩
            case measure => simp [intOf]; omega
          · obtain ⟨j, rfl⟩ : ∃ j, k = j + 1 := ⟨k - 1, by omega⟩
            have hy := HC.out j (by omega)
            have i4 : (j : Int) < (xs.length : Int) := by omega
            have i5 : (0 : Int) ≤ (j : Int) := by omega
            have i6 : decide ((0 : Int) < (j : Int) + 1) = true := decide_eq_true (by omega)
            have i7 : IntKind.i64.wrap ((j : Int) + 1 - 1) = (j : Int) := by rw [Int.add_sub_cancel]; exact IntWalk.i64_in _ (by omega)
            rw [show (j : Nat) + 1 - 1 = j from rfl] at HA
            by_cases q3 : numAt xs (j + 1) ≤ numAt xs j
            · have d3 : decide (numAt xs (j + 1) ≤ numAt xs j) = true := decide_eq_true q3
              have HR : Hid (risingE xs = 32) := Lib.hid (by
                have := HA.out
                rw [if_neg (by omega), if_pos ⟨by omega, q3⟩] at this
                rw [rise_stop hlt hr.out (by rw [this]; decide), this])
              clear q1 q2 q3
              go_wp2
              go_ret
              refine ⟨by rw [HR.out]; rfl, ?_⟩; first | exact ⟨_, rfl⟩ | exact ⟨_, drew_more _ _ _⟩
            · have d3 : decide (numAt xs (j + 1) ≤ numAt xs j) = false := decide_eq_false q3
              have HR : Hid (riseTo xs (j + 1 + 1) = 0) := Lib.hid (by
                have := HA.out
                rw [if_neg (by omega), if_neg (fun q => q3 q.2)] at this
                exact rise_step hr.out this)
              clear q1 q2 q3
              go_wp2
              go_roundw
              case rel => exact ⟨j + 1 + 1, _, by go_num, rfl, by omega, HR⟩
              case measure => simp [intOf]; omega
    · obtain rfl : k = xs.length := by omega
      have HR : Hid (risingE xs = 0) := Lib.hid hr.out
      go_wp2
      go_ret
      refine ⟨by rw [HR.out]; rfl, ?_⟩; first | exact ⟨_, rfl⟩ | exact ⟨_, drew_more _ _ _⟩
set_option maxHeartbeats 1000000 in
theorem pfind_any (a : Option Addr) (cap : Nat) (xs : List Int) (id : Int) (B : Nat) (w : World) (hx : Ints B w a xs) (hn : xs.length ≤ 1000000) :
    Calls Try.prog 60 #[.slice a xs.length cap, .int .i64 id] w fun e w' => e = .returned (.tuple #[.int .i64 (findN xs id : Nat), .bool (findB13 xs id)]) ∧ ∃ m, w' = w.drewN m := by
  have hf := prising_any a cap xs B w hx hn
  by_cases hE : risingE xs = 0
  · have hb : ∀ m, Calls Try.prog 86 #[.slice a xs.length cap, .int .i64 id] (w.drewN m) fun e w' => e = .returned (.tuple #[.int .i64 (findN xs id : Nat), .bool (findB13 xs id)]) ∧ ∃ m', w' = (w.drewN m).drewN m' := fun m => by
      rcases hx with rfl | ⟨b, off, rfl, _, hc⟩
      · refine (Try.slices_BinarySearch_int_empty a cap id (w.drewN m)).mono ?_
        rintro e w' ⟨rfl, rfl⟩
        exact ⟨rfl, 0, rfl⟩
      · have hs : (xs.take xs.length).Pairwise (· ≤ ·) := by
          rw [List.take_length, List.pairwise_iff_getElem]
          intro i j hi hj hij
          have := rises_lt ((rising_iff xs).1 hE) hij hj
          rw [numAt_get xs i hi, numAt_get xs j hj] at this
          omega
        refine (Try.slices_BinarySearch_int b off xs.length cap xs id (w.drewN m) (Nat.le_refl _) (by omega) (fun j hj => hc j hj) hs).mono ?_
        rintro e w' ⟨rfl, q, rfl⟩
        exact ⟨by rw [find_count hE, find_in], q, rfl⟩
    rw [hE] at hf
    clear hE hx
    go_enter Try.func60, Try.ntmps60
    go_wp2_with (first | (go_at_call 63; refine hf.mono ?_; rintro e w2 ⟨rfl, m2, rfl⟩) | (go_at_call 86; refine (hb _).mono ?_; rintro e w3 ⟨rfl, m3, rfl⟩))
    go_ret2
    refine ⟨rfl, ?_⟩; first | exact ⟨_, rfl⟩ | exact ⟨_, drew_more _ _ _⟩
  · have d1 : (risingE xs == 0) = false := by rw [beq_eq_false_iff_ne]; exact hE
    rcases hit_or xs id with ⟨k, hk, e, h0, hh⟩ | ⟨h0, hh⟩
    · have hi : ∀ m, Calls Try.prog 87 #[.slice a xs.length cap, .int .i64 id] (w.drewN m) fun e w' => e = .returned (.int .i64 (k : Nat)) ∧ w' = w.drewN m := fun m => by
        rcases hx with rfl | ⟨b, off, rfl, _, hc⟩
        · simp at hk
        · refine (Try.slices_Index_int b off xs.length cap xs id (w.drewN m) (Nat.le_refl _) (by omega) (fun j hj => hc j hj)).mono ?_
          rintro e' w' ⟨rfl, rfl⟩
          exact ⟨by rw [idx_hit hk h0 e], rfl⟩
      have i1 : (0 : Int) ≤ (k : Int) := by omega
      have HR := Lib.hid (find_hit hh)
      clear hE hx hh h0 e
      go_enter Try.func60, Try.ntmps60
      go_wp2_with (first | (go_at_call 63; refine hf.mono ?_; rintro e w2 ⟨rfl, m2, rfl⟩) | (go_at_call 87; refine (hi _).mono ?_; rintro e w3 ⟨rfl, rfl⟩))
      go_ret2
      refine ⟨by rw [HR.out.1, HR.out.2]; rfl, ?_⟩; first | exact ⟨_, rfl⟩ | exact ⟨_, drew_more _ _ _⟩
    · have hi : ∀ m, Calls Try.prog 87 #[.slice a xs.length cap, .int .i64 id] (w.drewN m) fun e w' => e = .returned (.int .i64 (-1)) ∧ w' = w.drewN m := fun m => by
        rcases hx with rfl | ⟨b, off, rfl, _, hc⟩
        · refine (Try.slices_Index_int_empty a cap id (w.drewN m)).mono ?_
          rintro e' w' ⟨rfl, rfl⟩
          exact ⟨rfl, rfl⟩
        · refine (Try.slices_Index_int b off xs.length cap xs id (w.drewN m) (Nat.le_refl _) (by omega) (fun j hj => hc j hj)).mono ?_
          rintro e' w' ⟨rfl, rfl⟩
          exact ⟨by rw [idx_none h0], rfl⟩
      have HR : Hid (findN xs id = xs.length ∧ findB13 xs id = false) := Lib.hid ⟨by rw [(find_none hh).1, if_neg hE], (find_none hh).2⟩
      clear hE hx hh h0
      go_enter Try.func60, Try.ntmps60
      go_wp2_with (first | (go_at_call 63; refine hf.mono ?_; rintro e w2 ⟨rfl, m2, rfl⟩) | (go_at_call 87; refine (hi _).mono ?_; rintro e w3 ⟨rfl, rfl⟩))
      go_ret2
      refine ⟨by rw [HR.out.1, HR.out.2]; rfl, ?_⟩; first | exact ⟨_, rfl⟩ | exact ⟨_, drew_more _ _ _⟩
end Go.Proofs.Yteccahggahpeeaa
namespace Go.Proofs.Yteccahggahpeeaa
open Go.RowKit

/-- What a call that makes a list tells: its cells, and what is wrong. -/
def GivesC (w : World) (e : Ending) (w' : World) (cs : List Value) (E : Int) : Prop :=
  ∃ a c, e = .returned (.tuple #[.slice a cs.length c, .int .i64 E]) ∧ cs.length ≤ c ∧ Rw w.heap.size w'.heap.size w' a cs ∧ Below w.heap.size w w'
theorem gives_own {w w' : World} {B n : Nat} {e : TypeId} {a : Option Addr} {c : Nat} {cs : List Value} {E : Int} (h : w'.ownsRow B e 1 (.slice a n c) n cs) (hB : w.heap.size ≤ B) (hb : Below w.heap.size w w') :
    GivesC w (.returned (.tuple #[.slice a n c, .int .i64 E])) w' cs E := by
  obtain ⟨a', c', hv, hc, hl, hr⟩ := rw_own h
  injection hv with h1 _ h3
  subst h1 h3
  exact ⟨a, c, by rw [hl], by omega, hr.wide hB (Nat.le_refl _), hb⟩
theorem gives_none (w : World) (E : Int) : GivesC w (.returned (.tuple #[.slice none 0 0, .int .i64 E])) w [] E := ⟨none, 0, rfl, Nat.le_refl _, Or.inl rfl, Below.refl _ _⟩
theorem below_own {w V V' : World} {B n : Nat} {e : TypeId} {v : Value} {cs : List Value} (hb : Below w.heap.size w V) (h : V.ownsRow B e 1 v n cs) (hB : w.heap.size ≤ B) (hg : V.grownBy V' v.ownBlock) : Below w.heap.size w V' :=
  hb.grown hg hb.size fun k hk => Nat.le_trans hB (h.lt k hk).1
theorem set_cut {α : Type} (l : List α) (p : Nat) (h : p < l.length) (v : α) : l.take p ++ [v] ++ l.drop (p + 1) = l.set p v := by
  rw [List.set_eq_take_append_cons_drop, if_pos h, List.append_assoc]
  rfl
theorem with_cut {α : Type} (l : List α) (p : Nat) (v : α) : l.take p ++ [v] ++ l.drop p = with13 l p v := by
  unfold with13
  rw [List.append_assoc]
  rfl

theorem sl_in : Try.prog.underlying 120 = some (.slice (Try.prog.elem 120)) := by kernel_rfl
theorem sz_in (w : World) : (Go.sizeOf (Try.prog.elem 120)).run Try.prog w = .ok 1 w := by
  have h : Try.prog.elem 120 = 3 := by kernel_rfl
  obtain ⟨i, hi, _, h1, _⟩ := info_parts infoInt
  rw [h]
  simp [Go.sizeOf, typeInfo, hi, h1]
end Go.Proofs.Yteccahggahpeeaa
namespace Go.Proofs.Yteccahggahpeeaa
open Go.RowKit

theorem Txs.open {A B : Nat} {w : World} {a : Option Addr} {xs : List (List UInt8)} (h : Txs A B w a xs) : Txs 0 B w a xs := h.wide (Nat.zero_le _) (Nat.le_refl _)
/-- A literal of texts. -/
theorem lit_txs (w : World) (xs : List (List UInt8)) : Txs 0 (w.alloc (.cells (txCells xs).toArray 9)).heap.size (w.alloc (.cells (txCells xs).toArray 9)) (some ⟨w.heap.size, 0, none⟩) xs := by
  refine Or.inr ⟨w.heap.size, 0, rfl, Nat.zero_le _, by simp, fun j hj => ?_⟩
  exact lit_cell w _ _ j _ (by rw [List.getElem?_toArray]; exact txCells_at xs j hj)
theorem GivesC.txs {w w' : World} {e : Ending} {ys : List (List UInt8)} {E : Int} (h : GivesC w e w' (txCells ys) E) : Gives13 w e w' ys E := by
  obtain ⟨a, c, rfl, hc, hr, hb⟩ := h
  rw [txCells_len] at hc
  exact ⟨a, c, by rw [txCells_len], hc, txs_rw.2 hr, hb⟩
theorem txCells_with (xs : List (List UInt8)) (p : Int) (v : List UInt8) : withL (txCells xs) p (.string (tx v)) = txCells (withL xs p v) := by
  unfold withL with13
  rw [txCells_len]
  split
  · unfold txCells
    simp [List.map_take, List.map_drop]
  · rfl
theorem txCells_setL (xs : List (List UInt8)) (p : Int) (v : List UInt8) : setL (txCells xs) p (.string (tx v)) = txCells (setL xs p v) := by
  unfold setL
  rw [txCells_len]
  split
  · exact txCells_set _ _ _
  · rfl
theorem txCells_less (xs : List (List UInt8)) (p : Int) : lessL (txCells xs) p = txCells (lessL xs p) := by
  unfold lessL less13
  rw [txCells_len]
  split
  · unfold txCells
    simp [List.map_take, List.map_drop]
  · rfl
theorem intCells_one (xs : List Int) : ∀ u ∈ intCells xs, u.oneCell' = true := by
  unfold intCells
  intro u hu
  obtain ⟨x, _, rfl⟩ := List.mem_map.1 hu
  rfl
end Go.Proofs.Yteccahggahpeeaa
