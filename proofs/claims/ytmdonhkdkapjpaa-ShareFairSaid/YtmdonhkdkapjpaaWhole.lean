/- The program's Whole, and how it counts weights, for every row of weights and in every world. -/
import Derived.Test.YtmdonhkdkapjpaaRepeat
import Derived.Test.YtmdonhkdkapjpaaCents
import Derived.Lib.Slices
namespace Go.Proofs.Ytmdonhkdkapjpaa
open Go.RowKit

theorem foldmin_neg : ∀ (l : List Int) (m : Int), l.foldl min m < 0 ↔ (m < 0 ∨ ∃ x ∈ l, x < 0) := by
  intro l
  induction l with
  | nil => intro m; simp
  | cons x l ih =>
    intro m
    rw [List.foldl_cons, ih]
    simp only [List.mem_cons, exists_eq_or_imp]
    constructor
    · rintro (h | h)
      · rcases (by omega : m < 0 ∨ x < 0) with h1 | h1
        · exact Or.inl h1
        · exact Or.inr (Or.inl h1)
      · exact Or.inr (Or.inr h)
    · rintro (h | h | h)
      · exact Or.inl (by omega)
      · exact Or.inl (by omega)
      · exact Or.inr h
theorem min_neg {l : List Int} (h : 1 ≤ l.length) : Lib.minOf l < 0 ↔ ∃ x ∈ l, x < 0 := by
  cases l with
  | nil => simp at h
  | cons y l =>
    unfold Lib.minOf
    rw [foldmin_neg]
    constructor
    · rintro (h1 | h1)
      · exact ⟨y, List.mem_cons_self .., h1⟩
      · exact h1
    · exact fun h1 => Or.inr h1
theorem foldmax_pos : ∀ (l : List Int) (m : Int), 0 < l.foldl max m ↔ (0 < m ∨ ∃ x ∈ l, 0 < x) := by
  intro l
  induction l with
  | nil => intro m; simp
  | cons x l ih =>
    intro m
    rw [List.foldl_cons, ih]
    simp only [List.mem_cons, exists_eq_or_imp]
    constructor
    · rintro (h | h)
      · rcases (by omega : 0 < m ∨ 0 < x) with h1 | h1
        · exact Or.inl h1
        · exact Or.inr (Or.inl h1)
      · exact Or.inr (Or.inr h)
    · rintro (h | h | h)
      · exact Or.inl (by omega)
      · exact Or.inl (by omega)
      · exact Or.inr h
theorem foldmax_low : ∀ (l : List Int) (m : Int), m ≤ l.foldl max m := by
  intro l
  induction l with
  | nil => intro m; exact Int.le_refl _
  | cons x l ih => intro m; rw [List.foldl_cons]; have := ih (max m x); omega
theorem max_none {l : List Int} (h : 1 ≤ l.length) (hp : ∀ x ∈ l, 0 ≤ x) : Lib.maxOf l = 0 ↔ total l = 0 := by
  cases l with
  | nil => simp at h
  | cons y l =>
    have h0 : 0 ≤ Lib.maxOf (y :: l) := by
      unfold Lib.maxOf
      have h1 := foldmax_low (y :: l) ((y :: l).headD 0)
      have h2 := hp y (List.mem_cons_self ..)
      simp only [List.headD_cons] at h1 ⊢
      omega
    have h1 : 0 < Lib.maxOf (y :: l) ↔ ∃ x ∈ (y :: l), 0 < x := by
      unfold Lib.maxOf
      rw [foldmax_pos]
      constructor
      · rintro (h2 | h2)
        · exact ⟨y, List.mem_cons_self .., h2⟩
        · exact h2
      · exact fun h2 => Or.inr h2
    constructor
    · intro h2
      have h3 : ∀ x ∈ (y :: l), x = 0 := fun x hx => by
        have h4 := hp x hx
        rcases (by omega : x = 0 ∨ 0 < x) with h5 | h5
        · exact h5
        · have := h1.2 ⟨x, hx, h5⟩; omega
      have h4 : ∀ l' : List Int, (∀ x ∈ l', x = 0) → total l' = 0 := by
        intro l'
        induction l' with
        | nil => intro _; rfl
        | cons z l' ih => intro h5; simp only [total]; rw [h5 z (List.mem_cons_self ..), ih (fun x hx => h5 x (List.mem_cons_of_mem _ hx))]; rfl
      exact h4 _ h3
    · intro h2
      have h3 := total_zero hp h2
      rcases (by omega : Lib.maxOf (y :: l) = 0 ∨ 0 < Lib.maxOf (y :: l)) with h5 | h5
      · exact h5
      · obtain ⟨x, hx, h6⟩ := h1.1 h5
        have := h3 x hx; omega
/-- Adding numbers that are not below 0. -/
theorem add_pos_from {l : List Int} : ∀ {n : Int}, (∀ x ∈ l, 0 ≤ x) → 0 ≤ n → n + total l ≤ 1000000000000 → addFrom n l = some (n + total l) := by
  induction l with
  | nil => intro n _ _ _; simp [addFrom, total]
  | cons x l ih =>
    intro n h h0 h1
    have hx := h x (List.mem_cons_self ..)
    have hl := total_pos (fun y hy => h y (List.mem_cons_of_mem _ hy))
    simp only [total] at h1
    have e1 : inB x = true := (inB_iff _).2 (by omega)
    have e2 : inB (n + x) = true := (inB_iff _).2 (by omega)
    simp only [addFrom, e1, e2, Bool.and_self, if_true]
    rw [ih (fun y hy => h y (List.mem_cons_of_mem _ hy)) (by omega) (by omega)]
    simp only [total]; congr 1; omega
theorem add_some {l : List Int} : ∀ {n v : Int}, n ≤ 1000000000000 → addFrom n l = some v → v = n + total l ∧ v ≤ 1000000000000 := by
  induction l with
  | nil => intro n v hn h; simp [addFrom] at h; simp only [total]; omega
  | cons x l ih =>
    intro n v hn h
    simp only [addFrom] at h
    split at h
    · rename_i hc
      rw [Bool.and_eq_true] at hc
      have h2 := (inB_iff _).1 hc.2
      have := ih h2.2 h
      simp only [total]; omega
    · cases h
theorem whole_add {ws : List Int} (h1 : 1 ≤ ws.length) (h2 : ws.length ≤ 200) : (addE ws ≠ 0 ∨ (∃ x ∈ ws, x < 0) → wholeE ws = 8) ∧ (addE ws = 0 → (∀ x ∈ ws, 0 ≤ x) → wholeE ws = 0 ∧ addV ws = total ws) := by
  have hL : ¬(ws.length = 0 ∨ 200 < ws.length) := by omega
  constructor
  · intro h
    unfold wholeE
    rw [if_neg hL, if_neg]
    rintro ⟨h3, h4⟩
    rcases h with h | ⟨x, hx, h⟩
    · apply h
      unfold addE
      rw [add_pos_from h3 (Int.le_refl 0) (by omega)]
      rfl
    · have := h3 x hx; omega
  · intro h h3
    unfold addE at h
    cases ha : addFrom 0 ws with
    | none => rw [ha] at h; cases h
    | some v =>
      obtain ⟨e1, e2⟩ := add_some (by omega) ha
      unfold wholeE addV
      rw [if_neg hL, if_pos ⟨h3, by omega⟩, ha]
      refine ⟨rfl, ?_⟩
      show v = total ws
      omega

theorem allowed_any (n : Int) (w : World) : Calls Try.prog 22 #[.int .i64 n] w fun e w' => e = .returned (.bool (decide (1 ≤ n ∧ n ≤ 200))) ∧ w = w' := by
  by_cases h1 : 1 ≤ n
  · have d1 : decide (1 ≤ n) = true := decide_eq_true h1
    by_cases h2 : n ≤ 200
    · have d2 : decide (n ≤ 200) = true := decide_eq_true h2
      have He : Hid (decide (1 ≤ n ∧ n ≤ 200) = true) := Lib.hid (decide_eq_true ⟨h1, h2⟩)
      clear h1 h2
      go_enter Try.func22, Try.ntmps22
      go_wp2
      go_ret
      exact ⟨by rw [He.out]; rfl, rfl⟩
    · have d2 : decide (n ≤ 200) = false := decide_eq_false h2
      have He : Hid (decide (1 ≤ n ∧ n ≤ 200) = false) := Lib.hid (decide_eq_false fun h => h2 h.2)
      clear h1 h2
      go_enter Try.func22, Try.ntmps22
      go_wp2
      go_ret
      exact ⟨by rw [He.out]; rfl, rfl⟩
  · have d1 : decide (1 ≤ n) = false := decide_eq_false h1
    have He : Hid (decide (1 ≤ n ∧ n ≤ 200) = false) := Lib.hid (decide_eq_false fun h => h1 h.1)
    clear h1
    go_enter Try.func22, Try.ntmps22
    go_wp2
    go_ret
    exact ⟨by rw [He.out]; rfl, rfl⟩

theorem ones_any (n : Nat) (w : World) (h1 : 1 ≤ n) (hn : n ≤ 1000000) : Calls Try.prog 23 #[.int .i64 n] w fun e w' => ∃ a cap, e = .returned (.slice a n cap) ∧ Ints w'.heap.size w' a (List.replicate n 1) ∧ Below w.heap.size w w' := by
  have hb0 : Below w.heap.size w (w.alloc (.cells #[.int .i64 1] 3)) := (Below.refl _ w).alloc (Nat.le_refl _) _
  have hc := repeat_any w.heap.size 1 n 1 (w.alloc (.cells #[.int .i64 1] 3)) (by rw [World.size_alloc]; omega) (cell_one_new _ _ _ 0 _ rfl) h1 hn
  have HC := Lib.hid hc
  have HB := Lib.hid hb0
  clear hc hb0
  go_enter Try.func23, Try.ntmps23
  go_wp2_with (go_at_call 30; refine HC.out.mono ?_; rintro e w1 ⟨g, rfl, hown, hb⟩)
  go_ret
  have hl : (List.replicate n (1 : Int)).length = n := by simp
  have hown' : w1.ownsRow (w.alloc (.cells #[.int .i64 1] 3)).heap.size 3 1 (.slice (some ⟨g, 0, none⟩) n n) (List.replicate n (1 : Int)).length (intCells (List.replicate n 1)) := by rw [hl]; exact hown
  obtain ⟨a, c, hv, hI⟩ := ints_own hown'
  rw [hl] at hv
  exact ⟨a, c, by rw [hv]; rfl, hI, HB.out.trans (hb.mono HB.out.size)⟩

theorem swhole_some (b off cap : Nat) (ws : List Int) (w : World) (hn : ws.length ≤ 4611686018427387904) (hB : b < w.heap.size) (hc : ∀ j, j < ws.length → w.cell? ⟨b, off + j, none⟩ = some (.int .i64 (numAt ws j))) :
    Calls Try.prog 13 #[.slice (some ⟨b, off, none⟩) ws.length cap] w fun e w' => e = .returned (.tuple #[.int .i64 (wholeV ws), .int .i64 (wholeE ws)]) ∧ Below w.heap.size w w' := by
  by_cases hL : 1 ≤ ws.length ∧ ws.length ≤ 200
  · have d1 : decide (1 ≤ ((ws.length : Nat) : Int) ∧ ((ws.length : Nat) : Int) ≤ 200) = true := decide_eq_true (by omega)
    have HA : Hid (∀ v, Calls Try.prog 22 #[.int .i64 ((ws.length : Nat) : Int)] v fun e w' => e = .returned (.bool true) ∧ v = w') := Lib.hid fun v => by
      have := allowed_any ((ws.length : Nat) : Int) v
      rw [d1] at this; exact this
    have HD := Lib.hid (cadd_any (some ⟨b, off, none⟩) cap ws w hn (Or.inr ⟨b, off, rfl, hB, hc⟩))
    have HM : Hid (∀ v, Below w.heap.size w v → Calls Try.prog 24 #[.slice (some ⟨b, off, none⟩) ws.length cap] v fun e w' => e = .returned (.int .i64 (Lib.minOf ws)) ∧ v = w') := Lib.hid fun v hv => by
      have h := Try.slices_Min_int b off ws.length cap ws v (by omega) (Nat.le_refl _) (by omega) (fun j hj => (hv.cell (p := ⟨b, off + j, none⟩) hB).trans (hc j hj))
      rw [List.take_length] at h
      exact h.mono fun _ _ hh => ⟨hh.1, hh.2.symm⟩
    obtain ⟨hw8, hw0⟩ := whole_add hL.1 hL.2
    have hneg := min_neg hL.1
    by_cases ha : addE ws = 0
    · have da : (addE ws != 0) = false := by rw [ha]; rfl
      by_cases hm : Lib.minOf ws < 0
      · have dm : decide (Lib.minOf ws < 0) = true := decide_eq_true hm
        have he : wholeE ws = 8 := hw8 (Or.inr (hneg.1 hm))
        have hv : wholeV ws = 0 := by unfold wholeV; rw [he]; rfl
        rw [he, hv]
        clear ha hm hneg hw8 hw0 hc d1 he hv
        go_enter Try.func13, Try.ntmps13
        go_wp2_with (first
          | (go_at_call 22; refine (HA.out _).mono ?_; rintro e w1 ⟨rfl, rfl⟩)
          | (go_at_call 16; refine HD.out.mono ?_; rintro e w1 ⟨rfl, hb1⟩)
          | (go_at_call 24; refine (HM.out _ (by assumption)).mono ?_; rintro e w2 ⟨rfl, rfl⟩))
        go_ret2
        exact ⟨rfl, hb1⟩
      · have dm : decide (Lib.minOf ws < 0) = false := decide_eq_false hm
        have hp : ∀ x ∈ ws, 0 ≤ x := fun x hx => by
          rcases (by omega : 0 ≤ x ∨ x < 0) with h | h
          · exact h
          · exact absurd (hneg.2 ⟨x, hx, h⟩) hm
        obtain ⟨he, hs⟩ := hw0 ha hp
        have hv : wholeV ws = wholeN ws := by unfold wholeV; rw [if_pos he]
        by_cases hz : total ws = 0
        · have dz : (addV ws == 0) = true := by rw [hs, hz]; rfl
          have hN : wholeN ws = ws.length := by unfold wholeN; rw [if_pos hz]
          rw [he, hv, hN]
          clear ha hm hneg hw8 hw0 hc d1 he hv hp hs hz hN
          go_enter Try.func13, Try.ntmps13
          go_wp2_with (first
            | (go_at_call 22; refine (HA.out _).mono ?_; rintro e w1 ⟨rfl, rfl⟩)
            | (go_at_call 16; refine HD.out.mono ?_; rintro e w1 ⟨rfl, hb1⟩)
            | (go_at_call 24; refine (HM.out _ (by assumption)).mono ?_; rintro e w2 ⟨rfl, rfl⟩))
          go_ret2
          exact ⟨rfl, hb1⟩
        · have dz : (addV ws == 0) = false := by rw [hs, beq_eq_false_iff_ne]; exact hz
          have hN : wholeN ws = addV ws := by unfold wholeN; rw [if_neg hz, hs]
          rw [he, hv, hN]
          clear ha hm hneg hw8 hw0 hc d1 he hv hp hs hz hN
          go_enter Try.func13, Try.ntmps13
          go_wp2_with (first
            | (go_at_call 22; refine (HA.out _).mono ?_; rintro e w1 ⟨rfl, rfl⟩)
            | (go_at_call 16; refine HD.out.mono ?_; rintro e w1 ⟨rfl, hb1⟩)
            | (go_at_call 24; refine (HM.out _ (by assumption)).mono ?_; rintro e w2 ⟨rfl, rfl⟩))
          go_ret2
          exact ⟨rfl, hb1⟩
    · have da : (addE ws != 0) = true := by rw [bne_iff_ne]; exact ha
      have he : wholeE ws = 8 := hw8 (Or.inl ha)
      have hv : wholeV ws = 0 := by unfold wholeV; rw [he]; rfl
      rw [he, hv]
      clear ha hneg hw8 hw0 hc d1 he hv
      go_enter Try.func13, Try.ntmps13
      go_wp2_with (first
        | (go_at_call 22; refine (HA.out _).mono ?_; rintro e w1 ⟨rfl, rfl⟩)
        | (go_at_call 16; refine HD.out.mono ?_; rintro e w1 ⟨rfl, hb1⟩))
      go_ret2
      exact ⟨rfl, hb1⟩
  · have d1 : decide (1 ≤ ((ws.length : Nat) : Int) ∧ ((ws.length : Nat) : Int) ≤ 200) = false := decide_eq_false (by omega)
    have HA : Hid (∀ v, Calls Try.prog 22 #[.int .i64 ((ws.length : Nat) : Int)] v fun e w' => e = .returned (.bool false) ∧ v = w') := Lib.hid fun v => by
      have := allowed_any ((ws.length : Nat) : Int) v
      rw [d1] at this; exact this
    have he : wholeE ws = 2 := by unfold wholeE; rw [if_pos (by omega)]
    have hv : wholeV ws = 0 := by unfold wholeV; rw [he]; rfl
    rw [he, hv]
    clear d1 he hv hL hc
    go_enter Try.func13, Try.ntmps13
    go_wp2_with (go_at_call 22; refine (HA.out _).mono ?_; rintro e w1 ⟨rfl, rfl⟩)
    go_ret2
    exact ⟨rfl, Below.refl _ _⟩
theorem swhole_none (a0 : Option Addr) (cap : Nat) (w : World) :
    Calls Try.prog 13 #[.slice a0 0 cap] w fun e w' => e = .returned (.tuple #[.int .i64 (wholeV []), .int .i64 (wholeE [])]) ∧ Below w.heap.size w w' := by
  have HA : Hid (∀ v, Calls Try.prog 22 #[.int .i64 0] v fun e w' => e = .returned (.bool false) ∧ v = w') := Lib.hid fun v => allowed_any 0 v
  have he : wholeE [] = 2 := rfl
  have hv : wholeV [] = 0 := rfl
  rw [he, hv]
  clear he hv
  go_enter Try.func13, Try.ntmps13
  go_wp2_with (go_at_call 22; refine (HA.out _).mono ?_; rintro e w1 ⟨rfl, rfl⟩)
  go_ret2
  exact ⟨rfl, Below.refl _ _⟩
theorem swhole_any (a0 : Option Addr) (cap : Nat) (ws : List Int) (w : World) (hn : ws.length ≤ 4611686018427387904) (hx : Ints w.heap.size w a0 ws) :
    Calls Try.prog 13 #[.slice a0 ws.length cap] w fun e w' => e = .returned (.tuple #[.int .i64 (wholeV ws), .int .i64 (wholeE ws)]) ∧ Below w.heap.size w w' := by
  rcases hx with rfl | ⟨b, off, rfl, hB, hc⟩
  · exact swhole_none a0 cap w
  · exact swhole_some b off cap ws w hn hB hc

/-- The weights as they count. -/
def cntL (ws : List Int) : List Int := if total ws = 0 then List.replicate ws.length 1 else ws
theorem cnt_len (ws : List Int) : (cntL ws).length = ws.length := by unfold cntL; split <;> simp
theorem cnt_at (ws : List Int) {i : Nat} (hi : i < ws.length) : numAt (cntL ws) i = weighs ws i := by
  unfold cntL weighs
  by_cases h : total ws = 0
  · rw [if_pos h, if_pos h]
    unfold numAt
    rw [List.getD_eq_getElem?_getD, List.getElem?_eq_getElem (by simpa using hi)]
    simp
  · rw [if_neg h, if_neg h]
theorem count_any (b off cap : Nat) (ws : List Int) (w : World) (h1 : 1 ≤ ws.length) (h2 : ws.length ≤ 200) (hp : ∀ x ∈ ws, 0 ≤ x) (hB : b < w.heap.size) (hc : ∀ j, j < ws.length → w.cell? ⟨b, off + j, none⟩ = some (.int .i64 (numAt ws j))) :
    Calls Try.prog 20 #[.slice (some ⟨b, off, none⟩) ws.length cap] w fun e w' => ∃ a cap', e = .returned (.slice a ws.length cap') ∧ Ints w'.heap.size w' a (cntL ws) ∧ Below w.heap.size w w' := by
  have HM : Hid (Calls Try.prog 29 #[.slice (some ⟨b, off, none⟩) ws.length cap] w fun e w' => e = .returned (.int .i64 (Lib.maxOf ws)) ∧ w = w') := by
    have h := Try.slices_Max_int b off ws.length cap ws w (by omega) (Nat.le_refl _) (by omega) hc
    rw [List.take_length] at h
    exact Lib.hid (h.mono fun _ _ hh => ⟨hh.1, hh.2.symm⟩)
  have hz := max_none h1 hp
  by_cases ht : total ws = 0
  · have d : (Lib.maxOf ws == 0) = true := by rw [hz.2 ht]; rfl
    have HO := Lib.hid (ones_any ws.length w h1 (by omega))
    have HCn : Hid (cntL ws = List.replicate ws.length 1) := Lib.hid (by unfold cntL; rw [if_pos ht])
    clear hz ht hc hp
    go_enter Try.func20, Try.ntmps20
    go_wp2_with (first
      | (go_at_call 29; refine HM.out.mono ?_; rintro e w1 ⟨rfl, rfl⟩)
      | (go_at_call 23; refine HO.out.mono ?_; rintro e w1 ⟨a, c, rfl, hI, hb⟩))
    go_ret
    exact ⟨a, c, rfl, by rw [HCn.out]; exact hI, hb⟩
  · have d : (Lib.maxOf ws == 0) = false := by rw [beq_eq_false_iff_ne]; exact fun h => ht (hz.1 h)
    have HI : Hid (Ints w.heap.size w (some ⟨b, off, none⟩) (cntL ws)) := Lib.hid (by unfold cntL; rw [if_neg ht]; exact Or.inr ⟨b, off, rfl, hB, hc⟩)
    clear hz ht hc hp
    go_enter Try.func20, Try.ntmps20
    go_wp2_with (go_at_call 29; refine HM.out.mono ?_; rintro e w1 ⟨rfl, rfl⟩)
    go_ret
    exact ⟨_, cap, rfl, HI.out, Below.refl _ _⟩
end Go.Proofs.Ytmdonhkdkapjpaa
