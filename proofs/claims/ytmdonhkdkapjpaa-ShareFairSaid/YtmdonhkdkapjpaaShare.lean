/- The program's Out, Evenly and Place, for every total, row of weights and place, in every world. -/
import Derived.Test.YtmdonhkdkapjpaaParts
namespace Go.Proofs.Ytmdonhkdkapjpaa
open Go.RowKit

set_option maxHeartbeats 1000000 in
theorem parts_any (a0 : Option Addr) (cap : Nat) (T : Int) (ws : List Int) (w : World) (hF : Fine T ws) (hx : Ints w.heap.size w a0 (cntL ws)) :
    Calls Try.prog 19 #[.int .i64 T, .slice a0 ws.length cap, .int .i64 (wholeN ws)] w fun e w' => ∃ a cap', e = .returned (.slice a (outL T ws).length cap') ∧ Ints w'.heap.size w' a (outL T ws) ∧ Below w.heap.size w w' := by
  rcases hx with h0 | ⟨b, off, rfl, hB, hc⟩
  · have h1 := cnt_len ws
    rw [h0] at h1
    have := hF.len
    simp at h1
    omega
  · refine divide_some b off cap T ws w hF hB fun j hj => ?_
    rw [hc j (by rw [cnt_len]; exact hj), cnt_at ws hj]

set_option maxHeartbeats 1000000 in
theorem sout_some (b off cap : Nat) (T : Int) (ws : List Int) (w : World) (hn : ws.length ≤ 4611686018427387904) (hB : b < w.heap.size) (hc : ∀ j, j < ws.length → w.cell? ⟨b, off + j, none⟩ = some (.int .i64 (numAt ws j))) :
    Calls Try.prog 7 #[.int .i64 T, .slice (some ⟨b, off, none⟩) ws.length cap] w fun e w' => ∃ a cap', e = .returned (.tuple #[.slice a (outL T ws).length cap', .int .i64 (outE T ws)]) ∧ Ints w'.heap.size w' a (outL T ws) ∧ Below w.heap.size w w' := by
  have HW := Lib.hid (swhole_some b off cap ws w hn hB hc)
  have HC := Lib.hid hc
  clear hc
  by_cases hw : wholeE ws = 0
  · have hwd : (wholeE ws != 0) = false := by rw [hw]; rfl
    by_cases ht : T < 0 ∨ 1000000000000 < T
    · have he : outE T ws = 8 := by unfold outE; rw [if_pos hw, if_pos ht]
      have hl := out_bad (T := T) (ws := ws) (by omega)
      rcases ht with ht | ht
      · have htd : decide (T < 0) = true := decide_eq_true ht
        clear ht hw
        rw [he, hl]
        go_enter Try.func7, Try.ntmps7
        go_wp2_with (go_at_call 13; refine HW.out.mono ?_; rintro e w1 ⟨rfl, hb1⟩)
        go_ret2
        exact ⟨none, 0, rfl, Or.inl rfl, hb1⟩
      · have htd : decide (T < 0) = false := decide_eq_false (by omega)
        have hin : inB T = false := by
          cases h : inB T with
          | false => rfl
          | true => have := (inB_iff T).1 h; omega
        clear ht hw
        rw [he, hl]
        go_enter Try.func7, Try.ntmps7
        go_wp2_with (first | (go_at_call 13; refine HW.out.mono ?_; rintro e w1 ⟨rfl, hb1⟩) | (go_at_call 18; refine (cin_any _ _).mono ?_; rintro e w2 ⟨rfl, rfl⟩))
        go_ret2
        exact ⟨none, 0, rfl, Or.inl rfl, hb1⟩
    · have he : outE T ws = 0 := by unfold outE; rw [if_pos hw, if_neg ht]
      have hF := out_fine he
      have hv : wholeV ws = wholeN ws := by unfold wholeV; rw [if_pos hw]
      have htd : decide (T < 0) = false := decide_eq_false (by omega)
      have hin : inB T = true := (inB_iff T).2 (by omega)
      have HCN : Hid (∀ v, Below w.heap.size w v → Calls Try.prog 20 #[.slice (some ⟨b, off, none⟩) ws.length cap] v fun e w' => ∃ a cap', e = .returned (.slice a ws.length cap') ∧ Ints w'.heap.size w' a (cntL ws) ∧ Below v.heap.size v w') :=
        Lib.hid fun v hv => count_any b off cap ws v hF.len hF.len2 hF.pos (Nat.lt_of_lt_of_le hB hv.size) fun j hj => (hv.cell (p := ⟨b, off + j, none⟩) hB).trans (HC.out j hj)
      have HDV : Hid (∀ a c v, Ints v.heap.size v a (cntL ws) → Calls Try.prog 19 #[.int .i64 T, .slice a ws.length c, .int .i64 (wholeN ws)] v fun e w' => ∃ a cap', e = .returned (.slice a (outL T ws).length cap') ∧ Ints w'.heap.size w' a (outL T ws) ∧ Below v.heap.size v w') :=
        Lib.hid fun a c v hx => parts_any a c T ws v hF hx
      rw [hv] at HW
      rw [he]
      clear ht hw hF hv he HC
      go_enter Try.func7, Try.ntmps7
      go_wp2_with (first
        | (go_at_call 13; refine HW.out.mono ?_; rintro e w1 ⟨rfl, hb1⟩)
        | (go_at_call 18; refine (cin_any _ _).mono ?_; rintro e w2 ⟨rfl, rfl⟩)
        | (go_at_call 20; refine (HCN.out _ hb1).mono ?_; rintro e w2 ⟨a2, c2, rfl, hI2, hb2⟩)
        | (go_at_call 19; refine (HDV.out _ _ _ hI2).mono ?_; rintro e w3 ⟨a3, c3, rfl, hI3, hb3⟩))
      go_ret2
      exact ⟨a3, c3, rfl, hI3, (hb1.trans (hb2.mono hb1.size)).trans (hb3.mono (hb1.trans (hb2.mono hb1.size)).size)⟩
  · have he : outE T ws = wholeE ws := by unfold outE; rw [if_neg hw]
    have hl := out_bad (T := T) (ws := ws) (by omega)
    have hwd : (wholeE ws != 0) = true := by rw [bne_iff_ne]; exact hw
    clear hw
    rw [he, hl]
    go_enter Try.func7, Try.ntmps7
    go_wp2_with (go_at_call 13; refine HW.out.mono ?_; rintro e w1 ⟨rfl, hb1⟩)
    go_ret2
    exact ⟨none, 0, rfl, Or.inl rfl, hb1⟩
theorem sout_none (a0 : Option Addr) (cap : Nat) (T : Int) (w : World) :
    Calls Try.prog 7 #[.int .i64 T, .slice a0 0 cap] w fun e w' => ∃ a cap', e = .returned (.tuple #[.slice a (outL T []).length cap', .int .i64 (outE T [])]) ∧ Ints w'.heap.size w' a (outL T []) ∧ Below w.heap.size w w' := by
  have h1 : outE T [] = 2 := rfl
  have h2 : outL T [] = [] := rfl
  rw [h1, h2]
  go_enter Try.func7, Try.ntmps7
  go_wp2_with (go_at_call 13; refine (swhole_none a0 cap _).mono ?_; rintro e w' ⟨rfl, hb1⟩; rw [show wholeE [] = 2 from rfl, show wholeV [] = 0 from rfl])
  go_ret2
  exact ⟨none, 0, rfl, Or.inl rfl, hb1⟩
theorem sout_any (a0 : Option Addr) (cap : Nat) (T : Int) (ws : List Int) (w : World) (hn : ws.length ≤ 4611686018427387904) (hx : Ints w.heap.size w a0 ws) :
    Calls Try.prog 7 #[.int .i64 T, .slice a0 ws.length cap] w fun e w' => ∃ a cap', e = .returned (.tuple #[.slice a (outL T ws).length cap', .int .i64 (outE T ws)]) ∧ Ints w'.heap.size w' a (outL T ws) ∧ Below w.heap.size w w' := by
  rcases hx with rfl | ⟨b, off, rfl, hB, hc⟩
  · exact sout_none a0 cap T w
  · exact sout_some b off cap T ws w hn hB hc

/-- Ones weigh what zeros do. -/
theorem total_same (c : Int) : ∀ m : Nat, total (List.replicate m c) = m * c := by
  intro m
  induction m with
  | zero => simp [total]
  | succ m ih => rw [List.replicate_succ]; simp only [total, ih]; rw [Int.natCast_add, Int.add_mul]; omega
theorem ones_out (T : Int) {m : Nat} (h1 : 1 ≤ m) (h2 : m ≤ 200) : outE T (List.replicate m 1) = outE T (List.replicate m 0) ∧ outL T (List.replicate m 1) = outL T (List.replicate m 0) := by
  have t0 := total_same 0 m
  have t1 := total_same 1 m
  have l0 : (List.replicate m (0 : Int)).length = m := by simp
  have l1 : (List.replicate m (1 : Int)).length = m := by simp
  have w0 : wholeE (List.replicate m 0) = 0 := by
    unfold wholeE
    rw [l0, if_neg (by omega), if_pos ⟨fun x hx => by rw [List.eq_of_mem_replicate hx]; exact Int.le_refl _, by omega⟩]
  have w1 : wholeE (List.replicate m 1) = 0 := by
    unfold wholeE
    rw [l1, if_neg (by omega), if_pos ⟨fun x hx => by rw [List.eq_of_mem_replicate hx]; omega, by omega⟩]
  have n0 : wholeN (List.replicate m 0) = m := by unfold wholeN; rw [l0, if_pos (by omega)]
  have n1 : wholeN (List.replicate m 1) = m := by unfold wholeN; rw [l1, if_neg (by omega)]; omega
  have we : ∀ i, i < m → weighs (List.replicate m 1) i = weighs (List.replicate m 0) i := by
    intro i hi
    unfold weighs
    rw [if_neg (by omega), if_pos (by omega)]
    unfold numAt
    rw [List.getD_eq_getElem?_getD, List.getElem?_eq_getElem (by simpa using hi)]
    simp
  have e : outE T (List.replicate m 1) = outE T (List.replicate m 0) := by unfold outE; rw [w0, w1]
  refine ⟨e, ?_⟩
  have qe : ∀ i, i < m → quoAt T (List.replicate m 1) i = quoAt T (List.replicate m 0) i := fun i hi => by unfold quoAt; rw [we i hi, n0, n1]
  have re : ∀ i, i < m → remAt T (List.replicate m 1) i = remAt T (List.replicate m 0) i := fun i hi => by unfold remAt; rw [we i hi, n0, n1]
  have le : leftOf T (List.replicate m 1) = leftOf T (List.replicate m 0) := by
    unfold leftOf; rw [l0, l1, sum_same qe]
  have ke : ∀ i, i < m → rank (remAt T (List.replicate m 1)) m i = rank (remAt T (List.replicate m 0)) m i := by
    intro i hi
    unfold rank
    refine count_same fun j hj => ?_
    have hjm := List.mem_range.1 hj
    unfold beats
    rw [re i hi, re j hjm]
  unfold outL
  rw [e]
  by_cases h : outE T (List.replicate m 0) = 0
  · rw [if_pos h, if_pos h, l0, l1]
    refine List.map_congr_left fun i hi => ?_
    have hi' := List.mem_range.1 hi
    unfold shareAt
    rw [l0, l1, ke i hi', le, qe i hi']
  · rw [if_neg h, if_neg h]

set_option maxHeartbeats 1000000 in
theorem seven_any (T n : Int) (w : World) :
    Calls Try.prog 9 #[.int .i64 T, .int .i64 n] w fun e w' => ∃ a cap', e = .returned (.tuple #[.slice a (evenL T n).length cap', .int .i64 (evenE T n)]) ∧ Ints w'.heap.size w' a (evenL T n) ∧ Below w.heap.size w w' := by
  by_cases h : 1 ≤ n ∧ n ≤ 200
  · obtain ⟨m, rfl⟩ : ∃ m : Nat, n = m := ⟨n.toNat, by omega⟩
    have h1 : 1 ≤ m := by omega
    have h2 : m ≤ 200 := by omega
    obtain ⟨o1, o2⟩ := ones_out T h1 h2
    have e1 : evenE T m = outE T (List.replicate m 1) := by unfold evenE; rw [if_neg (by omega), Int.toNat_natCast, o1]
    have e2 : evenL T m = outL T (List.replicate m 1) := by unfold evenL; rw [if_neg (by omega), Int.toNat_natCast, o2]
    have HA : Hid (Calls Try.prog 22 #[.int .i64 (m : Int)] w fun e w' => e = .returned (.bool true) ∧ w = w') := by
      have := allowed_any (m : Int) w
      rw [decide_eq_true h] at this; exact this
    have HO := Lib.hid (ones_any m w h1 (by omega))
    have hl : (List.replicate m (1 : Int)).length = m := by simp
    have HX : Hid (∀ a c v, Ints v.heap.size v a (List.replicate m 1) → Calls Try.prog 7 #[.int .i64 T, .slice a m c] v fun e w' => ∃ a cap', e = .returned (.tuple #[.slice a (outL T (List.replicate m 1)).length cap', .int .i64 (outE T (List.replicate m 1))]) ∧ Ints w'.heap.size w' a (outL T (List.replicate m 1)) ∧ Below v.heap.size v w') :=
      Lib.hid fun a c v hx => by
        have := sout_any a c T (List.replicate m 1) v (by rw [hl]; omega) hx
        rw [hl] at this; exact this
    rw [e1, e2]
    clear o1 o2 e1 e2 hl h
    generalize outL T (List.replicate m 1) = L at *
    generalize outE T (List.replicate m 1) = E at *
    go_enter Try.func9, Try.ntmps9
    go_wp2_with (first
      | (go_at_call 22; refine HA.out.mono ?_; rintro e w1 ⟨rfl, rfl⟩)
      | (go_at_call 23; refine HO.out.mono ?_; rintro e w2 ⟨a2, c2, rfl, hI2, hb2⟩; replace hI2 := Lib.hid hI2)
      | (go_at_call 7; refine (HX.out _ _ _ hI2.out).mono ?_; rintro e w3 ⟨a3, c3, rfl, hI3, hb3⟩))
    go_ret2
    exact ⟨a3, c3, rfl, hI3, hb2.trans (hb3.mono hb2.size)⟩
  · have e1 : evenE T n = 2 := by unfold evenE; rw [if_pos (by omega)]
    have e2 : evenL T n = [] := by unfold evenL; rw [if_pos (by omega)]
    have HA : Hid (Calls Try.prog 22 #[.int .i64 n] w fun e w' => e = .returned (.bool false) ∧ w = w') := by
      have := allowed_any n w
      rw [decide_eq_false h] at this; exact this
    rw [e1, e2]
    clear h e1 e2
    go_enter Try.func9, Try.ntmps9
    go_wp2_with (go_at_call 22; refine HA.out.mono ?_; rintro e w1 ⟨rfl, rfl⟩)
    go_ret2
    exact ⟨none, 0, rfl, Or.inl rfl, Below.refl _ _⟩

set_option maxHeartbeats 1000000 in
theorem splace_any (a0 : Option Addr) (cap : Nat) (T : Int) (ws : List Int) (i : Int) (w : World) (hn : ws.length ≤ 4611686018427387904) (hx : Ints w.heap.size w a0 ws) :
    Calls Try.prog 11 #[.int .i64 T, .slice a0 ws.length cap, .int .i64 i] w fun e w' => e = .returned (.tuple #[.int .i64 (placeV T ws i), .int .i64 (placeE T ws i)]) ∧ Below w.heap.size w w' := by
  have Hc := Lib.hid (sout_any a0 cap T ws w hn hx)
  by_cases he : outE T ws = 0
  · have hed : (outE T ws != 0) = false := by rw [he]; rfl
    have hF := out_fine he
    have hol := out_len hF
    by_cases h1 : i < 0
    · have hd : decide (i < 0) = true := decide_eq_true h1
      have e1 : placeE T ws i = 2 := by unfold placeE; rw [if_pos he, if_pos (Or.inl h1)]
      have e2 : placeV T ws i = 0 := by unfold placeV; rw [e1]; rfl
      rw [e1, e2]
      clear h1 he hF hol
      go_enter Try.func11, Try.ntmps11
      go_wp2_with (go_at_call 7; refine Hc.out.mono ?_; rintro e w2 ⟨a2, c2, rfl, hI2, b2⟩)
      go_ret2
      exact ⟨rfl, b2⟩
    · have hd : decide (i < 0) = false := decide_eq_false h1
      by_cases h2 : (ws.length : Int) ≤ i
      · have hd2 : decide (((outL T ws).length : Int) ≤ i) = true := decide_eq_true (by omega)
        have e1 : placeE T ws i = 2 := by unfold placeE; rw [if_pos he, if_pos (Or.inr h2)]
        have e2 : placeV T ws i = 0 := by unfold placeV; rw [e1]; rfl
        rw [e1, e2]
        clear h1 he hF hol h2
        go_enter Try.func11, Try.ntmps11
        go_wp2_with (go_at_call 7; refine Hc.out.mono ?_; rintro e w2 ⟨a2, c2, rfl, hI2, b2⟩)
        go_ret2
        exact ⟨rfl, b2⟩
      · have hd2 : decide (((outL T ws).length : Int) ≤ i) = false := decide_eq_false (by omega)
        have e1 : placeE T ws i = 0 := by unfold placeE; rw [if_pos he, if_neg (by omega)]
        obtain ⟨k, rfl⟩ : ∃ k : Nat, i = k := ⟨i.toNat, by omega⟩
        have e2 : placeV T ws k = numAt (outL T ws) k := by unfold placeV; rw [if_pos e1, Int.toNat_natCast, out_at hF (by omega)]
        have hk : k < (outL T ws).length := by omega
        rw [e1, e2]
        clear h1 he hF hol h2 e1 e2
        go_enter Try.func11, Try.ntmps11
        go_wp2_with (go_at_call 7; refine Hc.out.mono ?_; rintro e w2 ⟨a2, c2, rfl, hI2, b2⟩; rcases hI2 with h0 | ⟨b3, o3, rfl, _, hc3⟩; (rw [h0] at hk; cases hk); have hcell := hc3 k hk)
        go_ret2
        exact ⟨rfl, b2⟩
  · have hed : (outE T ws != 0) = true := by rw [bne_iff_ne]; exact he
    have e1 : placeE T ws i = outE T ws := by unfold placeE; rw [if_neg he]
    have e2 : placeV T ws i = 0 := by unfold placeV; rw [e1, if_neg he]
    rw [e1, e2]
    clear he
    go_enter Try.func11, Try.ntmps11
    go_wp2_with (go_at_call 7; refine Hc.out.mono ?_; rintro e w2 ⟨a2, c2, rfl, hI2, b2⟩)
    go_ret2
    exact ⟨rfl, b2⟩
end Go.Proofs.Ytmdonhkdkapjpaa
