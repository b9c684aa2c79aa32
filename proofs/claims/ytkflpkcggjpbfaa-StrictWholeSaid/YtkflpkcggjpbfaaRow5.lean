/- The document's own Row and Unrow, for every row of numbers and place, in every world. -/
import Derived.Test.YtkflpkcggjpbfaaTexts5
import Derived.Test.YtkflpkcggjpbfaaOwn
namespace Go.Proofs.Ytkflpkcggjpbfaa
open Go.RowKit

theorem put_two {x : Int} (hw : wideW x) (n : Int) : putE n x = 0 ∨ putE n x = 8 := by
  unfold putE; rw [if_pos hw]; split
  · exact Or.inl rfl
  · exact Or.inr rfl
theorem put_len {n x : Int} (h : putE n x = 0) : (putL n x).length = x.toNat := by unfold putL; rw [if_pos h, be_len]
theorem flat_take (w : Nat) (l : List Int) (k : Nat) (h : k < l.length) : flat w (l.take (k + 1)) = flat w (l.take k) ++ be w (numAt l k).toNat := by
  rw [take_more l k h, flat_more]
  simp [flat]

set_option maxHeartbeats 2000000 in
theorem runrow_new (s : ByteArray) (hs : s.size ≤ 4611686018427387904) (p x m : Int) (hp0 : -9223372036854775808 ≤ p) (hp1 : p ≤ 9223372036854775807) (w : World) :
    Calls Try.prog 56 #[.string s, .int .i64 p, .int .i64 x, .int .i64 m] w fun e w' => ∃ a c, e = .returned (.tuple #[.slice a (unrowL s.data.toList p x m).length c, .int .i64 (unrowT s.data.toList p x m), .int .i64 (unrowE s.data.toList p x m)]) ∧ IntsNew w.heap.size w'.heap.size w' a (unrowL s.data.toList p x m) ∧ Below w.heap.size w w' := by
  have HW : Hid (∀ v, Calls Try.prog 64 #[.int .i64 x] v fun e w' => e = .returned (.bool (decide (wideW x))) ∧ v = w') := Lib.hid fun v => rwide_any x v
  have HG := Lib.hid (rget_any s hs p 2 hp0 hp1 w)
  have hz : s.data.toList.length = s.size := by simp
  have hbad : unrowE s.data.toList p x m ≠ 0 → unrowL s.data.toList p x m = [] ∧ unrowT s.data.toList p x m = 0 := fun h => by unfold unrowL unrowT; rw [if_neg h, if_neg h]; exact ⟨rfl, rfl⟩
  by_cases ha : wideW x ∧ 0 ≤ p ∧ p ≤ s.size ∧ 0 ≤ m
  · rw [decide_eq_true ha.1] at HW
    obtain ⟨w1, w2, w3⟩ := wide_nat ha.1
    have d1 : decide (m < 0) = false := decide_eq_false (by omega)
    have d2 : decide (p < 0) = false := decide_eq_false (by omega)
    have d3 : decide ((s.size : Int) < p) = false := decide_eq_false (by omega)
    by_cases hg : getE s.data.toList p 2 = 0
    · have hv : getT s.data.toList p 2 = p + 2 := by unfold getT; rw [if_pos hg]
      obtain ⟨b0, _, _, _⟩ := get_bound hg
      obtain ⟨_, _, f1, _⟩ := get_fine hg
      rw [hz] at f1
      have hgd : (getE s.data.toList p 2 != 0) = false := by rw [hg]; rfl
      rw [hv] at HG
      obtain ⟨n, hn⟩ : ∃ n : Nat, getV s.data.toList p 2 = n := ⟨(getV s.data.toList p 2).toNat, by omega⟩
      have hE : unrowE s.data.toList p x m = if m < (n : Int) ∨ 1000 < (n : Int) then 3 else match badAt s.data.toList (p + 2) x n with | some i => getE s.data.toList (p + 2 + i * x) x | none => 0 := by
        unfold unrowE; rw [hz, if_pos ⟨ha.1, ha.2.1, ha.2.2.1, ha.2.2.2⟩, if_pos hg, hn, Int.toNat_natCast]
        rfl
      rw [hn] at HG
      by_cases h1 : m < (n : Int) ∨ 1000 < (n : Int)
      · rw [if_pos h1] at hE
        obtain ⟨hl, ht⟩ := hbad (by omega)
        rw [hE, hl, ht]
        clear hbad hE hl ht hz ha hg hv b0 f1 hn
        generalize getE s.data.toList p 2 = E at *
        by_cases h2 : m < (n : Int)
        · have d4 : decide (m < (n : Int)) = true := decide_eq_true h2
          clear h1 h2
          go_enter Try.func56, Try.ntmps56
          go_wp2_with (first | (go_at_call 64; refine (HW.out _).mono ?_; rintro e w1 ⟨rfl, rfl⟩) | (go_at_call 52; refine HG.out.mono ?_; rintro e w1 ⟨rfl, rfl⟩))
          go_ret3
          exact ⟨none, 0, rfl, Or.inl rfl, Below.refl _ _⟩
        · have d4 : decide (m < (n : Int)) = false := decide_eq_false h2
          have d5 : decide (1000 < (n : Int)) = true := decide_eq_true (by omega)
          clear h1 h2
          go_enter Try.func56, Try.ntmps56
          go_wp2_with (first | (go_at_call 64; refine (HW.out _).mono ?_; rintro e w1 ⟨rfl, rfl⟩) | (go_at_call 52; refine HG.out.mono ?_; rintro e w1 ⟨rfl, rfl⟩))
          go_ret3
          exact ⟨none, 0, rfl, Or.inl rfl, Below.refl _ _⟩
      · rw [if_neg h1] at hE
        have d4 : decide (m < (n : Int)) = false := decide_eq_false (by omega)
        have d5 : decide (1000 < (n : Int)) = false := decide_eq_false (by omega)
        have hn2 : n ≤ 1000 := by omega
        -- what comes of the elements
        have HX : Hid (∀ i : Nat, i < n → (∀ j : Nat, j < i → getE s.data.toList (p + 2 + j * x) x = 0) → getE s.data.toList (p + 2 + i * x) x ≠ 0 → unrowE s.data.toList p x m = getE s.data.toList (p + 2 + i * x) x ∧ unrowL s.data.toList p x m = [] ∧ unrowT s.data.toList p x m = 0) := Lib.hid fun i hi hj hne => by
          have e1 : unrowE s.data.toList p x m = getE s.data.toList (p + 2 + i * x) x := by rw [hE, bad_first hi hne hj]
          obtain ⟨hl, ht⟩ := hbad (by rw [e1]; exact hne)
          exact ⟨e1, hl, ht⟩
        have HY : Hid ((∀ j : Nat, j < n → getE s.data.toList (p + 2 + j * x) x = 0) → unrowE s.data.toList p x m = 0 ∧ unrowL s.data.toList p x m = (List.range n).map (fun (i : Nat) => getV s.data.toList (p + 2 + i * x) x) ∧ unrowT s.data.toList p x m = p + 2 + n * x) := Lib.hid fun hj => by
          have e1 : unrowE s.data.toList p x m = 0 := by rw [hE, bad_none hj]
          refine ⟨e1, ?_, ?_⟩
          · unfold unrowL; rw [if_pos e1, hn, Int.toNat_natCast]
          · unfold unrowT; rw [if_pos e1, hn]
        have HQ : Hid (∀ (t : Int) (v : World), -9223372036854775808 ≤ t → t ≤ 9223372036854775807 → Calls Try.prog 52 #[.string s, .int .i64 t, .int .i64 x] v fun e w' => e = .returned (.tuple #[.int .i64 (getV s.data.toList t x), .int .i64 (getT s.data.toList t x), .int .i64 (getE s.data.toList t x)]) ∧ v = w') := Lib.hid fun t v h h' => rget_any s hs t x h h' v
        have HT : Hid (∀ t, getE s.data.toList t x = 0 → getT s.data.toList t x = t + x) := Lib.hid fun t h => by unfold getT; rw [if_pos h]
        have hp2 : 0 ≤ p ∧ p ≤ s.size := ⟨ha.2.1, ha.2.2.1⟩
        clear hbad hE hz ha hg hv b0 f1 hn h1
        generalize getE s.data.toList p 2 = E at *
        go_enter Try.func56, Try.ntmps56
        go_wp2_with (first | (go_at_call 64; refine (HW.out _).mono ?_; rintro e w1 ⟨rfl, rfl⟩) | (go_at_call 52; refine HG.out.mono ?_; rintro e w1 ⟨rfl, rfl⟩))
        go_loopw [12, 14, 15] (fun t' o' i' wr => ∃ k : Nat, i' = .int .i64 k ∧ t' = .int .i64 (p + 2 + k * x) ∧ k ≤ n ∧ wr.ownsRow w.heap.size 3 1 o' k (intCells ((List.range k).map (fun (i : Nat) => getV s.data.toList (p + 2 + i * x) x))) ∧ Hid (∀ j : Nat, j < k → getE s.data.toList (p + 2 + j * x) x = 0) ∧ Hid (Below w.heap.size w wr)) (fun _ _ i _ => n - (intOf i).toNat)
        case atStart => exact ⟨0, rfl, by simp, by omega, World.ownsRow_nil _ _ _ _, Lib.hid (fun j h => absurd h (by omega)), Lib.hid (Below.refl _ _)⟩
        case round =>
          obtain ⟨k, rfl, rfl, hk, ho, hall, hb⟩ := hrel
          by_cases hlt : k < n
          · have hkx : 0 ≤ (k : Int) * x ∧ (k : Int) * x ≤ 8000 := by
              have h9 := Int.mul_le_mul (show (k : Int) ≤ 1000 by omega) (show x ≤ 8 by omega) (by omega) (by omega)
              exact ⟨Int.mul_nonneg (by omega) (by omega), by omega⟩
            obtain ⟨T, hT⟩ : ∃ T, p + 2 + (k : Int) * x = T := ⟨_, rfl⟩
            have HQk := Lib.hid (HQ.out T wr (by omega) (by omega))
            have i1 : (k : Int) < (n : Int) := by omega
            by_cases he : getE s.data.toList T x = 0
            · have d6 : (getE s.data.toList T x != 0) = false := by rw [he]; rfl
              have hnx := HT.out T he
              have HA : Hid (∀ j : Nat, j < k + 1 → getE s.data.toList (p + 2 + j * x) x = 0) := Lib.hid fun j h => by
                rcases (by omega : j < k ∨ j = k) with g | g
                · exact hall.out j g
                · rw [g, hT]; exact he
              have HNX : Hid (T + x = p + 2 + ((k + 1 : Nat) : Int) * x) := Lib.hid (by rw [← hT, Int.natCast_add, Int.add_mul]; omega)
              have HVL : Hid (getV s.data.toList T x = (fun (i : Nat) => getV s.data.toList (p + 2 + i * x) x) k) := Lib.hid (by rw [← hT])
              rw [hnx] at HQk
              have HTT := Lib.hid hT
              rw [hT]
              clear he hnx hkx hT
              generalize getE s.data.toList T x = E2 at *
              go_wp2_with (first
                | (go_at_call 52; refine HQk.out.mono ?_; rintro e w1 ⟨rfl, rfl⟩)
                | (at_builtin; refine append_int rfl _ _ rfl w.heap.size k _ _ rfl ho _ rfl (by omega) hb.out.size ?_))
              intro u2 w2 ho2 hg2
              have hb2 : Below w.heap.size w w2 := (hb.out.alloc hb.out.size _).grown hg2 (by have := hb.out.size; simp; omega) (fun g hg => (ho.lt g hg).1)
              rw [intCells_more, HVL.out, range_more] at ho2
              have HB2 := Lib.hid hb2
              clear hb2 hg2 ho
              go_wp2_with fail
              go_roundw
              case rel => exact ⟨k + 1, by go_num, by rw [HNX.out], by omega, ho2, HA, HB2⟩
              case measure => simp [intOf]; omega
            · obtain ⟨e1, e2, e3⟩ := HX.out k hlt hall.out (by rw [hT]; exact he)
              rw [hT] at e1
              have d6 : (getE s.data.toList T x != 0) = true := by rw [bne_iff_ne]; exact he
              have H1 := Lib.hid e1
              have H2 := Lib.hid e2
              have H3 := Lib.hid e3
              rw [hT]
              clear he e1 e2 e3 hkx hT
              go_wp2_with (go_at_call 52; refine HQk.out.mono ?_; rintro e w1 ⟨rfl, rfl⟩)
              go_ret3
              exact ⟨none, 0, by rw [H1.out, H2.out, H3.out]; rfl, by rw [H2.out]; exact Or.inl rfl, hb.out⟩
          · obtain rfl : k = n := by omega
            obtain ⟨e1, e2, e3⟩ := HY.out hall.out
            have H1 := Lib.hid e1
            have H3 := Lib.hid e3
            rw [← e2] at ho
            have hl : (unrowL s.data.toList p x m).length = k := by rw [e2]; simp
            rw [← hl] at ho
            obtain ⟨a, c, hv, hI⟩ := ints_own_new ho
            subst hv
            have HI := Lib.hid hI
            clear e1 e2 e3 hl hI ho
            go_wp2
            go_ret3
            exact ⟨a, c, by rw [H1.out, H3.out]; rfl, HI.out, hb.out⟩
    · have hgd : (getE s.data.toList p 2 != 0) = true := by rw [bne_iff_ne]; exact hg
      have he : unrowE s.data.toList p x m = getE s.data.toList p 2 := by unfold unrowE; rw [hz, if_pos ⟨ha.1, ha.2.1, ha.2.2.1, ha.2.2.2⟩, if_neg hg]
      obtain ⟨hl, ht⟩ := hbad (by rw [he]; exact hg)
      rw [he, hl, ht]
      clear hbad he hl ht hz ha hg
      go_enter Try.func56, Try.ntmps56
      go_wp2_with (first | (go_at_call 64; refine (HW.out _).mono ?_; rintro e w1 ⟨rfl, rfl⟩) | (go_at_call 52; refine HG.out.mono ?_; rintro e w1 ⟨rfl, rfl⟩))
      go_ret3
      exact ⟨none, 0, rfl, Or.inl rfl, Below.refl _ _⟩
  · have he : unrowE s.data.toList p x m = 2 := by unfold unrowE; rw [hz, if_neg ha]
    obtain ⟨hl, ht⟩ := hbad (by omega)
    rw [he, hl, ht]
    clear hbad he hl ht hz HG
    by_cases hw : wideW x
    · rw [decide_eq_true hw] at HW
      by_cases h2 : p < 0
      · have d2 : decide (p < 0) = true := decide_eq_true h2
        clear ha h2
        go_enter Try.func56, Try.ntmps56
        go_wp2_with (go_at_call 64; refine (HW.out _).mono ?_; rintro e w1 ⟨rfl, rfl⟩)
        go_ret3
        exact ⟨none, 0, rfl, Or.inl rfl, Below.refl _ _⟩
      · have d2 : decide (p < 0) = false := decide_eq_false h2
        by_cases h3 : (s.size : Int) < p
        · have d3 : decide ((s.size : Int) < p) = true := decide_eq_true h3
          clear ha h2 h3
          go_enter Try.func56, Try.ntmps56
          go_wp2_with (go_at_call 64; refine (HW.out _).mono ?_; rintro e w1 ⟨rfl, rfl⟩)
          go_ret3
          exact ⟨none, 0, rfl, Or.inl rfl, Below.refl _ _⟩
        · have d3 : decide ((s.size : Int) < p) = false := decide_eq_false h3
          have d1 : decide (m < 0) = true := decide_eq_true (by
            rcases (by omega : m < 0 ∨ 0 ≤ m) with h4 | h4
            · exact h4
            · exact absurd ⟨hw, by omega, by omega, h4⟩ ha)
          clear ha h2 h3
          go_enter Try.func56, Try.ntmps56
          go_wp2_with (go_at_call 64; refine (HW.out _).mono ?_; rintro e w1 ⟨rfl, rfl⟩)
          go_ret3
          exact ⟨none, 0, rfl, Or.inl rfl, Below.refl _ _⟩
    · rw [decide_eq_false hw] at HW
      clear ha
      go_enter Try.func56, Try.ntmps56
      go_wp2_with (go_at_call 64; refine (HW.out _).mono ?_; rintro e w1 ⟨rfl, rfl⟩)
      go_ret3
      exact ⟨none, 0, rfl, Or.inl rfl, Below.refl _ _⟩
theorem runrow_any (s : ByteArray) (hs : s.size ≤ 4611686018427387904) (p x m : Int) (hp0 : -9223372036854775808 ≤ p) (hp1 : p ≤ 9223372036854775807) (w : World) :
    Calls Try.prog 56 #[.string s, .int .i64 p, .int .i64 x, .int .i64 m] w fun e w' => ∃ a c, e = .returned (.tuple #[.slice a (unrowL s.data.toList p x m).length c, .int .i64 (unrowT s.data.toList p x m), .int .i64 (unrowE s.data.toList p x m)]) ∧ Ints w'.heap.size w' a (unrowL s.data.toList p x m) ∧ Below w.heap.size w w' :=
  (runrow_new s hs p x m hp0 hp1 w).mono fun _ _ ⟨a, c, he, hi, hb⟩ => ⟨a, c, he, hi.ints, hb⟩
end Go.Proofs.Ytkflpkcggjpbfaa
