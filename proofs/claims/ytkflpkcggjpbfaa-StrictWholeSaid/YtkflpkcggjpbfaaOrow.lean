/- The program's Row, for every row of numbers, in every world. -/
import Derived.Test.YtkflpkcggjpbfaaOlay
namespace Go.Proofs.Ytkflpkcggjpbfaa
open Go.RowKit

/-- What Row says, by encode: where no number is wrong. -/
theorem row_enc {x : Int} {l : List Int} (hw : wideW x) (hl : l.length ≤ 1000) : rowE x l = encE x l ∧ rowL x l = if encE x l = 0 then be 2 l.length ++ flat x.toNat l else [] := by
  have h1 : rowE x l = encE x l := by unfold rowE encE; rw [if_pos hw, if_neg (by omega)]
  exact ⟨h1, by unfold rowL flat; rw [h1]⟩
theorem enc_two (x : Int) (l : List Int) : encE x l = 0 ∨ encE x l = 8 := by
  unfold encE
  split
  · exact Or.inl rfl
  · exact Or.inr rfl

set_option maxHeartbeats 2000000 in
theorem orow_any (a : Option Addr) (cap : Nat) (x : Int) (l : List Int) (hx : ∀ y ∈ l, y ≤ 9223372036854775807) (hl : l.length ≤ 4611686018427387904) (w : World) (hi : Ints w.heap.size w a l) :
    Calls Try.prog 20 #[.int .i64 x, .slice a l.length cap] w fun e w' => ∃ t : ByteArray, e = .returned (.tuple #[.string t, .int .i64 (rowE x l)]) ∧ Hid (t.data.toList = rowL x l) ∧ Below w.heap.size w w' := by
  have HW : Hid (∀ v, Calls Try.prog 47 #[.int .i64 x] v fun e w' => e = .returned (.bool (decide (wideW x))) ∧ v = w') := Lib.hid fun v => oiswidth_any x v
  have hbad : rowE x l ≠ 0 → rowL x l = [] := fun h => by unfold rowL; rw [if_neg h]
  by_cases hw : wideW x
  · rw [decide_eq_true hw] at HW
    obtain ⟨w1, w2, w3⟩ := wide_nat hw
    by_cases h1 : 1000 < l.length
    · have he : rowE x l = 3 := by unfold rowE; rw [if_pos hw, if_pos h1]
      have hr := hbad (by omega)
      have d1 : decide ((1000 : Int) < (l.length : Int)) = true := decide_eq_true (by omega)
      rw [he, hr]
      clear he hr hbad h1 hi
      go_enter Try.func20, Try.ntmps20
      go_wp2_with (go_at_call 47; refine (HW.out _).mono ?_; rintro e w1 ⟨rfl, rfl⟩)
      go_ret2
      exact ⟨_, rfl, Lib.hid rfl, Below.refl _ _⟩
    · have d1 : decide ((1000 : Int) < (l.length : Int)) = false := decide_eq_false (by omega)
      have HX := Lib.hid (oenc_any a cap x l hw hx (by omega) w hi)
      have HF := Lib.hid (row_enc (x := x) (l := l) hw (by omega))
      have HL : Hid (encL x l = if encE x l = 0 then flat x.toNat l else []) := Lib.hid rfl
      have HB : Hid ((flat x.toNat l).length ≤ 8000) := Lib.hid (by
        rw [flat_len]
        have h9 := Nat.mul_le_mul (show l.length ≤ 1000 by omega) (show x.toNat ≤ 8 by omega)
        omega)
      obtain ⟨l1, l2⟩ := len_put (n := l.length) (by omega)
      have HE : Hid (∀ (w : World) (t : TypeId), Calls Try.prog 48 #[.int .i64 2, .slice (some ⟨w.heap.size, 0, none⟩) 1 1] (w.alloc (.cells #[.int .i64 l.length] t)) fun e w' => ∃ u : ByteArray, e = .returned (.tuple #[.string u, .int .i64 0]) ∧ Hid (u.data.toList = be 2 l.length) ∧ Below w.heap.size w w') := Lib.hid fun w t => by
        have h := oenc_lit (l.length : Int) 2 two_wide (by omega) w t
        rw [l1, l2] at h
        exact h
      rcases enc_two x l with h0 | h0
      · rw [h0] at HX HF HL
        have HS : Hid (∀ u v : ByteArray, u.data.toList = be 2 l.length → v.data.toList = encL x l → ¬ 9223372036854775807 < u.size + v.size) := Lib.hid fun u v hu hv => by
          have h3 := congrArg List.length hu
          have h4 := congrArg List.length hv
          rw [be_len] at h3
          rw [HL.out, if_pos rfl] at h4
          have h5 : u.size = 2 := by simpa using h3
          have h6 : v.size = (flat x.toNat l).length := by simpa using h4
          have := HB.out
          omega
        have HR : Hid (rowL x l = be 2 l.length ++ encL x l) := Lib.hid (by rw [HF.out.2, HL.out, if_pos rfl, if_pos rfl])
        rw [HF.out.1]
        clear HF HL HB hbad h1 hi l1 l2 h0 w1 w2 w3 hw
        go_enter Try.func20, Try.ntmps20
        go_upto_region 8 with (first
          | (go_at_call 47; refine (HW.out _).mono ?_; rintro e w1 ⟨rfl, rfl⟩)
          | (go_at_call 48; refine HX.out.mono ?_; rintro e w1 ⟨v, rfl, hv, b1⟩))
        go_wp2_with (go_at_call 48; refine (HE.out _ _).mono ?_; rintro e w2 ⟨u, rfl, hu, b2⟩; have hsz := HS.out u v hu.out hv.out)
        go_ret2
        exact ⟨_, rfl, Lib.hid (by rw [HR.out, ← hu.out, ← hv.out]; simp), b1.trans (b2.mono b1.size)⟩
      · rw [h0] at HX HF
        have hr := hbad (by rw [HF.out.1]; decide)
        rw [HF.out.1, hr]
        clear hbad h1 hi l1 l2 h0 w1 w2 w3 hw hr
        go_enter Try.func20, Try.ntmps20
        go_wp2_with (first
          | (go_at_call 47; refine (HW.out _).mono ?_; rintro e w1 ⟨rfl, rfl⟩)
          | (go_at_call 48; refine HX.out.mono ?_; rintro e w1 ⟨v, rfl, hv, b1⟩))
        go_ret2
        exact ⟨_, rfl, Lib.hid rfl, b1⟩
  · have he : rowE x l = 2 := by unfold rowE; rw [if_neg hw]
    have hr := hbad (by omega)
    rw [decide_eq_false hw] at HW
    rw [he, hr]
    clear he hr hbad hi
    go_enter Try.func20, Try.ntmps20
    go_wp2_with (go_at_call 47; refine (HW.out _).mono ?_; rintro e w1 ⟨rfl, rfl⟩)
    go_ret2
    exact ⟨_, rfl, Lib.hid rfl, Below.refl _ _⟩
end Go.Proofs.Ytkflpkcggjpbfaa
