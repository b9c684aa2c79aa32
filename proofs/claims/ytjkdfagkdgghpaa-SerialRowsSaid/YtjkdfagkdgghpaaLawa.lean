/- The walks of the laws SerialRunes, SerialTexts and SerialRows: each returns true in every world and leaves what lay there. -/
import Derived.Test.YtjkdfagkdgghpaaAwake
import Derived.SliceStrings
import Derived.ChangeShapes
namespace Go.Proofs.Ytjkdfagkdgghpaa
open Go.RowKit

theorem texts_of {H : Type} {enc : TypeId × Value → H} {base : Nat} {held : Bool} {t e : TypeId} {fuel : Nat} {a : Option Addr} {len cap : Nat} {W : World} {x : DataW H × List MemPlace} (ht : Try.prog.underlying t = some (.slice e)) (he : Try.prog.underlying e = some .string) (hc : Try.prog.cellsOf e = 1)
    (h : DataW.trod enc Try.prog W base (fun _ => true) held fuel t (Value.slice a len cap).cells.toList = some x) :
    ∃ xs : List ByteArray, xs.length = len ∧ xs.length ≤ maxLen ∧ Texts W.heap.size W a xs := by
  rcases Go.ChangeShapes.open_strings ht he hc h with ⟨hcs, _⟩ | ⟨y, l, c, ss, hcs, _, hl, hm, hz, _, hcell, _⟩
  · simp [Value.cells] at hcs
    obtain ⟨rfl, rfl, rfl⟩ := hcs
    exact ⟨[], rfl, by simp, Or.inl rfl⟩
  · simp [Value.cells] at hcs
    obtain ⟨rfl, rfl, rfl⟩ := hcs
    have hss : ss.length = cap := by simpa using hz
    refine ⟨ss.take len, by simp; omega, by simp; omega, ?_⟩
    rcases Nat.eq_zero_or_pos len with h0 | h0
    · subst h0; exact Or.inl (by simp)
    · obtain ⟨b, off, spot⟩ := y
      have hc0 := hcell 0 (by omega)
      have hspot : spot = none := by simpa [Addr.add] using World.cell?_spot hc0
      subst hspot
      refine Or.inr ⟨b, off, rfl, ?_, fun j hj => ?_⟩
      · rcases Nat.lt_or_ge b W.heap.size with h' | h'
        · exact h'
        · rw [World.cell?] at hc0
          simp [Addr.add, Array.getElem?_eq_none h'] at hc0
      · have hj' : j < len := by simp at hj; omega
        have h1 := hcell j (by omega)
        have e1 : textAt (ss.take len) j = ss.getD j ByteArray.empty := by
          unfold textAt
          simp [List.getD_eq_getElem?_getD, hj']
        rw [e1, ← h1]
        rcases Nat.eq_zero_or_pos j with hj0 | hj0
        · subst hj0; simp [Addr.add]
        · simp [Addr.add, Nat.ne_of_gt hj0]

set_option maxHeartbeats 1000000 in
theorem serialRunes_walk (w : World) (a0 : Int) (w0 : (Lit.int .i32 a0).wf = true) :
    Calls Try.prog 3 #[.int .i32 a0] w fun e w' => e = .returned (.bool true) ∧ Below w.heap.size w w' := by
  have W0 := Lib.hid w0
  clear w0
  go_enter Try.func3, Try.ntmps3
  go_wp2_with (first
    | (go_at_call 8; refine (class_any _ _).mono ?_; rintro e w1 ⟨rfl, rfl⟩)
    | (go_at_call 10; refine (value_any _ W0.out _).mono ?_; rintro e w1 ⟨rfl, rfl⟩)
    | (go_at_call 9; refine (rclass_any _ _).mono ?_; rintro e w1 ⟨rfl, rfl⟩)
    | (go_at_call 11; refine (rvalue_any _ _).mono ?_; rintro e w1 ⟨rfl, rfl⟩)
    | (go_at_call 12; refine (awake_any _).mono ?_; rintro e w1 ⟨rfl, b1⟩))
  go_ret
  exact ⟨rfl, b1⟩

set_option maxHeartbeats 2000000 in
theorem serialTexts_walk (w : World) (s : ByteArray) (_hs : s.size ≤ maxLen) :
    Calls Try.prog 4 #[.string s] w fun e w' => e = .returned (.bool true) ∧ Below w.heap.size w w' := by
  have hb := Below.refl w.heap.size w
  by_cases h : (200 : Int) < (s.size : Int)
  · go_enter Try.func4, Try.ntmps4
    go_wp2_with (go_at_call 12; refine (awake_any _).mono ?_; rintro e w1 ⟨rfl, b1⟩; replace hb := hb.trans (b1.mono hb.size))
    go_ret
    exact ⟨rfl, hb⟩
  · go_enter Try.func4, Try.ntmps4
    go_wp2_with (first
      | (go_at_call 13; refine (fold_any _ _).mono ?_; rintro e w1 ⟨rfl, b1⟩; replace hb := hb.trans (b1.mono hb.size))
      | (go_at_call 14; refine (rfold_any _ _).mono ?_; rintro e w1 ⟨rfl, b1⟩; replace hb := hb.trans (b1.mono hb.size))
      | (go_at_call 15; refine (mark_any _ _).mono ?_; rintro e w1 ⟨rfl, b1⟩; replace hb := hb.trans (b1.mono hb.size))
      | (go_at_call 16; refine (rmark_any _ _).mono ?_; rintro e w1 ⟨rfl, b1⟩; replace hb := hb.trans (b1.mono hb.size))
      | (go_at_call 17; refine (check_any _ _).mono ?_; rintro e w1 ⟨rfl, b1⟩; replace hb := hb.trans (b1.mono hb.size))
      | (go_at_call 18; refine (rcheck_any _ _).mono ?_; rintro e w1 ⟨rfl, b1⟩; replace hb := hb.trans (b1.mono hb.size))
      | (go_at_call 12; refine (awake_any _).mono ?_; rintro e w1 ⟨rfl, b1⟩; replace hb := hb.trans (b1.mono hb.size)))
    go_ret
    exact ⟨rfl, hb⟩

set_option maxHeartbeats 2000000 in
theorem serialRows_walk (w : World) (a : Option Addr) (cap : Nat) (xs : List ByteArray) (hm : xs.length ≤ maxLen) (ht : Texts w.heap.size w a xs) (s : ByteArray) (_hs : s.size ≤ maxLen) :
    Calls Try.prog 5 #[.slice a xs.length cap, .string s] w fun e w' => e = .returned (.bool true) ∧ Below w.heap.size w w' := by
  have hb := Below.refl w.heap.size w
  unfold maxLen at hm
  cases hf : fewB xs with
  | false =>
    go_enter Try.func5, Try.ntmps5
    go_wp2_with (first | (go_at_call 19; refine (few_any _ _ _ _ hm ht).mono ?_; rintro e w1 ⟨rfl, rfl⟩) | (go_at_call 12; refine (awake_any _).mono ?_; rintro e w1 ⟨rfl, b1⟩; replace hb := hb.trans (b1.mono hb.size)))
    go_ret
    exact ⟨rfl, hb⟩
  | true =>
    have hn : xs.length ≤ 4611686018427387904 := by
      unfold fewB at hf
      split at hf
      · cases hf
      · omega
    by_cases h : (100 : Int) < (s.size : Int)
    · go_enter Try.func5, Try.ntmps5
      go_wp2_with (first | (go_at_call 19; refine (few_any _ _ _ _ hm ht).mono ?_; rintro e w1 ⟨rfl, rfl⟩) | (go_at_call 12; refine (awake_any _).mono ?_; rintro e w1 ⟨rfl, b1⟩; replace hb := hb.trans (b1.mono hb.size)))
      go_ret
      exact ⟨rfl, hb⟩
    · go_enter Try.func5, Try.ntmps5
      go_wp2_with (first
      | (go_at_call 19; refine (few_any _ _ _ _ hm ht).mono ?_; rintro e w1 ⟨rfl, rfl⟩)
      | (go_at_call 20; refine (find_any _ _ _ _ _ hn ((ht.below hb).up hb.size)).mono ?_; rintro e w1 ⟨rfl, b1⟩; replace hb := hb.trans (b1.mono hb.size))
      | (go_at_call 21; refine (rfind_any _ _ _ _ _ hn ((ht.below hb).up hb.size)).mono ?_; rintro e w1 ⟨rfl, b1⟩; replace hb := hb.trans (b1.mono hb.size))
      | (go_at_call 22; refine (row_any _ _ _ _ hn ((ht.below hb).up hb.size)).mono ?_; rintro e w1 ⟨rfl, b1⟩; replace hb := hb.trans (b1.mono hb.size))
      | (go_at_call 23; refine (rrow_any _ _ _ _ hn ((ht.below hb).up hb.size)).mono ?_; rintro e w1 ⟨rfl, b1⟩; replace hb := hb.trans (b1.mono hb.size))
      | (go_at_call 12; refine (awake_any _).mono ?_; rintro e w1 ⟨rfl, b1⟩; replace hb := hb.trans (b1.mono hb.size)))
      go_ret
      exact ⟨rfl, hb⟩
end Go.Proofs.Ytjkdfagkdgghpaa
