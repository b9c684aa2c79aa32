/- The document's own Lay and Take, for every text and place, in every world. -/
import Derived.Test.YtkflpkcggjpbfaaBits5
namespace Go.Proofs.Ytkflpkcggjpbfaa
open Go.RowKit

/-- A text of two bytes, made of a literal of two bytes in the newest block. -/
theorem conv_two5 (W : World) (x y : Int) : (convert 88 9 (.slice (some ⟨W.heap.size, 0, none⟩) 2 2)).run Try.prog (W.alloc (.cells #[.int .u8 x, .int .u8 y] 5)) = .ok (.string ⟨#[UInt8.ofNat x.toNat, UInt8.ofNat y.toNat]⟩) (W.alloc (.cells #[.int .u8 x, .int .u8 y] 5)) := by
  rw [run_convert_bytes_string (P := Try.prog) _ 88 9 5 _ _ _ Try.underlying88 Try.underlying5 Try.underlying9]
  have hl : (loadCells ⟨W.heap.size, 0, none⟩ 2).run Try.prog (W.alloc (.cells #[.int .u8 x, .int .u8 y] 5)) = .ok ([x, y].map (Value.int .u8)).toArray (W.alloc (.cells #[.int .u8 x, .int .u8 y] 5)) :=
    run_loadCells_list (P := Try.prog) _ ⟨W.heap.size, 0, none⟩ ([x, y].map (Value.int .u8)) (fun j v hj => by
      match j, hj with
      | 0, hj => simp at hj; subst hj; simp [Addr.add]
      | 1, hj => simp at hj; subst hj; simp [Addr.add])
  exact (run_bytesToString (P := Try.prog) _ _ 2 2 [x, y] hl).trans rfl

set_option maxHeartbeats 1000000 in
theorem rlay_any (s : ByteArray) (hs : s.size ≤ 4611686018427387904) (w : World) :
    Calls Try.prog 21 #[.string s] w fun e w' => ∃ t : ByteArray, e = .returned (.tuple #[.string t, .int .i64 (layE s.data.toList)]) ∧ Hid (t.data.toList = layL s.data.toList) ∧ Below w.heap.size w w' := by
  have hz : s.data.toList.length = s.size := by simp
  by_cases hb : s.size ≤ 65535
  · have he : layE s.data.toList = 0 := by unfold layE; rw [hz, if_pos hb]
    have HL : Hid ((⟨#[UInt8.ofNat (s.size / 256), UInt8.ofNat (s.size % 256)]⟩ ++ s : ByteArray).data.toList = layL s.data.toList) := Lib.hid (by
      unfold layL
      rw [if_pos he, hz, show be 2 s.size = [UInt8.ofNat (s.size / 256 % 256), UInt8.ofNat (s.size % 256)] from rfl, Nat.mod_eq_of_lt (show s.size / 256 < 256 by omega)]
      simp)
    have hd : decide ((65535 : Int) < (s.size : Int)) = false := decide_eq_false (by omega)
    have hcv := conv_two5
    have hsz : ¬ 9223372036854775807 < 2 + s.size := by omega
    have hu : IntKind.u8.wrap ((s.size : Int) / 256) = (s.size : Int) / 256 := IntWalk.u8_in _ (by omega)
    rw [he]
    clear he hb hz
    go_enter Try.func21, Try.ntmps21
    go_wp2
    go_ret2
    exact ⟨_, rfl, HL, Below.alloc (Below.refl _ _) (Nat.le_refl _) _⟩
  · have he : layE s.data.toList = 3 := by unfold layE; rw [hz, if_neg hb]
    have hl : layL s.data.toList = [] := by unfold layL; rw [if_neg (by omega)]
    have hd : decide ((65535 : Int) < (s.size : Int)) = true := decide_eq_true (by omega)
    rw [he, hl]
    clear hb he hl hz
    go_enter Try.func21, Try.ntmps21
    go_wp2
    go_ret2
    exact ⟨_, rfl, Lib.hid rfl, Below.refl _ _⟩

theorem extract_list (s : ByteArray) (a b : Nat) : (s.extract a b).data.toList = (s.data.toList.drop a).take (b - a) := by
  rw [ByteArray.data_extract, Array.toList_extract, List.extract_eq_take_drop]

set_option maxHeartbeats 1000000 in
theorem rtake_any (s : ByteArray) (hs : s.size ≤ 4611686018427387904) (p m : Int) (hp0 : -9223372036854775808 ≤ p) (hp1 : p ≤ 9223372036854775807) (w : World) :
    Calls Try.prog 54 #[.string s, .int .i64 p, .int .i64 m] w fun e w' => ∃ t : ByteArray, e = .returned (.tuple #[.string t, .int .i64 (takeT s.data.toList p m), .int .i64 (takeE s.data.toList p m)]) ∧ Hid (t.data.toList = takeL s.data.toList p m) ∧ w = w' := by
  have HG := Lib.hid (rget_any s hs p 2 hp0 hp1 w)
  have hz : s.data.toList.length = s.size := by simp
  have hbad : takeE s.data.toList p m ≠ 0 → takeL s.data.toList p m = [] ∧ takeT s.data.toList p m = 0 := fun h => by unfold takeL takeT; rw [if_neg h, if_neg h]; exact ⟨rfl, rfl⟩
  by_cases ha : 0 ≤ m ∧ 0 ≤ p ∧ p ≤ s.size
  · have d1 : decide (m < 0) = false := decide_eq_false (by omega)
    have d2 : decide (p < 0) = false := decide_eq_false (by omega)
    have d3 : decide ((s.size : Int) < p) = false := decide_eq_false (by omega)
    by_cases hg : getE s.data.toList p 2 = 0
    · have hv : getT s.data.toList p 2 = p + 2 := by unfold getT; rw [if_pos hg]
      obtain ⟨b0, _, _, b3⟩ := get_bound hg
      have b4 := b3 rfl
      obtain ⟨_, _, f1, _⟩ := get_fine hg
      rw [hz] at f1
      have hgd : (getE s.data.toList p 2 != 0) = false := by rw [hg]; rfl
      rw [hv] at HG
      by_cases h1 : m < getV s.data.toList p 2
      · have he : takeE s.data.toList p m = 3 := by unfold takeE; rw [hz, if_pos ⟨ha.1, ha.2.1, ha.2.2⟩, if_pos hg, if_pos h1]
        obtain ⟨hl, ht⟩ := hbad (by omega)
        have d4 : decide (m < getV s.data.toList p 2) = true := decide_eq_true h1
        rw [he, hl, ht]
        clear hbad he hl ht hz ha hg hv b0 b3 b4 f1 h1
        go_enter Try.func54, Try.ntmps54
        go_wp2_with (go_at_call 52; refine HG.out.mono ?_; rintro e w1 ⟨rfl, rfl⟩)
        go_ret3
        exact ⟨_, rfl, Lib.hid rfl, rfl⟩
      · have d4 : decide (m < getV s.data.toList p 2) = false := decide_eq_false h1
        by_cases h2 : (s.size : Int) < p + 2 + getV s.data.toList p 2
        · have he : takeE s.data.toList p m = 4 := by unfold takeE; rw [hz, if_pos ⟨ha.1, ha.2.1, ha.2.2⟩, if_pos hg, if_neg h1, if_pos h2]
          obtain ⟨hl, ht⟩ := hbad (by omega)
          have d5 : decide ((s.size : Int) < p + 2 + getV s.data.toList p 2) = true := decide_eq_true h2
          rw [he, hl, ht]
          clear hbad he hl ht hz ha hg hv b3 h1 h2
          generalize getV s.data.toList p 2 = V at *
          generalize getE s.data.toList p 2 = E at *
          go_enter Try.func54, Try.ntmps54
          go_wp2_with (go_at_call 52; refine HG.out.mono ?_; rintro e w1 ⟨rfl, rfl⟩)
          go_ret3
          exact ⟨_, rfl, Lib.hid rfl, rfl⟩
        · have he : takeE s.data.toList p m = 0 := by unfold takeE; rw [hz, if_pos ⟨ha.1, ha.2.1, ha.2.2⟩, if_pos hg, if_neg h1, if_neg h2]
          have ht : takeT s.data.toList p m = p + 2 + getV s.data.toList p 2 := by unfold takeT; rw [if_pos he]
          obtain ⟨q, rfl⟩ : ∃ q : Nat, p = q := ⟨p.toNat, by omega⟩
          obtain ⟨V, hV⟩ : ∃ V : Nat, getV s.data.toList (q : Int) 2 = V := ⟨(getV s.data.toList (q : Int) 2).toNat, by omega⟩
          have HL : Hid ((s.extract (q + 2) (q + 2 + V)).data.toList = takeL s.data.toList (q : Int) m) := Lib.hid (by
            unfold takeL
            rw [if_pos he, hV, extract_list, Int.toNat_natCast, show ((q : Int) + 2).toNat = q + 2 by omega, show q + 2 + V - (q + 2) = V by omega])
          rw [hV] at h1 h2 b0 b4 d4 HG ht
          have d5 : decide ((s.size : Int) < (q : Int) + 2 + (V : Int)) = false := decide_eq_false h2
          have hin : q + 2 + V ≤ s.size := by omega
          rw [he, ht]
          generalize takeL s.data.toList (q : Int) m = LL at *
          generalize getE s.data.toList (q : Int) 2 = E at *
          clear hbad he ht hz ha hg hv b3 f1 h1 h2 hV
          go_enter Try.func54, Try.ntmps54
          go_wp2_with (go_at_call 52; refine HG.out.mono ?_; rintro e w1 ⟨rfl, rfl⟩)
          go_ret3
          exact ⟨_, rfl, HL, rfl⟩
    · have hgd : (getE s.data.toList p 2 != 0) = true := by rw [bne_iff_ne]; exact hg
      have he : takeE s.data.toList p m = getE s.data.toList p 2 := by unfold takeE; rw [hz, if_pos ⟨ha.1, ha.2.1, ha.2.2⟩, if_neg hg]
      obtain ⟨hl, ht⟩ := hbad (by rw [he]; exact hg)
      rw [he, hl, ht]
      clear hbad he hl ht hz ha hg
      go_enter Try.func54, Try.ntmps54
      go_wp2_with (go_at_call 52; refine HG.out.mono ?_; rintro e w1 ⟨rfl, rfl⟩)
      go_ret3
      exact ⟨_, rfl, Lib.hid rfl, rfl⟩
  · have he : takeE s.data.toList p m = 2 := by unfold takeE; rw [hz, if_neg (by omega)]
    obtain ⟨hl, ht⟩ := hbad (by omega)
    rw [he, hl, ht]
    clear hbad he hl ht hz
    by_cases h1 : m < 0
    · have d1 : decide (m < 0) = true := decide_eq_true h1
      clear ha h1
      go_enter Try.func54, Try.ntmps54
      go_wp2
      go_ret3
      exact ⟨_, rfl, Lib.hid rfl, rfl⟩
    · have d1 : decide (m < 0) = false := decide_eq_false h1
      by_cases h2 : p < 0
      · have d2 : decide (p < 0) = true := decide_eq_true h2
        clear ha h1 h2
        go_enter Try.func54, Try.ntmps54
        go_wp2
        go_ret3
        exact ⟨_, rfl, Lib.hid rfl, rfl⟩
      · have d2 : decide (p < 0) = false := decide_eq_false h2
        have d3 : decide ((s.size : Int) < p) = true := decide_eq_true (by omega)
        clear ha h1 h2
        go_enter Try.func54, Try.ntmps54
        go_wp2
        go_ret3
        exact ⟨_, rfl, Lib.hid rfl, rfl⟩
end Go.Proofs.Ytkflpkcggjpbfaa
