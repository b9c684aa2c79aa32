/- The text builder's WriteString by hand; the program's number of sectors, its limits, the padding, the sectors divided and joined. -/
import Derived.Test.YtcbmecpeockdeaaGreatDoorCopied
import Derived.Test.YtcbmecpeockdeaaGreatDoorMRef10
import Derived.Test.YtcbmecpeockdeaaGreatDoorMRow5
import Derived.Lib.Repeat
namespace Go.Proofs.YtcbmecpeockdeaaGreatDoor
open Go.RowKit

set_option maxRecDepth 100000 in
set_option maxHeartbeats 2000000 in
theorem str_written (B b : Nat) (bs : List Value) (s : ByteArray) (w : World) (h : Lib.IsBuilderF 135 5 B b bs w) (hlen : bs.length + s.size ≤ 140737488355328) (hs : 0 < s.size) (hBw : B ≤ w.heap.size) :
    Calls Tryz.prog 84 #[.pointer (some ⟨b, 0, none⟩), .string s] w fun e w' => e = .returned (.tuple #[.int .i64 s.size, .nilIface]) ∧ (Lib.IsBuilderF 135 5 B b (bs ++ Lib.byteCells s.data.toList) w' ∧ Below B w w') := by
  obtain ⟨i0, hi, hz0, hz1, hz2⟩ := info_parts infoByte8
  go_enter Tryz.func84, Tryz.ntmps84
  go_wp2_with (go_at_call 107; refine (copied_any B b bs _ h).mono ?_)
  rintro e w1 ⟨rfl, h1, hb1, hk1⟩
  obtain ⟨hB, v, hbk, hown, hne⟩ := h1
  have hsz := hb1.size
  have hlt : b < w1.heap.size := (Array.getElem?_eq_some_iff.1 hbk).1
  have c0 : w1.cell? ⟨b, 0, none⟩ = some (.pointer (some ⟨b, 0, none⟩)) := by rw [Lib.cell_of_heap hbk]; rfl
  have c1 : w1.cell? ⟨b, 1, none⟩ = some v := by rw [Lib.cell_of_heap hbk]; rfl
  go_wp2_with (at_builtin; refine Lib.wpList_append_own_stringF _ rfl _ _ 51 9 rfl B 5 i0 Tryz.underlying51 Tryz.underlying9 hi hz0 hz1 hz2 _ _ _ rfl hown s rfl ?c3 ?c4 ?c5 ?_)
  case c3 => unfold maxLen; omega
  case c4 => omega
  case c5 => omega
  intro v' w2 hown' hgrow _
  have hb2 : w2.heap[b]? = some (.cells #[.pointer (some ⟨b, 0, none⟩), v] 135 (0, 0)) := by
    rw [hgrow.block b hlt (fun e => hne e.symm)]
    exact hbk
  have d0 : w2.cell? ⟨b, 0, none⟩ = some (.pointer (some ⟨b, 0, none⟩)) := by rw [Lib.cell_of_heap hb2]; rfl
  have d1 : w2.cell? ⟨b, 1, none⟩ = some v := by rw [Lib.cell_of_heap hb2]; rfl
  have f1 : w2.frozen? ⟨b, 1, none⟩ = false := Lib.frozen_of_heap hb2 1
  obtain ⟨g, cap, rfl⟩ : ∃ g cap, v' = .slice (some ⟨g, 0, none⟩) (bs.length + s.size) cap := by
    rcases hown'.2 with ⟨_, h0⟩ | ⟨g, cap, cur, fz, hv, _⟩
    · omega
    · exact ⟨g, cap, hv⟩
  go_wp2
  go_ret2
  refine ⟨rfl, Or.inr (Lib.BuilderAtF.put (T := 135) (e := 5) hB hb2 (bs' := bs ++ Lib.byteCells s.data.toList) (by
    have e : (bs ++ Lib.byteCells s.data.toList).length = bs.length + s.size := by rw [List.length_append, Lib.byteCells_length, ← text_size]
    rw [e]; exact hown') (by decide)), ?_⟩
  exact (hb1.grown hgrow (by omega) (fun k hk => (hown.lt k hk).1)).setCell (p := ⟨b, 1, none⟩) hB _
theorem psecof_any (n : Nat) (hn : n ≤ 281474976710656) (w : World) :
    Calls Tryz.prog 63 #[.int .i64 n] w fun e w' => e = .returned (.int .i64 (nsec n : Nat)) ∧ w = w' := by
  have HS : Hid ((20 + (n : Int) + 63 - 1) / 63 = (nsec n : Nat)) := Lib.hid (by unfold nsec; omega)
  have i1 : IntKind.i64.wrap (20 + (n : Int)) = 20 + (n : Int) := IntWalk.i64_in _ (by omega)
  have i2 : IntKind.i64.wrap (20 + (n : Int) + 63) = 20 + (n : Int) + 63 := IntWalk.i64_in _ (by omega)
  have i3 : IntKind.i64.wrap (20 + (n : Int) + 63 - 1) = 20 + (n : Int) + 63 - 1 := IntWalk.i64_in _ (by omega)
  have i4 : IntKind.i64.wrap ((nsec n : Nat) : Int) = ((nsec n : Nat) : Int) := IntWalk.i64_in _ (by unfold nsec; omega)
  have i5 : (20 + (n : Int) + 63 - 1).tdiv 63 = ((nsec n : Nat) : Int) := by rw [Int.tdiv_eq_ediv_of_nonneg (by omega)]; exact HS.out
  clear hn
  go_enter Tryz.func63, Tryz.ntmps63
  go_wp2
  go_ret
  refine ⟨?_, rfl⟩
  first | rfl | (rw [← HS.out]; rfl)
theorem psects_any (t : ByteArray) (hn : t.size ≤ 281474976710656) (w : World) :
    Calls Tryz.prog 43 #[.string t] w fun e w' => e = .returned (.int .i64 (nsec t.size : Nat)) ∧ w = w' := by
  have HS := Lib.hid (psecof_any t.size hn w)
  go_enter Tryz.func43, Tryz.ntmps43
  go_wp2_with (go_at_call 63; refine HS.out.mono ?_; rintro e w1 ⟨rfl, rfl⟩)
  go_ret
  exact ⟨rfl, rfl⟩
theorem rep0_any (c : Nat) (hc : c ≤ 4096) (W : World) :
    Calls Tryz.prog 58 #[.string ⟨#[0]⟩, .int .i64 c] W fun e w' => e = .returned (.string (tx (List.replicate c 0))) ∧ Below W.heap.size W w' := by
  have h1 : (⟨#[0]⟩ : ByteArray).size * c ≤ 140737488355328 := by
    have : (⟨#[0]⟩ : ByteArray).size * c = c := Nat.one_mul c
    omega
  have h := Tryz.strings_Repeat ⟨#[0]⟩ c W (by omega) h1
  have h2 : Lib.repeatL [0] c = List.replicate c (0 : UInt8) := by
    have := Lib.repeatL_replicate 0 1 c
    rw [Nat.mul_one] at this
    exact this
  rw [show (⟨#[0]⟩ : ByteArray).data.toList = [0] from rfl, h2] at h
  exact h
/-- The closure that pads a text to the pieces of n sectors. -/
theorem padto_any (n b : Nat) (hn : n ≤ 1000000) (t : ByteArray) (h0 : t.size ≤ 63 * n) (h1 : 63 * n ≤ t.size + 4096) (w : World) (hc : w.cell? ⟨b, 0, none⟩ = some (.int .i64 n)) :
    Calls Tryz.prog 99 #[.string t, .pointer (some ⟨b, 0, none⟩)] w fun e w' => e = .returned (.string (tx (List.replicate (63 * n - t.size) 0))) ∧ Below w.heap.size w w' := by
  obtain ⟨c, hcc⟩ : ∃ c, 63 * n - t.size = c := ⟨_, rfl⟩
  obtain ⟨m, hm⟩ : ∃ m, 63 * n = m := ⟨_, rfl⟩
  have i1 : IntKind.i64.wrap ((n : Int) * 63) = (m : Int) := by rw [show (n : Int) * 63 = (m : Int) by omega]; exact IntWalk.i64_in _ (by omega)
  have i2 : IntKind.i64.wrap ((m : Int) - (t.size : Int)) = (c : Int) := by rw [show (m : Int) - (t.size : Int) = (c : Int) by omega]; exact IntWalk.i64_in _ (by omega)
  have hr := fun W => rep0_any c (by omega) W
  rw [hcc]
  clear hn h0 h1 hcc hm
  go_enter Tryz.func99, Tryz.ntmps99
  go_wp2_with (go_at_call 58; refine (hr _).mono ?_; rintro e w1 ⟨rfl, hb1⟩)
  go_ret
  exact ⟨rfl, hb1⟩
theorem padding_any (n : Int) (w : World) :
    Calls Tryz.prog 73 #[.int .i64 n] w fun e w' => e = .returned (.func (.func 99) #[] #[.pointer (some ⟨w.heap.size, 0, none⟩)]) ∧ w' = w.alloc (.cells #[.int .i64 n] 3) := by
  go_enter Tryz.func73, Tryz.ntmps73
  go_wp2
  go_ret
  exact ⟨rfl, rfl⟩
theorem poutside10_any (ep sq : Int) (n : Nat) (w : World) :
    Calls Tryz.prog 72 #[.int .i64 ep, .int .i64 sq, .int .i64 n] w fun e w' => e = .returned (.int .i64 (wrong10 ep sq n)) ∧ w = w' := by
  have he : wrong10 ep sq n = if ep < 1 then 2 else if 1000000000 < ep then 2 else if sq < 1 then 2 else if 1000000 < sq then 2 else if 3000 < n then 3 else 0 := by
    unfold wrong10
    by_cases h1 : ep < 1
    · rw [if_pos h1, if_neg (by omega)]
    by_cases h2 : 1000000000 < ep
    · rw [if_neg h1, if_pos h2, if_neg (by omega)]
    by_cases h3 : sq < 1
    · rw [if_neg h1, if_neg h2, if_pos h3, if_neg (by omega)]
    by_cases h4 : 1000000 < sq
    · rw [if_neg h1, if_neg h2, if_neg h3, if_pos h4, if_neg (by omega)]
    · rw [if_neg h1, if_neg h2, if_neg h3, if_neg h4, if_pos (by omega)]
  rw [he]
  clear he
  by_cases h1 : ep < 1
  · have d1 : decide (ep < 1) = true := decide_eq_true h1
    rw [if_pos h1]
    clear h1
    go_enter Tryz.func72, Tryz.ntmps72
    go_wp2
    go_ret
    exact ⟨rfl, rfl⟩
  have d1 : decide (ep < 1) = false := decide_eq_false h1
  rw [if_neg h1]
  by_cases h2 : 1000000000 < ep
  · have d2 : decide (1000000000 < ep) = true := decide_eq_true h2
    rw [if_pos h2]
    clear h1 h2
    go_enter Tryz.func72, Tryz.ntmps72
    go_wp2
    go_ret
    exact ⟨rfl, rfl⟩
  have d2 : decide (1000000000 < ep) = false := decide_eq_false h2
  rw [if_neg h2]
  by_cases h3 : sq < 1
  · have d3 : decide (sq < 1) = true := decide_eq_true h3
    rw [if_pos h3]
    clear h1 h2 h3
    go_enter Tryz.func72, Tryz.ntmps72
    go_wp2
    go_ret
    exact ⟨rfl, rfl⟩
  have d3 : decide (sq < 1) = false := decide_eq_false h3
  rw [if_neg h3]
  by_cases h4 : 1000000 < sq
  · have d4 : decide (1000000 < sq) = true := decide_eq_true h4
    rw [if_pos h4]
    clear h1 h2 h3 h4
    go_enter Tryz.func72, Tryz.ntmps72
    go_wp2
    go_ret
    exact ⟨rfl, rfl⟩
  have d4 : decide (1000000 < sq) = false := decide_eq_false h4
  rw [if_neg h4]
  by_cases h5 : 3000 < n
  · have d5 : decide (3000 < (n : Int)) = true := decide_eq_true (by omega)
    rw [if_pos h5]
    clear h1 h2 h3 h4 h5
    go_enter Tryz.func72, Tryz.ntmps72
    go_wp2
    go_ret
    exact ⟨rfl, rfl⟩
  have d5 : decide (3000 < (n : Int)) = false := decide_eq_false (by omega)
  rw [if_neg h5]
  clear h1 h2 h3 h4 h5
  go_enter Tryz.func72, Tryz.ntmps72
  go_wp2
  go_ret
  exact ⟨rfl, rfl⟩

theorem divided_step {h : UInt8} {k : Nat} {r : List UInt8} : chop h (k + 1) r = [h] ++ (r.take 63 ++ chop 2 k (r.drop 63)) := rfl
end Go.Proofs.YtcbmecpeockdeaaGreatDoor
