/- What layer 10's walks want of the program's frame, said of every text and of every world with a given trait; the law's same; the walk of FrameGets. -/
import Derived.Test.YtpjahfobjnajcaaDoorRscan10
namespace Go.Proofs.YtpjahfobjnajcaaDoor
open Go.RowKit

/-- The program's four functions answer as the plain words say, in every world with the trait T, which lasts while nothing old changes. -/
structure Frame10 (T : World → Prop) : Prop where
  below : ∀ {w w' : World}, T w → Below w.heap.size w w' → T w'
  sect : ∀ (t : ByteArray), t.size ≤ 281474976710656 → ∀ w, Calls Tryd.prog 15 #[.string t] w fun e w' => e = .returned (.int .i64 (nsec t.size : Nat)) ∧ Below w.heap.size w w'
  put : ∀ (ep sq : Int) (t : ByteArray), t.size ≤ 281474976710656 → ∀ w, T w → Calls Tryd.prog 14 #[.agg #[.int .i64 ep, .int .i64 sq, .string t]] w fun e w' => e = .returned (.tuple #[.string (tx (putL10 ep sq t.data.toList)), .int .i64 (wrong10 ep sq t.size)]) ∧ Below w.heap.size w w'
  get : ∀ (s : ByteArray) (p : Int), s.size ≤ 281474976710656 → -9223372036854775808 ≤ p → p ≤ 9223372036854775807 → ∀ w, T w → Calls Tryd.prog 8 #[.string s, .int .i64 p] w fun e w' => e = .returned (res10 s.data.toList p) ∧ Below w.heap.size w w'
  scan : ∀ (s : ByteArray) (ep : Int), s.size ≤ 281474976710656 → ∀ w, T w → Calls Tryd.prog 10 #[.string s, .int .i64 ep] w fun e w' => ∃ a c, e = .returned (.tuple #[.slice a (scanV s.data.toList ep).1.length c, .int .i64 ((scanV s.data.toList ep).2 : Nat)]) ∧ (scanV s.data.toList ep).1.length ≤ c ∧ Txs w.heap.size w'.heap.size w' a (scanV s.data.toList ep).1 ∧ Below w.heap.size w w'
/-- The law's probes come out true in every world with the trait. -/
def Wakes10 (T : World → Prop) : Prop := ∀ w, T w → Calls Tryd.prog 7 #[] w fun e w' => e = .returned (.bool true) ∧ Below w.heap.size w w'
theorem same10_any (x y : Int) (t : ByteArray) (w : World) :
    Calls Tryd.prog 12 #[.agg #[.int .i64 x, .int .i64 y, .string t], .agg #[.int .i64 x, .int .i64 y, .string t]] w fun e w' => e = .returned (.bool true) ∧ Below w.heap.size w w' := by
  have d1 : (t.toList == t.toList) = true := by simp
  go_enter Tryd.func12, Tryd.ntmps12
  go_wp2
  go_ret
  exact ⟨rfl, ((Below.refl _ w).alloc (Nat.le_refl _) _).alloc (by simp) _⟩
/-- No more sectors than there are. -/
theorem scan_len (L : List UInt8) (ep : Int) : (scanV L ep).1.length ≤ (scanV L ep).2 := by
  rw [(scanV_sum L ep).1]
  generalize (scanV L ep).1 = xs
  induction xs with
  | nil => exact Nat.le_refl _
  | cons x xs ih =>
    have := nsec_up x.length
    simp only [List.map_cons, List.sum_cons, List.length_cons]
    omega

set_option maxHeartbeats 1000000 in
theorem frameGets_walk10 {T : World → Prop} (H : Frame10 T) (HA : Wakes10 T) (w : World) (hT : T w) (s : ByteArray) (p : Int) (hp : (Lit.int .i64 p).wf = true) (ep : Int) :
    Calls Tryd.prog 3 #[.string s, .int .i64 p, .int .i64 ep] w fun e w' => e = .returned (.bool true) ∧ Below w.heap.size w w' := by
  have HT := Lib.hid hT
  have hp2 : -9223372036854775808 ≤ p ∧ p ≤ 9223372036854775807 := by
    simp [Lit.wf, IntKind.min, IntKind.max, IntKind.signed, IntKind.bits] at hp
    omega
  clear hp
  by_cases q1 : 6400 < s.size
  · have e1 : decide (6400 < s.size) = true := decide_eq_true q1
    have e1i : decide (6400 < (s.size : Int)) = true := decide_eq_true (by omega)
    clear q1 hp2
    go_enter Tryd.func3, Tryd.ntmps3
    go_wp2_with (go_at_call 7; refine (HA _ HT.out).mono ?_; rintro e w1 ⟨rfl, hb1⟩)
    go_ret
    exact ⟨rfl, hb1⟩
  have e1 : decide (6400 < s.size) = false := decide_eq_false q1
  have e1i : decide (6400 < (s.size : Int)) = false := decide_eq_false (by omega)
  have hg := fun W h => H.get s p (by omega) hp2.1 hp2.2 W h
  have hrg := fun W => rget10_any s (by omega) p hp2.1 hp2.2 W
  have hsc := fun W h => H.scan s ep (by omega) W h
  have hrs := fun W => rscan10_any s (by omega) ep W
  have HB : Hid (∀ v v', T v → Below v.heap.size v v' → T v') := Lib.hid fun _ _ h hb => H.below h hb
  have hl := scan_len s.data.toList ep
  have hl2 := (scanV_sum s.data.toList ep).2
  have hz := text_size s
  generalize s.data.toList = L at *
  have HN : Hid ((scanV L ep).1.length ≤ 1000000) := Lib.hid (by omega)
  clear hl hl2 hz q1 hp2 H hT
  unfold res10 at hg hrg
  generalize getEp L p = E at *
  generalize getSq L p = Q at *
  generalize getB L p = B at *
  generalize getTo L p = TO at *
  generalize getE10 L p = ER at *
  generalize (scanV L ep).1 = xs at *
  generalize (scanV L ep).2 = n at *
  go_enter Tryd.func3, Tryd.ntmps3
  go_upto_region 5 with (first
    | (go_at_call 8; refine (hg _ HT.out).mono ?_; rintro e w1 ⟨rfl, hb1⟩; have HB1 := Lib.hid hb1; clear hb1)
    | (go_at_call 9; refine (hrg _).mono ?_; rintro e w2 ⟨rfl, hb2⟩; have HB2 := Lib.hid hb2; clear hb2))
  obtain ⟨W3, hW3⟩ : ∃ W3, W3 = w2.alloc (.cells #[.int .i64 E, .int .i64 Q, .string (tx B)] 28) := ⟨_, rfl⟩
  have b3 : Below w2.heap.size w2 W3 := by rw [hW3]; exact (Below.refl _ w2).alloc (Nat.le_refl _) _
  have z1 := old_obj b3 (old_obj HB2.out (heap_alloc_new w1 _))
  have z2 : W3.heap[w2.heap.size]? = some (.cells #[.int .i64 E, .int .i64 Q, .string (tx B)] 28 (0, 0)) := by rw [hW3]; exact heap_alloc_new w2 _
  have b4 : Below w1.heap.size w1 w2 := ((Below.refl _ w1).alloc (Nat.le_refl _) _).trans (HB2.out.mono (by simp))
  have BW : Hid (Below w.heap.size w W3) := Lib.hid ((HB1.out.trans (b4.mono HB1.out.size)).trans (b3.mono (by have := HB1.out.size; have := b4.size; omega)))
  have Z1 := Lib.hid z1
  have Z2 := Lib.hid z2
  have HT3 := Lib.hid (HB.out _ _ HT.out BW.out)
  rw [← hW3]
  clear hW3 z1 z2 b3 b4 HB1 HB2 hg hrg
  go_upto_region 6 with (go_at_call 10; refine (hsc _ HT3.out).mono ?_; rintro e w4 ⟨a, c, rfl, _, hx, hb4⟩)
  have HX := Lib.hid hx
  have B4 := Lib.hid hb4
  clear hx hb4
  go_upto_region 7 with (go_at_call 11; refine (hrs _).mono ?_; rintro e w5 ⟨a', c', rfl, _, hx, hb5⟩)
  have HX' := Lib.hid hx
  have HX2 := Lib.hid (HX.out.step hb5)
  have B5 := Lib.hid (B4.out.trans (hb5.mono B4.out.size))
  clear hx hb5 HX
  have BW5 := Lib.hid (BW.out.trans (B5.out.mono BW.out.size))
  obtain ⟨c0, c1, c2, _, _, _⟩ := three_cells (old_obj B5.out Z1.out)
  obtain ⟨d0, d1, d2, _, _, _⟩ := three_cells (old_obj B5.out Z2.out)
  clear hsc hrs B4 B5 Z1 Z2
  go_wp2_with (first
    | (go_at_call 12; refine (same10_any E Q (tx B) _).mono ?_; rintro e w6 ⟨rfl, hb6⟩; have HB6 := Lib.hid hb6; have BW6 := Lib.hid (BW5.out.trans (hb6.mono BW5.out.size)); clear hb6)
    | (go_at_call 13; refine (same_txs a a' _ _ _ _ c c' xs HN.out _ (HX2.out.step HB6.out) (HX'.out.step HB6.out)).mono ?_; rintro e w7 ⟨rfl, hb7⟩; have BW7 := Lib.hid (BW6.out.trans (hb7.mono BW6.out.size)); clear hb7)
    | (go_at_call 7; refine (HA _ (HB.out _ _ HT.out BW7.out)).mono ?_; rintro e w8 ⟨rfl, hb8⟩))
  go_ret
  exact ⟨rfl, BW7.out.trans (hb8.mono BW7.out.size)⟩
end Go.Proofs.YtpjahfobjnajcaaDoor
