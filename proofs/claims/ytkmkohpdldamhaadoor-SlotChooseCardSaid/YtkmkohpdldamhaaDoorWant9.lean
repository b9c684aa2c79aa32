/- What layer 9's walks want of the program's slot, said of every text and of every world with a given trait; and the law's same. -/
import Derived.Test.YtkmkohpdldamhaaDoorRef9
namespace Go.Proofs.YtkmkohpdldamhaaDoor
open Go.RowKit

/-- The program's five functions answer as the plain words say, in every world with the trait T, which lasts while nothing old changes. -/
structure Slot9 (T : World → Prop) : Prop where
  below : ∀ {w w' : World}, T w → Below w.heap.size w w' → T w'
  sect : ∀ (t : ByteArray), t.size ≤ 281474976710656 → ∀ w, Calls Tryd.prog 14 #[.string t] w fun e w' => e = .returned (.int .i64 (sect9 t.size : Nat)) ∧ Below w.heap.size w w'
  put : ∀ (g : Int) (t : ByteArray), g ≤ 9223372036854775807 → t.size ≤ 281474976710656 → ∀ w, T w → Calls Tryd.prog 12 #[.agg #[.int .i64 g, .string t]] w fun e w' => ∃ u : ByteArray, e = .returned (.tuple #[.string u, .int .i64 (putE9 g t.data.toList)]) ∧ Hid (u.data.toList = putL9 g t.data.toList) ∧ Below w.heap.size w w'
  get : ∀ (s : ByteArray), s.size ≤ 281474976710656 → ∀ w, T w → Calls Tryd.prog 13 #[.string s] w fun e w' => ∃ t : ByteArray, e = .returned (.tuple #[.agg #[.int .i64 (getG9 s.data.toList), .string t], .int .i64 (getE9 s.data.toList)]) ∧ Hid (t.data.toList = getT9 s.data.toList) ∧ Below w.heap.size w w'
  choose : ∀ (a b : ByteArray), a.size ≤ 281474976710656 → b.size ≤ 281474976710656 → ∀ w, T w → Calls Tryd.prog 7 #[.string a, .string b] w fun e w' => ∃ t : ByteArray, e = .returned (.tuple #[.agg #[.int .i64 (pickG a.data.toList b.data.toList), .string t], .int .i64 (pickI a.data.toList b.data.toList)]) ∧ Hid (t.data.toList = pickT a.data.toList b.data.toList) ∧ Below w.heap.size w w'
  next : ∀ (a b : ByteArray), a.size ≤ 281474976710656 → b.size ≤ 281474976710656 → ∀ w, T w → Calls Tryd.prog 9 #[.string a, .string b] w fun e w' => e = .returned (.tuple #[.int .i64 (nextG a.data.toList b.data.toList), .int .i64 (nextS a.data.toList b.data.toList)]) ∧ Below w.heap.size w w'
/-- The law's probes come out true in every world with the trait. -/
def Wakes9 (T : World → Prop) : Prop := ∀ w, T w → Calls Tryd.prog 6 #[] w fun e w' => e = .returned (.bool true) ∧ Below w.heap.size w w'
theorem same9_any (g : Int) (t u : ByteArray) (h : t = u) (w : World) :
    Calls Tryd.prog 11 #[.agg #[.int .i64 g, .string t], .agg #[.int .i64 g, .string u]] w fun e w' => e = .returned (.bool true) ∧ Below w.heap.size w w' := by
  subst h
  have d1 : (t.toList == t.toList) = true := by simp
  go_enter Tryd.func11, Tryd.ntmps11
  go_wp2
  go_ret
  exact ⟨rfl, ((Below.refl _ w).alloc (Nat.le_refl _) _).alloc (by simp) _⟩

set_option maxHeartbeats 1000000 in
theorem slotPicks_walk9 {T : World → Prop} (H : Slot9 T) (HA : Wakes9 T) (w : World) (hT : T w) (a : ByteArray) (b : ByteArray) :
    Calls Tryd.prog 3 #[.string a, .string b] w fun e w' => e = .returned (.bool true) ∧ Below w.heap.size w w' := by
  have HT := Lib.hid hT
  by_cases q1 : 5000 < a.size
  · have e1 : decide (5000 < a.size) = true := decide_eq_true q1
    have e1i : decide (5000 < (a.size : Int)) = true := decide_eq_true (by omega)
    clear q1
    go_enter Tryd.func3, Tryd.ntmps3
    go_wp2_with (go_at_call 6; refine (HA _ HT.out).mono ?_; rintro e w1 ⟨rfl, hb1⟩)
    go_ret
    exact ⟨rfl, hb1⟩
  have e1 : decide (5000 < a.size) = false := decide_eq_false q1
  have e1i : decide (5000 < (a.size : Int)) = false := decide_eq_false (by omega)
  by_cases q2 : 5000 < b.size
  · have e2 : decide (5000 < b.size) = true := decide_eq_true q2
    have e2i : decide (5000 < (b.size : Int)) = true := decide_eq_true (by omega)
    clear q1 q2
    go_enter Tryd.func3, Tryd.ntmps3
    go_wp2_with (go_at_call 6; refine (HA _ HT.out).mono ?_; rintro e w1 ⟨rfl, hb1⟩)
    go_ret
    exact ⟨rfl, hb1⟩
  have e2 : decide (5000 < b.size) = false := decide_eq_false q2
  have e2i : decide (5000 < (b.size : Int)) = false := decide_eq_false (by omega)
  have hc := fun W => H.choose a b (by omega) (by omega) W
  have hn := fun W => H.next a b (by omega) (by omega) W
  have rc := fun W => rchoose9_any a b (by omega) (by omega) W
  have rn := fun W => rnext9_any a b (by omega) (by omega) W
  have HB : Hid (∀ v v', T v → Below v.heap.size v v' → T v') := Lib.hid fun _ _ h hb => H.below h hb
  clear q1 q2 H hT
  generalize pickT a.data.toList b.data.toList = PT at *
  generalize pickG a.data.toList b.data.toList = PG at *
  generalize pickI a.data.toList b.data.toList = PI at *
  generalize nextG a.data.toList b.data.toList = NG at *
  generalize nextS a.data.toList b.data.toList = NS at *
  go_enter Tryd.func3, Tryd.ntmps3
  go_upto_region 5 with (first
    | (go_at_call 7; refine (hc _ HT.out).mono ?_; rintro e w1 ⟨t, rfl, ht, hb1⟩; have HT1 := Lib.hid ht.out; have HB1 := Lib.hid hb1; clear ht hb1)
    | (go_at_call 8; refine (rc _).mono ?_; rintro e w2 ⟨u, rfl, hu, hb2⟩; have HU1 := Lib.hid hu.out; have HB2 := Lib.hid hb2; clear hu hb2))
  have htu : t = u := text_eq (HT1.out.trans HU1.out.symm)
  subst htu
  have b3 : Below w2.heap.size w2 (w2.alloc (.cells #[.int .i64 PG, .string t] 27)) := (Below.refl _ w2).alloc (Nat.le_refl _) _
  have z1 := old_obj b3 (old_obj HB2.out (heap_alloc_new w1 _))
  have z2 := heap_alloc_new w2 (.cells #[.int .i64 PG, .string t] 27)
  have b4 : Below w1.heap.size w1 w2 := ((Below.refl _ w1).alloc (Nat.le_refl _) _).trans (HB2.out.mono (by simp))
  have bw : Below w.heap.size w (w2.alloc (.cells #[.int .i64 PG, .string t] 27)) := (HB1.out.trans (b4.mono HB1.out.size)).trans (b3.mono (by have := HB1.out.size; have := b4.size; omega))
  have Z1 := Lib.hid z1
  have Z2 := Lib.hid z2
  have BW := Lib.hid bw
  have HT3 := Lib.hid (HB.out _ _ HT.out bw)
  clear z1 z2 b3 b4 bw HB1 HB2 hc rc HT1 HU1
  generalize w2.alloc (.cells #[.int .i64 PG, .string t] 27) = W3 at *
  go_upto_region 7 with (first
    | (go_at_call 9; refine (hn _ HT3.out).mono ?_; rintro e w3 ⟨rfl, hb3⟩; have HB3 := Lib.hid hb3; clear hb3)
    | (go_at_call 10; refine (rn _).mono ?_; rintro e w4 ⟨rfl, hb4⟩; have HB4 : Hid (Below W3.heap.size W3 w4) := Lib.hid (HB3.out.trans (hb4.mono HB3.out.size)); clear hb4))
  obtain ⟨c0, c1, _, _⟩ := two_cells9 (old_obj HB4.out Z1.out)
  obtain ⟨d0, d1, _, _⟩ := two_cells9 (old_obj HB4.out Z2.out)
  have BW4 := Lib.hid (BW.out.trans (HB4.out.mono BW.out.size))
  clear hn rn HB3
  go_wp2_with (first
    | (go_at_call 11; refine (same9_any PG t t rfl _).mono ?_; rintro e w5 ⟨rfl, hb5⟩; have HB5 := Lib.hid (BW4.out.trans (hb5.mono BW4.out.size)); clear hb5)
    | (go_at_call 6; refine (HA _ (HB.out _ _ HT.out HB5.out)).mono ?_; rintro e w6 ⟨rfl, hb6⟩))
  go_ret
  exact ⟨rfl, HB5.out.trans (hb6.mono HB5.out.size)⟩
end Go.Proofs.YtkmkohpdldamhaaDoor
