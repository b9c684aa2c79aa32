/- serial.Check answers for every text just what the plain words say; it lays new blocks and leaves what lay there. -/
import Derived.Test.YtnbmccfaomhppaaScan
import Derived.Lib.OthersKept
import Derived.Laws.RangeAny
import Derived.BigCall
namespace Go.Proofs.Ytnbmccfaomhppaa
open Go.RowKit

/-- What the loop of Check knows at a round's head: block k is the closure's variable, block k + 1 the iterator. -/
def AtPos (s : ByteArray) (w : World) (wr : World) : Prop :=
  ∃ (pos : Nat) (p : Int) (d : Bool), pos ≤ s.size ∧ wr.heap[w.heap.size]? = some (.cells #[.int .i32 p] 21 (0, 0)) ∧ wr.heap[w.heap.size + 1]? = some (.stringIter s pos) ∧ Below w.heap.size w wr ∧ run okC true (s.data.toList.take pos) = some d ∧ d = decide (p = 45)

theorem iter_new (w : World) (s : ByteArray) (p : Nat) : (w.iter s p).heap[w.heap.size]? = some (.stringIter s p) := World.iter_heap w s p

set_option maxHeartbeats 1000000 in
theorem check_any (s : ByteArray) (w : World) : Calls Try.prog 28 #[.string s] w fun e w' => e = .returned (.int .i64 (checkOf s.data.toList)) ∧ Below w.heap.size w w' := by
  have hlen : s.data.toList.length = s.size := by rw [Array.length_toList]; rfl
  by_cases hs : 16 < s.size
  · have e1 : longB s = true := by simp [longB]; omega
    have e : checkOf s.data.toList = 9 := check_long (by omega)
    clear hlen
    go_enter Try.func28, Try.ntmps28
    go_wp2_with (go_at_call 38; refine (long_any _ _).mono ?_; rintro e w' ⟨rfl, rfl⟩)
    go_ret
    exact ⟨by rw [e]; rfl, Below.refl _ _⟩
  · have e1 : longB s = false := by simp [longB]; omega
    have HL := Lib.hid hlen
    clear hlen
    go_enter Try.func28, Try.ntmps28
    go_wp2_with (first | (go_at_call 38; refine (long_any _ _).mono ?_; rintro e w' ⟨rfl, rfl⟩) | (go_at_call 39; refine (made_any _).mono ?_; rintro e w' ⟨rfl, rfl⟩))
    go_loopw [] (fun wr => AtPos s w wr) (fun wr => s.size - wr.iterPos (w.heap.size + 1))
    case atStart =>
      refine ⟨0, 45, true, Nat.zero_le _, ?_, ?_, ?_, rfl, rfl⟩
      · exact (Below.heap_alloc (w.alloc _) _ w.heap.size (by simp)).trans (heap_alloc_new w _)
      · have := World.iter_heap (w.alloc (.cells #[.int .i32 45] 21)) s 0
        simpa using this
      · exact ((Below.refl _ w).alloc (Nat.le_refl _) _).alloc (by simp) _
    case round =>
      obtain ⟨pos, p, d, hpos, hcl, hit, hbw, hrun, hd⟩ := hrel
      have hcell := cell_of_one hcl
      have hfree := free_of_one hcl
      by_cases hp : pos < s.size
      · have hit2 := Lib.iterAt_heap wr (w.heap.size + 1) s pos
        by_cases ha : (s[pos]'hp).toNat < 128
        · have hnx : ∀ ty, (Instr.next (.pointer (some ⟨w.heap.size + 1, 0, none⟩)) true ty).run Try.prog wr = _ := fun ty => Lib.run_next_ascii_at wr (w.heap.size + 1) s pos ty hit hp ha
          have hcl2 := (Lib.iterAt_other wr (w.heap.size + 1) w.heap.size s (pos + 1) (by omega)).trans hcl
          have hit2 := Lib.iterAt_heap wr (w.heap.size + 1) s pos (pos + 1) hit
          have hbw2 := Lib.below_iterAt hbw (k := w.heap.size + 1) (by omega) s (pos + 1)
          have hcell2 := cell_of_one hcl2
          have hfree2 := free_of_one hcl2
          have hok := okC_iff (s[pos]'hp)
          have hrs := run_stop okC s pos hp d hrun
          have hrg := run_go okC s pos hp d hrun
          have H1 := Lib.hid hrun
          have Hd := Lib.hid hd
          have Hok := Lib.hid hok
          have Hrs := Lib.hid hrs
          have Hrg := Lib.hid hrg
          have Hcl := Lib.hid hcl2
          have Hit := Lib.hid hit2
          clear hrun hd hok hrs hrg hcl2 hit2 hcl
          by_cases h0 : classOf ((s[pos]'hp).toNat : Int) = 0
          · have e0 : (classOf ((s[pos]'hp).toNat : Int) == 0) = true := by simp [h0]
            have e : checkOf s.data.toList = 9 := check_none (Hrs.out (by rw [Hok.out, e0]; rfl))
            have He := Lib.hid e
            clear h0 e
            go_wp2_with (first | (go_at_call 40; refine (class_any _ _).mono ?_; rintro e w' ⟨rfl, rfl⟩) | (go_at_call 41; refine (low_any _ _).mono ?_; rintro e w' ⟨rfl, rfl⟩) | (go_at_call 54; refine (apart_any _ p w.heap.size _ (by first | exact hcell | exact hcell2) (by first | exact hfree | exact hfree2)).mono ?_; rintro e w' ⟨rfl, rfl⟩))
            go_ret
            exact ⟨by rw [He.out]; rfl, hbw2⟩
          · have e0 : (classOf ((s[pos]'hp).toNat : Int) == 0) = false := by simp [h0]
            by_cases h1 : lowB ((s[pos]'hp).toNat : Int) = true
            · have e : checkOf s.data.toList = 9 := check_none (Hrs.out (by rw [Hok.out, e0, h1]; rfl))
              have He := Lib.hid e
              clear h0 e
              go_wp2_with (first | (go_at_call 40; refine (class_any _ _).mono ?_; rintro e w' ⟨rfl, rfl⟩) | (go_at_call 41; refine (low_any _ _).mono ?_; rintro e w' ⟨rfl, rfl⟩) | (go_at_call 54; refine (apart_any _ p w.heap.size _ (by first | exact hcell | exact hcell2) (by first | exact hfree | exact hfree2)).mono ?_; rintro e w' ⟨rfl, rfl⟩))
              go_ret
              exact ⟨by rw [He.out]; rfl, hbw2⟩
            · have e1 : lowB ((s[pos]'hp).toNat : Int) = false := by simpa using h1
              have eok : okC (s[pos]'hp) = true := by rw [Hok.out, e0, e1]; rfl
              clear h0 h1
              have ed : (((s[pos]'hp).toNat : Int) == 45) = decide ((s[pos]'hp).toNat = 45) := by rw [Bool.eq_iff_iff]; simp; omega
              by_cases h2 : (!(((s[pos]'hp).toNat : Int) == 45) || !(p == 45)) = true
              · have es : run okC true (s.data.toList.take (pos + 1)) = some (decide ((s[pos]'hp).toNat = 45)) := Hrg.out (by
                  rw [eok, ← ed, Hd.out]
                  have : decide (p = 45) = (p == 45) := by rw [Bool.eq_iff_iff]; simp
                  rw [this]
                  revert h2
                  cases (((s[pos]'hp).toNat : Int) == 45) <;> cases (p == 45) <;> simp)
                have Hes := Lib.hid es
                have Hed := Lib.hid ed
                clear es ed eok
                go_wp2_with (first | (go_at_call 40; refine (class_any _ _).mono ?_; rintro e w' ⟨rfl, rfl⟩) | (go_at_call 41; refine (low_any _ _).mono ?_; rintro e w' ⟨rfl, rfl⟩) | (go_at_call 54; refine (apart_any _ p w.heap.size _ (by first | exact hcell | exact hcell2) (by first | exact hfree | exact hfree2)).mono ?_; rintro e w' ⟨rfl, rfl⟩))
                go_roundw
                case rel =>
                  exact ⟨pos + 1, _, _, by omega, one_setCell Hcl.out, (Below.heap_setCell _ _ _ _ (by simp)).trans Hit.out, hbw2.setCell (by simp) _, Hes.out, by rw [Bool.eq_iff_iff]; simp; omega⟩
                case measure =>
                  have hq := fun v => (Below.heap_setCell (wr.iterAt (w.heap.size + 1) s (pos + 1)) ⟨w.heap.size, 0, none⟩ v (w.heap.size + 1) (by simp)).trans Hit.out
                  simp only [World.iterPos, hq, hit]
                  omega
              · have e2 : (!(((s[pos]'hp).toNat : Int) == 45) || !(p == 45)) = false := by simpa using h2
                have e : checkOf s.data.toList = 9 := check_none (Hrs.out (by
                  rw [eok, ← ed, Hd.out]
                  have : decide (p = 45) = (p == 45) := by rw [Bool.eq_iff_iff]; simp
                  rw [this]
                  revert e2
                  cases (((s[pos]'hp).toNat : Int) == 45) <;> cases (p == 45) <;> simp))
                have He := Lib.hid e
                clear h2 e ed eok
                go_wp2_with (first | (go_at_call 40; refine (class_any _ _).mono ?_; rintro e w' ⟨rfl, rfl⟩) | (go_at_call 41; refine (low_any _ _).mono ?_; rintro e w' ⟨rfl, rfl⟩) | (go_at_call 54; refine (apart_any _ p w.heap.size _ (by first | exact hcell | exact hcell2) (by first | exact hfree | exact hfree2)).mono ?_; rintro e w' ⟨rfl, rfl⟩))
                go_ret
                exact ⟨by rw [He.out]; rfl, hbw2.setCell (by simp) _⟩
        · obtain ⟨hr, hw1⟩ := decode_high s pos hp (by omega)
          have hnx : ∀ ty, (Instr.next (.pointer (some ⟨w.heap.size + 1, 0, none⟩)) true ty).run Try.prog wr = _ := fun ty => Lib.run_next_any_at wr (w.heap.size + 1) s pos ty hit hp
          have hbw2 := Lib.below_iterAt hbw (k := w.heap.size + 1) (by omega) s (pos + (Utf8.decode s pos).2)
          have e0 : (classOf ((Utf8.decode s pos).1 : Int) == 0) = true := by rw [class_high (by omega)]; rfl
          have e : checkOf s.data.toList = 9 := check_none (run_stop okC s pos hp d hrun (by rw [okC_high (by omega)]; rfl))
          have He := Lib.hid e
          clear e hrun hd
          go_wp2_with (first | (go_at_call 40; refine (class_any _ _).mono ?_; rintro e w' ⟨rfl, rfl⟩) | (go_at_call 41; refine (low_any _ _).mono ?_; rintro e w' ⟨rfl, rfl⟩) | (go_at_call 54; refine (apart_any _ p w.heap.size _ (by first | exact hcell | exact hcell2) (by first | exact hfree | exact hfree2)).mono ?_; rintro e w' ⟨rfl, rfl⟩))
          go_ret
          exact ⟨by rw [He.out]; rfl, hbw2⟩
      · have hnx : ∀ ty, (Instr.next (.pointer (some ⟨w.heap.size + 1, 0, none⟩)) true ty).run Try.prog wr = _ := fun ty => Lib.run_next_end_at wr (w.heap.size + 1) s pos ty hit hp
        have hall : run okC true s.data.toList = some d := by
          rw [List.take_of_length_le (by rw [HL.out]; omega)] at hrun; exact hrun
        by_cases h : p = 45
        · have e2 : (p == 45) = true := by simp [h]
          have hd1 : d = true := by rw [hd]; simp [h]
          have e : checkOf s.data.toList = 9 := check_dash (by rw [hall, hd1])
          have He := Lib.hid e
          clear e hrun hd hall hd1 h
          go_wp2_with (first | (go_at_call 40; refine (class_any _ _).mono ?_; rintro e w' ⟨rfl, rfl⟩) | (go_at_call 41; refine (low_any _ _).mono ?_; rintro e w' ⟨rfl, rfl⟩) | (go_at_call 54; refine (apart_any _ p w.heap.size _ (by first | exact hcell | exact hcell2) (by first | exact hfree | exact hfree2)).mono ?_; rintro e w' ⟨rfl, rfl⟩))
          go_ret
          exact ⟨by rw [He.out]; rfl, hbw.setCell (by simp) _⟩
        · have e2 : (p == 45) = false := by simp [h]
          have hd1 : d = false := by rw [hd]; simp [h]
          have e : checkOf s.data.toList = 0 := check_ok (by rw [HL.out]; omega) (by rw [hall, hd1])
          have He := Lib.hid e
          clear e hrun hd hall hd1 h
          go_wp2_with (first | (go_at_call 40; refine (class_any _ _).mono ?_; rintro e w' ⟨rfl, rfl⟩) | (go_at_call 41; refine (low_any _ _).mono ?_; rintro e w' ⟨rfl, rfl⟩) | (go_at_call 54; refine (apart_any _ p w.heap.size _ (by first | exact hcell | exact hcell2) (by first | exact hfree | exact hfree2)).mono ?_; rintro e w' ⟨rfl, rfl⟩))
          go_ret
          exact ⟨by rw [He.out]; rfl, hbw.setCell (by simp) _⟩
end Go.Proofs.Ytnbmccfaomhppaa
