/- The program's reader: a value read at its place; the place moves behind it, or the error becomes the fault. -/
import Derived.Test.YtkflpkcggjpbfaaStrictB
import Derived.Deep.DrawnRows
import Derived.Deep.CutBlock
import Derived.Deep.DeepCutAuto
set_option linter.unusedVariables false
set_option maxRecDepth 100000
namespace Go.Proofs.Ytkflpkcggjpbfaa
open Go.RowKit
attribute [local go_sem ↓] Go.wp_at_zero Go.wp_at_succ

/-- Behind the decoder: what it told lies in a block of its own, the reader as it was. -/
def Decoded (w : World) (g K : Nat) (s : ByteArray) (r : Rs) (T : TypeId) (a b : Value) (v : World) : Prop :=
  v.heap[K]? = some (.cells #[a, b] T (0, 0)) ∧ v.heap[g]? = some (.cells #[.bool true, .string s, .int .i64 r.p, .int .i64 r.e] 35 (0, 0)) ∧ Below w.heap.size w v ∧ K ≠ g ∧ w.heap.size ≤ K
/-- The block laid behind the call. -/
theorem dec_late {w v1 : World} {g : Nat} {s : ByteArray} {r : Rs} {T : TypeId} {a b : Value} (h : w.heap[g]? = some (.cells #[.bool true, .string s, .int .i64 r.p, .int .i64 r.e] 35 (0, 0))) (b1 : Below w.heap.size w v1) : Decoded w g v1.heap.size s r T a b (v1.alloc (.cells #[a, b] T)) := by
  have hb := b1.alloc b1.size (.cells #[a, b] T)
  exact ⟨heap_alloc_new _ _, old_obj hb h, hb, by have := obj_lt h; have := b1.size; omega, b1.size⟩
/-- The block laid ahead of the call. -/
theorem dec_early {w v1 : World} {g : Nat} {s : ByteArray} {r : Rs} {T : TypeId} {z y a b : Value} (h : w.heap[g]? = some (.cells #[.bool true, .string s, .int .i64 r.p, .int .i64 r.e] 35 (0, 0))) (b1 : Below (w.alloc (.cells #[z, y] T)).drew.heap.size (w.alloc (.cells #[z, y] T)).drew v1) : Decoded w g w.heap.size s r T a b ((v1.setCell ⟨w.heap.size, 0, none⟩ a).setCell ⟨w.heap.size, 1, none⟩ b) := by
  have h0 : Below w.heap.size w (w.alloc (.cells #[z, y] T)).drew := ((Below.refl _ w).alloc (Nat.le_refl _) _).drew
  have hb := h0.trans (b1.mono h0.size)
  have hz : v1.heap[w.heap.size]? = some (.cells #[z, y] T (0, 0)) := old_obj b1 (heap_alloc_new _ _)
  have hb2 := two_below hb (Nat.le_refl _) a b
  exact ⟨two_stored hz a b, old_obj hb2 h, hb2, by have := obj_lt h; omega, Nat.le_refl _⟩
theorem Decoded.err {w v : World} {g K : Nat} {s : ByteArray} {r : Rs} {T : TypeId} {a b : Value} (h : Decoded w g K s r T a b v) (x : Int) : Rd (v.setCell ⟨g, 3, none⟩ (.int .i64 x)) g s ⟨r.p, x⟩ ∧ w.grownBy (v.setCell ⟨g, 3, none⟩ (.int .i64 x)) (some g) :=
  ⟨⟨_, heap_setCell_same _ g 3 _ _ (.int .i64 x) h.2.1, rfl⟩, Lib.grownBy_setB (Lib.grownBy_below (World.grownBy.refl _ _) h.2.2.1) 3 _⟩
theorem Decoded.put {w v : World} {g K : Nat} {s : ByteArray} {r : Rs} {T : TypeId} {a b : Value} (h : Decoded w g K s r T a b v) (x : Int) : Rd (v.setCell ⟨g, 2, none⟩ (.int .i64 x)) g s ⟨x, r.e⟩ ∧ w.grownBy (v.setCell ⟨g, 2, none⟩ (.int .i64 x)) (some g) :=
  ⟨⟨_, heap_setCell_same _ g 2 _ _ (.int .i64 x) h.2.1, rfl⟩, Lib.grownBy_setB (Lib.grownBy_below (World.grownBy.refl _ _) h.2.2.1) 2 _⟩

set_option maxHeartbeats 4000000 in
theorem read_int (s : ByteArray) (r : Rs) (g : Nat) (x m a b : Int) (t E : Int) (q : Rs) (w : World) (h : Rd w g s r) (HV : Hid (b = if r.e = 0 then (if E = 0 then a else 0) else 0)) (HQ : Hid (q = if r.e = 0 then stp r t E else r))
    (HD : Hid (∀ v, Calls Try.prog 39 #[.agg #[.int .i64 x, .int .i64 m], .string s, .int .i64 r.p] v fun e w' => e = .returned (.tuple #[.agg #[.int .i64 a, .int .i64 t], .int .i64 E]) ∧ Below v.heap.size v w')) :
    Calls Try.prog 38 #[.pointer (some ⟨g, 0, none⟩), .func (.func 39) #[.agg #[.int .i64 x, .int .i64 m]] #[]] w fun e w' => e = .returned (.int .i64 b) ∧ Rd w' g s q ∧ w.grownBy w' (some g) := by
  have hh := rd_heap h
  have HF : Hid (∀ v, Rd v g s r → Calls Try.prog 37 #[.pointer (some ⟨g, 0, none⟩)] v fun e w' => e = .returned (.int .i64 r.e) ∧ v = w') := Lib.hid fun v h => (fault_any s r g v h).mono fun _ _ h => ⟨h.1, h.2.symm⟩
  have HR := Lib.hid h
  have n1 : ¬ (g = w.heap.size) := by have := obj_lt hh; omega
  have n2 : ¬ (w.heap.size = g) := by omega
  have HH := Lib.hid hh
  have HZ : Hid ((w.alloc (.cells #[.int .i64 0, .int .i64 0] 98)).drew.heap[g]? = some (.cells #[.bool true, .string s, .int .i64 r.p, .int .i64 r.e] 35 (0, 0))) := Lib.hid (old_obj ((Below.refl _ w).alloc (Nat.le_refl _) _).drew hh)
  obtain ⟨c0, c1, c2, c3, f2, f3⟩ := four_cells hh
  clear h hh
  by_cases h0 : r.e = 0
  · rw [h0] at HF
    by_cases hE : E = 0
    · have e2 : q = ⟨t, r.e⟩ := by rw [HQ.out, if_pos h0]; unfold stp; rw [if_pos hE]
      have e1 := show b = a by rw [HV.out, if_pos h0, if_pos hE]
      rw [e1, e2]
      subst hE
      clear HQ e1 e2 HV h0
      go_enter Try.func38, Try.ntmps38
      go_wp2_with (go_at_call 37; refine (HF.out _ HR.out).mono ?_; rintro e w1 ⟨rfl, rfl⟩)
      go_upto_region 4 with fail
      go_cut [6, 7] (fun s6 s7 wx => s7 = .int .i64 0 ∧ ∃ (K : Nat), s6 = .pointer (some ⟨K, 0, none⟩) ∧ Hid (Decoded w g K s r 98 (.int .i64 a) (.int .i64 t) wx))
      case first =>
        go_region_held3 (fun v => v.cell? ⟨g, 1, none⟩ = some (.string s) ∧ v.cell? ⟨g, 2, none⟩ = some (.int .i64 r.p)) (first | go_keep)
          (first
            | (go_at_call 39; refine (HD.out w.drew).mono ?_; rintro e w1 ⟨rfl, b1⟩; have hv := old_obj b1 (show w.drew.heap[g]? = _ from HH.out); obtain ⟨c0, c1, c2, c3, f2, f3⟩ := four_cells hv; have HB1 := Lib.hid ((Below.refl _ w).drew.trans b1); clear hv b1)
            | (go_at_call 39; refine (HD.out (w.alloc (.cells #[.int .i64 0, .int .i64 0] 98)).drew).mono ?_; rintro e w1 ⟨rfl, b1⟩; have hv := old_obj b1 (HZ.out); have hz := old_obj b1 (show (w.alloc (.cells #[.int .i64 0, .int .i64 0] 98)).drew.heap[w.heap.size]? = _ from heap_alloc_new _ _); obtain ⟨c0, c1, c2, c3, f2, f3⟩ := four_cells hv; obtain ⟨z0, z1, y0, y1⟩ := two_cells hz; have HB1 := Lib.hid b1; clear hv hz b1))
        · go_wp2_with fail
          go_meet
          exact ⟨rfl, w1.heap.size, rfl, Lib.hid (dec_late HH.out HB1.out)⟩
        · go_wp2_with fail
          go_meet
          exact ⟨rfl, w.heap.size, rfl, Lib.hid (dec_early HH.out HB1.out)⟩
      case rest =>
        obtain ⟨rfl, K, rfl, HD1⟩ := hcut
        obtain ⟨z0, z1, _, _⟩ := two_cells HD1.out.1
        obtain ⟨c0, c1, c2, c3, f2, f3⟩ := four_cells HD1.out.2.1
        have m1 := HD1.out.2.2.2.1
        clear HD
        
        go_wp2
        go_ret
        exact ⟨rfl, (HD1.out.put t).1, (HD1.out.put t).2⟩

    · have hde : (E == 0) = false := beq_eq_false_iff_ne.2 hE
      have e2 : q = ⟨r.p, E⟩ := by rw [HQ.out, if_pos h0]; unfold stp; rw [if_neg hE]
      have e1 := show b = 0 by rw [HV.out, if_pos h0, if_neg hE]
      rw [e1, e2]
      clear HQ e1 e2 HV h0 hE
      go_enter Try.func38, Try.ntmps38
      go_wp2_with (go_at_call 37; refine (HF.out _ HR.out).mono ?_; rintro e w1 ⟨rfl, rfl⟩)
      go_upto_region 4 with fail
      go_cut [6, 7] (fun s6 s7 wx => s7 = .int .i64 E ∧ ∃ (K : Nat), s6 = .pointer (some ⟨K, 0, none⟩) ∧ Hid (Decoded w g K s r 98 (.int .i64 a) (.int .i64 t) wx))
      case first =>
        go_region_held3 (fun v => v.cell? ⟨g, 1, none⟩ = some (.string s) ∧ v.cell? ⟨g, 2, none⟩ = some (.int .i64 r.p)) (first | go_keep)
          (first
            | (go_at_call 39; refine (HD.out w.drew).mono ?_; rintro e w1 ⟨rfl, b1⟩; have hv := old_obj b1 (show w.drew.heap[g]? = _ from HH.out); obtain ⟨c0, c1, c2, c3, f2, f3⟩ := four_cells hv; have HB1 := Lib.hid ((Below.refl _ w).drew.trans b1); clear hv b1)
            | (go_at_call 39; refine (HD.out (w.alloc (.cells #[.int .i64 0, .int .i64 0] 98)).drew).mono ?_; rintro e w1 ⟨rfl, b1⟩; have hv := old_obj b1 (HZ.out); have hz := old_obj b1 (show (w.alloc (.cells #[.int .i64 0, .int .i64 0] 98)).drew.heap[w.heap.size]? = _ from heap_alloc_new _ _); obtain ⟨c0, c1, c2, c3, f2, f3⟩ := four_cells hv; obtain ⟨z0, z1, y0, y1⟩ := two_cells hz; have HB1 := Lib.hid b1; clear hv hz b1))
        · go_wp2_with fail
          go_meet
          exact ⟨rfl, w1.heap.size, rfl, Lib.hid (dec_late HH.out HB1.out)⟩
        · go_wp2_with fail
          go_meet
          exact ⟨rfl, w.heap.size, rfl, Lib.hid (dec_early HH.out HB1.out)⟩
      case rest =>
        obtain ⟨rfl, K, rfl, HD1⟩ := hcut
        obtain ⟨z0, z1, _, _⟩ := two_cells HD1.out.1
        obtain ⟨c0, c1, c2, c3, f2, f3⟩ := four_cells HD1.out.2.1
        have m1 := HD1.out.2.2.2.1
        clear HD
        skip
        go_wp2
        go_ret
        exact ⟨rfl, (HD1.out.err E).1, (HD1.out.err E).2⟩

  · have hde : (r.e == 0) = false := beq_eq_false_iff_ne.2 h0
    have e2 : q = r := by rw [HQ.out, if_neg h0]
    have e1 := show b = 0 by rw [HV.out, if_neg h0]
    rw [e1, e2]
    clear HD HQ e1 e2 HV h0
    go_enter Try.func38, Try.ntmps38
    go_wp2_with (go_at_call 37; refine (HF.out _ HR.out).mono ?_; rintro e w1 ⟨rfl, rfl⟩)
    go_ret
    exact ⟨rfl, HR.out, World.grownBy.refl _ _⟩

set_option maxHeartbeats 4000000 in
theorem read_text (s : ByteArray) (r : Rs) (g : Nat) (m : Int) (a b : ByteArray) (t E : Int) (q : Rs) (w : World) (h : Rd w g s r) (HV : Hid (b = if r.e = 0 then (if E = 0 then a else ⟨#[]⟩) else ⟨#[]⟩)) (HQ : Hid (q = if r.e = 0 then stp r t E else r))
    (HD : Hid (∀ v, Calls Try.prog 41 #[.agg #[.int .i64 0, .int .i64 m], .string s, .int .i64 r.p] v fun e w' => ∃ u : ByteArray, e = .returned (.tuple #[.agg #[.string u, .int .i64 t], .int .i64 E]) ∧ Hid (E = 0 → u = a) ∧ Below v.heap.size v w')) :
    Calls Try.prog 40 #[.pointer (some ⟨g, 0, none⟩), .func (.func 41) #[.agg #[.int .i64 0, .int .i64 m]] #[]] w fun e w' => e = .returned (.string b) ∧ Rd w' g s q ∧ w.grownBy w' (some g) := by
  have hh := rd_heap h
  have HF : Hid (∀ v, Rd v g s r → Calls Try.prog 37 #[.pointer (some ⟨g, 0, none⟩)] v fun e w' => e = .returned (.int .i64 r.e) ∧ v = w') := Lib.hid fun v h => (fault_any s r g v h).mono fun _ _ h => ⟨h.1, h.2.symm⟩
  have HR := Lib.hid h
  have n1 : ¬ (g = w.heap.size) := by have := obj_lt hh; omega
  have n2 : ¬ (w.heap.size = g) := by omega
  have HH := Lib.hid hh
  have HZ : Hid ((w.alloc (.cells #[.string ⟨#[]⟩, .int .i64 0] 102)).drew.heap[g]? = some (.cells #[.bool true, .string s, .int .i64 r.p, .int .i64 r.e] 35 (0, 0))) := Lib.hid (old_obj ((Below.refl _ w).alloc (Nat.le_refl _) _).drew hh)
  obtain ⟨c0, c1, c2, c3, f2, f3⟩ := four_cells hh
  clear h hh
  by_cases h0 : r.e = 0
  · rw [h0] at HF
    by_cases hE : E = 0
    · have e2 : q = ⟨t, r.e⟩ := by rw [HQ.out, if_pos h0]; unfold stp; rw [if_pos hE]
      have e1 := show b = a by rw [HV.out, if_pos h0, if_pos hE]
      rw [e1, e2]
      subst hE
      clear HQ e1 e2 HV h0
      go_enter Try.func40, Try.ntmps40
      go_wp2_with (go_at_call 37; refine (HF.out _ HR.out).mono ?_; rintro e w1 ⟨rfl, rfl⟩)
      go_upto_region 4 with fail
      go_cut [6, 7] (fun s6 s7 wx => s7 = .int .i64 0 ∧ ∃ (K : Nat) (u : ByteArray), s6 = .pointer (some ⟨K, 0, none⟩) ∧ Hid ((0 : Int) = 0 → u = a) ∧ Hid (Decoded w g K s r 102 (.string u) (.int .i64 t) wx))
      case first =>
        go_region_held3 (fun v => v.cell? ⟨g, 1, none⟩ = some (.string s) ∧ v.cell? ⟨g, 2, none⟩ = some (.int .i64 r.p)) (first | go_keep)
          (first
            | (go_at_call 41; refine (HD.out w.drew).mono ?_; rintro e w1 ⟨u, rfl, hu, b1⟩; have hv := old_obj b1 (show w.drew.heap[g]? = _ from HH.out); obtain ⟨c0, c1, c2, c3, f2, f3⟩ := four_cells hv; have HB1 := Lib.hid ((Below.refl _ w).drew.trans b1); clear hv b1)
            | (go_at_call 41; refine (HD.out (w.alloc (.cells #[.string ⟨#[]⟩, .int .i64 0] 102)).drew).mono ?_; rintro e w1 ⟨u, rfl, hu, b1⟩; have hv := old_obj b1 (HZ.out); have hz := old_obj b1 (show (w.alloc (.cells #[.string ⟨#[]⟩, .int .i64 0] 102)).drew.heap[w.heap.size]? = _ from heap_alloc_new _ _); obtain ⟨c0, c1, c2, c3, f2, f3⟩ := four_cells hv; obtain ⟨z0, z1, y0, y1⟩ := two_cells hz; have HB1 := Lib.hid b1; clear hv hz b1))
        · go_wp2_with fail
          go_meet
          exact ⟨rfl, w1.heap.size, u, rfl, hu, Lib.hid (dec_late HH.out HB1.out)⟩
        · go_wp2_with fail
          go_meet
          exact ⟨rfl, w.heap.size, u, rfl, hu, Lib.hid (dec_early HH.out HB1.out)⟩
      case rest =>
        obtain ⟨rfl, K, u, rfl, hu, HD1⟩ := hcut
        obtain ⟨z0, z1, _, _⟩ := two_cells HD1.out.1
        obtain ⟨c0, c1, c2, c3, f2, f3⟩ := four_cells HD1.out.2.1
        have m1 := HD1.out.2.2.2.1
        clear HD
        obtain rfl := hu.out rfl
        go_wp2
        go_ret
        exact ⟨rfl, (HD1.out.put t).1, (HD1.out.put t).2⟩

    · have hde : (E == 0) = false := beq_eq_false_iff_ne.2 hE
      have e2 : q = ⟨r.p, E⟩ := by rw [HQ.out, if_pos h0]; unfold stp; rw [if_neg hE]
      have e1 := show b = ⟨#[]⟩ by rw [HV.out, if_pos h0, if_neg hE]
      rw [e1, e2]
      clear HQ e1 e2 HV h0 hE
      go_enter Try.func40, Try.ntmps40
      go_wp2_with (go_at_call 37; refine (HF.out _ HR.out).mono ?_; rintro e w1 ⟨rfl, rfl⟩)
      go_upto_region 4 with fail
      go_cut [6, 7] (fun s6 s7 wx => s7 = .int .i64 E ∧ ∃ (K : Nat) (u : ByteArray), s6 = .pointer (some ⟨K, 0, none⟩) ∧ Hid ((E : Int) = 0 → u = a) ∧ Hid (Decoded w g K s r 102 (.string u) (.int .i64 t) wx))
      case first =>
        go_region_held3 (fun v => v.cell? ⟨g, 1, none⟩ = some (.string s) ∧ v.cell? ⟨g, 2, none⟩ = some (.int .i64 r.p)) (first | go_keep)
          (first
            | (go_at_call 41; refine (HD.out w.drew).mono ?_; rintro e w1 ⟨u, rfl, hu, b1⟩; have hv := old_obj b1 (show w.drew.heap[g]? = _ from HH.out); obtain ⟨c0, c1, c2, c3, f2, f3⟩ := four_cells hv; have HB1 := Lib.hid ((Below.refl _ w).drew.trans b1); clear hv b1)
            | (go_at_call 41; refine (HD.out (w.alloc (.cells #[.string ⟨#[]⟩, .int .i64 0] 102)).drew).mono ?_; rintro e w1 ⟨u, rfl, hu, b1⟩; have hv := old_obj b1 (HZ.out); have hz := old_obj b1 (show (w.alloc (.cells #[.string ⟨#[]⟩, .int .i64 0] 102)).drew.heap[w.heap.size]? = _ from heap_alloc_new _ _); obtain ⟨c0, c1, c2, c3, f2, f3⟩ := four_cells hv; obtain ⟨z0, z1, y0, y1⟩ := two_cells hz; have HB1 := Lib.hid b1; clear hv hz b1))
        · go_wp2_with fail
          go_meet
          exact ⟨rfl, w1.heap.size, u, rfl, hu, Lib.hid (dec_late HH.out HB1.out)⟩
        · go_wp2_with fail
          go_meet
          exact ⟨rfl, w.heap.size, u, rfl, hu, Lib.hid (dec_early HH.out HB1.out)⟩
      case rest =>
        obtain ⟨rfl, K, u, rfl, hu, HD1⟩ := hcut
        obtain ⟨z0, z1, _, _⟩ := two_cells HD1.out.1
        obtain ⟨c0, c1, c2, c3, f2, f3⟩ := four_cells HD1.out.2.1
        have m1 := HD1.out.2.2.2.1
        clear HD
        skip
        go_wp2
        go_ret
        exact ⟨rfl, (HD1.out.err E).1, (HD1.out.err E).2⟩

  · have hde : (r.e == 0) = false := beq_eq_false_iff_ne.2 h0
    have e2 : q = r := by rw [HQ.out, if_neg h0]
    have e1 := show b = ⟨#[]⟩ by rw [HV.out, if_neg h0]
    rw [e1, e2]
    clear HD HQ e1 e2 HV h0
    go_enter Try.func40, Try.ntmps40
    go_wp2_with (go_at_call 37; refine (HF.out _ HR.out).mono ?_; rintro e w1 ⟨rfl, rfl⟩)
    go_ret
    exact ⟨rfl, HR.out, World.grownBy.refl _ _⟩

set_option maxHeartbeats 4000000 in
theorem read_ser (s : ByteArray) (r : Rs) (g : Nat) (a b : ByteArray) (t E : Int) (q : Rs) (w : World) (h : Rd w g s r) (HV : Hid (b = if r.e = 0 then (if E = 0 then a else ⟨#[]⟩) else ⟨#[]⟩)) (HQ : Hid (q = if r.e = 0 then stp r t E else r))
    (HD : Hid (∀ v, Calls Try.prog 42 #[.string s, .int .i64 r.p] v fun e w' => ∃ u : ByteArray, e = .returned (.tuple #[.agg #[.string u, .int .i64 t], .int .i64 E]) ∧ Hid (E = 0 → u = a) ∧ Below v.heap.size v w')) :
    Calls Try.prog 40 #[.pointer (some ⟨g, 0, none⟩), .func (.func 42) #[] #[]] w fun e w' => e = .returned (.string b) ∧ Rd w' g s q ∧ w.grownBy w' (some g) := by
  have hh := rd_heap h
  have HF : Hid (∀ v, Rd v g s r → Calls Try.prog 37 #[.pointer (some ⟨g, 0, none⟩)] v fun e w' => e = .returned (.int .i64 r.e) ∧ v = w') := Lib.hid fun v h => (fault_any s r g v h).mono fun _ _ h => ⟨h.1, h.2.symm⟩
  have HR := Lib.hid h
  have n1 : ¬ (g = w.heap.size) := by have := obj_lt hh; omega
  have n2 : ¬ (w.heap.size = g) := by omega
  have HH := Lib.hid hh
  have HZ : Hid ((w.alloc (.cells #[.string ⟨#[]⟩, .int .i64 0] 102)).drew.heap[g]? = some (.cells #[.bool true, .string s, .int .i64 r.p, .int .i64 r.e] 35 (0, 0))) := Lib.hid (old_obj ((Below.refl _ w).alloc (Nat.le_refl _) _).drew hh)
  obtain ⟨c0, c1, c2, c3, f2, f3⟩ := four_cells hh
  clear h hh
  by_cases h0 : r.e = 0
  · rw [h0] at HF
    by_cases hE : E = 0
    · have e2 : q = ⟨t, r.e⟩ := by rw [HQ.out, if_pos h0]; unfold stp; rw [if_pos hE]
      have e1 := show b = a by rw [HV.out, if_pos h0, if_pos hE]
      rw [e1, e2]
      subst hE
      clear HQ e1 e2 HV h0
      go_enter Try.func40, Try.ntmps40
      go_wp2_with (go_at_call 37; refine (HF.out _ HR.out).mono ?_; rintro e w1 ⟨rfl, rfl⟩)
      go_upto_region 4 with fail
      go_cut [6, 7] (fun s6 s7 wx => s7 = .int .i64 0 ∧ ∃ (K : Nat) (u : ByteArray), s6 = .pointer (some ⟨K, 0, none⟩) ∧ Hid ((0 : Int) = 0 → u = a) ∧ Hid (Decoded w g K s r 102 (.string u) (.int .i64 t) wx))
      case first =>
        go_region_held3 (fun v => v.cell? ⟨g, 1, none⟩ = some (.string s) ∧ v.cell? ⟨g, 2, none⟩ = some (.int .i64 r.p)) (first | go_keep)
          (first
            | (go_at_call 42; refine (HD.out w.drew).mono ?_; rintro e w1 ⟨u, rfl, hu, b1⟩; have hv := old_obj b1 (show w.drew.heap[g]? = _ from HH.out); obtain ⟨c0, c1, c2, c3, f2, f3⟩ := four_cells hv; have HB1 := Lib.hid ((Below.refl _ w).drew.trans b1); clear hv b1)
            | (go_at_call 42; refine (HD.out (w.alloc (.cells #[.string ⟨#[]⟩, .int .i64 0] 102)).drew).mono ?_; rintro e w1 ⟨u, rfl, hu, b1⟩; have hv := old_obj b1 (HZ.out); have hz := old_obj b1 (show (w.alloc (.cells #[.string ⟨#[]⟩, .int .i64 0] 102)).drew.heap[w.heap.size]? = _ from heap_alloc_new _ _); obtain ⟨c0, c1, c2, c3, f2, f3⟩ := four_cells hv; obtain ⟨z0, z1, y0, y1⟩ := two_cells hz; have HB1 := Lib.hid b1; clear hv hz b1))
        · go_wp2_with fail
          go_meet
          exact ⟨rfl, w1.heap.size, u, rfl, hu, Lib.hid (dec_late HH.out HB1.out)⟩
        · go_wp2_with fail
          go_meet
          exact ⟨rfl, w.heap.size, u, rfl, hu, Lib.hid (dec_early HH.out HB1.out)⟩
      case rest =>
        obtain ⟨rfl, K, u, rfl, hu, HD1⟩ := hcut
        obtain ⟨z0, z1, _, _⟩ := two_cells HD1.out.1
        obtain ⟨c0, c1, c2, c3, f2, f3⟩ := four_cells HD1.out.2.1
        have m1 := HD1.out.2.2.2.1
        clear HD
        obtain rfl := hu.out rfl
        go_wp2
        go_ret
        exact ⟨rfl, (HD1.out.put t).1, (HD1.out.put t).2⟩

    · have hde : (E == 0) = false := beq_eq_false_iff_ne.2 hE
      have e2 : q = ⟨r.p, E⟩ := by rw [HQ.out, if_pos h0]; unfold stp; rw [if_neg hE]
      have e1 := show b = ⟨#[]⟩ by rw [HV.out, if_pos h0, if_neg hE]
      rw [e1, e2]
      clear HQ e1 e2 HV h0 hE
      go_enter Try.func40, Try.ntmps40
      go_wp2_with (go_at_call 37; refine (HF.out _ HR.out).mono ?_; rintro e w1 ⟨rfl, rfl⟩)
      go_upto_region 4 with fail
      go_cut [6, 7] (fun s6 s7 wx => s7 = .int .i64 E ∧ ∃ (K : Nat) (u : ByteArray), s6 = .pointer (some ⟨K, 0, none⟩) ∧ Hid ((E : Int) = 0 → u = a) ∧ Hid (Decoded w g K s r 102 (.string u) (.int .i64 t) wx))
      case first =>
        go_region_held3 (fun v => v.cell? ⟨g, 1, none⟩ = some (.string s) ∧ v.cell? ⟨g, 2, none⟩ = some (.int .i64 r.p)) (first | go_keep)
          (first
            | (go_at_call 42; refine (HD.out w.drew).mono ?_; rintro e w1 ⟨u, rfl, hu, b1⟩; have hv := old_obj b1 (show w.drew.heap[g]? = _ from HH.out); obtain ⟨c0, c1, c2, c3, f2, f3⟩ := four_cells hv; have HB1 := Lib.hid ((Below.refl _ w).drew.trans b1); clear hv b1)
            | (go_at_call 42; refine (HD.out (w.alloc (.cells #[.string ⟨#[]⟩, .int .i64 0] 102)).drew).mono ?_; rintro e w1 ⟨u, rfl, hu, b1⟩; have hv := old_obj b1 (HZ.out); have hz := old_obj b1 (show (w.alloc (.cells #[.string ⟨#[]⟩, .int .i64 0] 102)).drew.heap[w.heap.size]? = _ from heap_alloc_new _ _); obtain ⟨c0, c1, c2, c3, f2, f3⟩ := four_cells hv; obtain ⟨z0, z1, y0, y1⟩ := two_cells hz; have HB1 := Lib.hid b1; clear hv hz b1))
        · go_wp2_with fail
          go_meet
          exact ⟨rfl, w1.heap.size, u, rfl, hu, Lib.hid (dec_late HH.out HB1.out)⟩
        · go_wp2_with fail
          go_meet
          exact ⟨rfl, w.heap.size, u, rfl, hu, Lib.hid (dec_early HH.out HB1.out)⟩
      case rest =>
        obtain ⟨rfl, K, u, rfl, hu, HD1⟩ := hcut
        obtain ⟨z0, z1, _, _⟩ := two_cells HD1.out.1
        obtain ⟨c0, c1, c2, c3, f2, f3⟩ := four_cells HD1.out.2.1
        have m1 := HD1.out.2.2.2.1
        clear HD
        skip
        go_wp2
        go_ret
        exact ⟨rfl, (HD1.out.err E).1, (HD1.out.err E).2⟩

  · have hde : (r.e == 0) = false := beq_eq_false_iff_ne.2 h0
    have e2 : q = r := by rw [HQ.out, if_neg h0]
    have e1 := show b = ⟨#[]⟩ by rw [HV.out, if_neg h0]
    rw [e1, e2]
    clear HD HQ e1 e2 HV h0
    go_enter Try.func40, Try.ntmps40
    go_wp2_with (go_at_call 37; refine (HF.out _ HR.out).mono ?_; rintro e w1 ⟨rfl, rfl⟩)
    go_ret
    exact ⟨rfl, HR.out, World.grownBy.refl _ _⟩

set_option maxHeartbeats 4000000 in
theorem read_bool (s : ByteArray) (r : Rs) (g : Nat) (a b : Bool) (t E : Int) (q : Rs) (w : World) (h : Rd w g s r) (HV : Hid (b = if r.e = 0 then (if E = 0 then a else false) else false)) (HQ : Hid (q = if r.e = 0 then stp r t E else r))
    (HD : Hid (∀ v, Calls Try.prog 46 #[.string s, .int .i64 r.p] v fun e w' => e = .returned (.tuple #[.agg #[.bool a, .int .i64 t], .int .i64 E]) ∧ Below v.heap.size v w')) :
    Calls Try.prog 45 #[.pointer (some ⟨g, 0, none⟩), .func (.func 46) #[] #[]] w fun e w' => e = .returned (.bool b) ∧ Rd w' g s q ∧ w.grownBy w' (some g) := by
  have hh := rd_heap h
  have HF : Hid (∀ v, Rd v g s r → Calls Try.prog 37 #[.pointer (some ⟨g, 0, none⟩)] v fun e w' => e = .returned (.int .i64 r.e) ∧ v = w') := Lib.hid fun v h => (fault_any s r g v h).mono fun _ _ h => ⟨h.1, h.2.symm⟩
  have HR := Lib.hid h
  have n1 : ¬ (g = w.heap.size) := by have := obj_lt hh; omega
  have n2 : ¬ (w.heap.size = g) := by omega
  have HH := Lib.hid hh
  have HZ : Hid ((w.alloc (.cells #[.bool false, .int .i64 0] 111)).drew.heap[g]? = some (.cells #[.bool true, .string s, .int .i64 r.p, .int .i64 r.e] 35 (0, 0))) := Lib.hid (old_obj ((Below.refl _ w).alloc (Nat.le_refl _) _).drew hh)
  obtain ⟨c0, c1, c2, c3, f2, f3⟩ := four_cells hh
  clear h hh
  by_cases h0 : r.e = 0
  · rw [h0] at HF
    by_cases hE : E = 0
    · have e2 : q = ⟨t, r.e⟩ := by rw [HQ.out, if_pos h0]; unfold stp; rw [if_pos hE]
      have e1 := show b = a by rw [HV.out, if_pos h0, if_pos hE]
      rw [e1, e2]
      subst hE
      clear HQ e1 e2 HV h0
      go_enter Try.func45, Try.ntmps45
      go_wp2_with (go_at_call 37; refine (HF.out _ HR.out).mono ?_; rintro e w1 ⟨rfl, rfl⟩)
      go_upto_region 4 with fail
      go_cut [6, 7] (fun s6 s7 wx => s7 = .int .i64 0 ∧ ∃ (K : Nat), s6 = .pointer (some ⟨K, 0, none⟩) ∧ Hid (Decoded w g K s r 111 (.bool a) (.int .i64 t) wx))
      case first =>
        go_region_held3 (fun v => v.cell? ⟨g, 1, none⟩ = some (.string s) ∧ v.cell? ⟨g, 2, none⟩ = some (.int .i64 r.p)) (first | go_keep)
          (first
            | (go_at_call 46; refine (HD.out w.drew).mono ?_; rintro e w1 ⟨rfl, b1⟩; have hv := old_obj b1 (show w.drew.heap[g]? = _ from HH.out); obtain ⟨c0, c1, c2, c3, f2, f3⟩ := four_cells hv; have HB1 := Lib.hid ((Below.refl _ w).drew.trans b1); clear hv b1)
            | (go_at_call 46; refine (HD.out (w.alloc (.cells #[.bool false, .int .i64 0] 111)).drew).mono ?_; rintro e w1 ⟨rfl, b1⟩; have hv := old_obj b1 (HZ.out); have hz := old_obj b1 (show (w.alloc (.cells #[.bool false, .int .i64 0] 111)).drew.heap[w.heap.size]? = _ from heap_alloc_new _ _); obtain ⟨c0, c1, c2, c3, f2, f3⟩ := four_cells hv; obtain ⟨z0, z1, y0, y1⟩ := two_cells hz; have HB1 := Lib.hid b1; clear hv hz b1))
        · go_wp2_with fail
          go_meet
          exact ⟨rfl, w1.heap.size, rfl, Lib.hid (dec_late HH.out HB1.out)⟩
        · go_wp2_with fail
          go_meet
          exact ⟨rfl, w.heap.size, rfl, Lib.hid (dec_early HH.out HB1.out)⟩
      case rest =>
        obtain ⟨rfl, K, rfl, HD1⟩ := hcut
        obtain ⟨z0, z1, _, _⟩ := two_cells HD1.out.1
        obtain ⟨c0, c1, c2, c3, f2, f3⟩ := four_cells HD1.out.2.1
        have m1 := HD1.out.2.2.2.1
        clear HD
        
        go_wp2
        go_ret
        exact ⟨rfl, (HD1.out.put t).1, (HD1.out.put t).2⟩

    · have hde : (E == 0) = false := beq_eq_false_iff_ne.2 hE
      have e2 : q = ⟨r.p, E⟩ := by rw [HQ.out, if_pos h0]; unfold stp; rw [if_neg hE]
      have e1 := show b = false by rw [HV.out, if_pos h0, if_neg hE]
      rw [e1, e2]
      clear HQ e1 e2 HV h0 hE
      go_enter Try.func45, Try.ntmps45
      go_wp2_with (go_at_call 37; refine (HF.out _ HR.out).mono ?_; rintro e w1 ⟨rfl, rfl⟩)
      go_upto_region 4 with fail
      go_cut [6, 7] (fun s6 s7 wx => s7 = .int .i64 E ∧ ∃ (K : Nat), s6 = .pointer (some ⟨K, 0, none⟩) ∧ Hid (Decoded w g K s r 111 (.bool a) (.int .i64 t) wx))
      case first =>
        go_region_held3 (fun v => v.cell? ⟨g, 1, none⟩ = some (.string s) ∧ v.cell? ⟨g, 2, none⟩ = some (.int .i64 r.p)) (first | go_keep)
          (first
            | (go_at_call 46; refine (HD.out w.drew).mono ?_; rintro e w1 ⟨rfl, b1⟩; have hv := old_obj b1 (show w.drew.heap[g]? = _ from HH.out); obtain ⟨c0, c1, c2, c3, f2, f3⟩ := four_cells hv; have HB1 := Lib.hid ((Below.refl _ w).drew.trans b1); clear hv b1)
            | (go_at_call 46; refine (HD.out (w.alloc (.cells #[.bool false, .int .i64 0] 111)).drew).mono ?_; rintro e w1 ⟨rfl, b1⟩; have hv := old_obj b1 (HZ.out); have hz := old_obj b1 (show (w.alloc (.cells #[.bool false, .int .i64 0] 111)).drew.heap[w.heap.size]? = _ from heap_alloc_new _ _); obtain ⟨c0, c1, c2, c3, f2, f3⟩ := four_cells hv; obtain ⟨z0, z1, y0, y1⟩ := two_cells hz; have HB1 := Lib.hid b1; clear hv hz b1))
        · go_wp2_with fail
          go_meet
          exact ⟨rfl, w1.heap.size, rfl, Lib.hid (dec_late HH.out HB1.out)⟩
        · go_wp2_with fail
          go_meet
          exact ⟨rfl, w.heap.size, rfl, Lib.hid (dec_early HH.out HB1.out)⟩
      case rest =>
        obtain ⟨rfl, K, rfl, HD1⟩ := hcut
        obtain ⟨z0, z1, _, _⟩ := two_cells HD1.out.1
        obtain ⟨c0, c1, c2, c3, f2, f3⟩ := four_cells HD1.out.2.1
        have m1 := HD1.out.2.2.2.1
        clear HD
        skip
        go_wp2
        go_ret
        exact ⟨rfl, (HD1.out.err E).1, (HD1.out.err E).2⟩

  · have hde : (r.e == 0) = false := beq_eq_false_iff_ne.2 h0
    have e2 : q = r := by rw [HQ.out, if_neg h0]
    have e1 := show b = false by rw [HV.out, if_neg h0]
    rw [e1, e2]
    clear HD HQ e1 e2 HV h0
    go_enter Try.func45, Try.ntmps45
    go_wp2_with (go_at_call 37; refine (HF.out _ HR.out).mono ?_; rintro e w1 ⟨rfl, rfl⟩)
    go_ret
    exact ⟨rfl, HR.out, World.grownBy.refl _ _⟩

set_option maxHeartbeats 4000000 in
theorem read_row (s : ByteArray) (r : Rs) (g : Nat) (x m : Int) (L M : List Int) (t E : Int) (q : Rs) (w : World) (h : Rd w g s r) (HV : Hid (M = if r.e = 0 then (if E = 0 then L else []) else [])) (HQ : Hid (q = if r.e = 0 then stp r t E else r))
    (HD : Hid (∀ v, Calls Try.prog 44 #[.agg #[.int .i64 x, .int .i64 m], .string s, .int .i64 r.p] v fun e w' => ∃ u c, e = .returned (.tuple #[.agg #[.slice u L.length c, .int .i64 t], .int .i64 E]) ∧ Hid (IntsNew v.heap.size w'.heap.size w' u L) ∧ Below v.heap.size v w')) :
    Calls Try.prog 43 #[.pointer (some ⟨g, 0, none⟩), .func (.func 44) #[.agg #[.int .i64 x, .int .i64 m]] #[]] w fun e w' => ∃ u c, e = .returned (.slice u M.length c) ∧ IntsNew w.heap.size w'.heap.size w' u M ∧ Rd w' g s q ∧ w.grownBy w' (some g) := by
  have hh := rd_heap h
  have HF : Hid (∀ v, Rd v g s r → Calls Try.prog 37 #[.pointer (some ⟨g, 0, none⟩)] v fun e w' => e = .returned (.int .i64 r.e) ∧ v = w') := Lib.hid fun v h => (fault_any s r g v h).mono fun _ _ h => ⟨h.1, h.2.symm⟩
  have HR := Lib.hid h
  have n1 : ¬ (g = w.heap.size) := by have := obj_lt hh; omega
  have n2 : ¬ (w.heap.size = g) := by omega
  have HH := Lib.hid hh
  have HZ : Hid ((w.alloc (.cells #[.slice none 0 0, .int .i64 0] 107)).drew.heap[g]? = some (.cells #[.bool true, .string s, .int .i64 r.p, .int .i64 r.e] 35 (0, 0))) := Lib.hid (old_obj ((Below.refl _ w).alloc (Nat.le_refl _) _).drew hh)
  obtain ⟨c0, c1, c2, c3, f2, f3⟩ := four_cells hh
  clear h hh
  by_cases h0 : r.e = 0
  · rw [h0] at HF
    by_cases hE : E = 0
    · have e2 : q = ⟨t, r.e⟩ := by rw [HQ.out, if_pos h0]; unfold stp; rw [if_pos hE]
      have e1 := show M = L by rw [HV.out, if_pos h0, if_pos hE]
      rw [e1, e2]
      subst hE
      clear HQ e1 e2 HV h0
      go_enter Try.func43, Try.ntmps43
      go_wp2_with (go_at_call 37; refine (HF.out _ HR.out).mono ?_; rintro e w1 ⟨rfl, rfl⟩)
      go_upto_region 4 with fail
      go_cut [6, 7] (fun s6 s7 wx => s7 = .int .i64 0 ∧ ∃ (K : Nat) (u : Option Addr) (c : Nat), s6 = .pointer (some ⟨K, 0, none⟩) ∧ Hid (IntsNew w.heap.size wx.heap.size wx u L) ∧ Hid (Decoded w g K s r 107 (.slice u L.length c) (.int .i64 t) wx))
      case first =>
        go_region_held3 (fun v => v.cell? ⟨g, 1, none⟩ = some (.string s) ∧ v.cell? ⟨g, 2, none⟩ = some (.int .i64 r.p)) (first | go_keep)
          (first
            | (go_at_call 44; refine (HD.out w.drew).mono ?_; rintro e w1 ⟨u, c, rfl, hu, b1⟩; have hv := old_obj b1 (show w.drew.heap[g]? = _ from HH.out); obtain ⟨c0, c1, c2, c3, f2, f3⟩ := four_cells hv; have HB1 := Lib.hid ((Below.refl _ w).drew.trans b1); clear hv b1)
            | (go_at_call 44; refine (HD.out (w.alloc (.cells #[.slice none 0 0, .int .i64 0] 107)).drew).mono ?_; rintro e w1 ⟨u, c, rfl, hu, b1⟩; have hv := old_obj b1 (HZ.out); have hz := old_obj b1 (show (w.alloc (.cells #[.slice none 0 0, .int .i64 0] 107)).drew.heap[w.heap.size]? = _ from heap_alloc_new _ _); obtain ⟨c0, c1, c2, c3, f2, f3⟩ := four_cells hv; obtain ⟨z0, z1, y0, y1⟩ := two_cells hz; have HB1 := Lib.hid b1; clear hv hz b1))
        · go_wp2_with fail
          go_meet
          exact ⟨rfl, w1.heap.size, u, c, rfl, Lib.hid (hu.out.step ((Below.refl _ w1).alloc (Nat.le_refl _) _)), Lib.hid (dec_late HH.out HB1.out)⟩
        · go_wp2_with fail
          go_meet
          exact ⟨rfl, w.heap.size, u, c, rfl, Lib.hid (((hu.out.set (p := ⟨w.heap.size, 0, none⟩) (by simp) _).set (p := ⟨w.heap.size, 1, none⟩) (by simp) _).wide (by simp) (Nat.le_refl _)), Lib.hid (dec_early HH.out HB1.out)⟩
      case rest =>
        obtain ⟨rfl, K, u, c, rfl, HU, HD1⟩ := hcut
        obtain ⟨z0, z1, _, _⟩ := two_cells HD1.out.1
        obtain ⟨c0, c1, c2, c3, f2, f3⟩ := four_cells HD1.out.2.1
        have m1 := HD1.out.2.2.2.1
        clear HD
        
        go_wp2
        go_ret
        exact ⟨u, c, rfl, HU.out.set (p := ⟨g, 2, none⟩) (obj_lt HH.out) _, (HD1.out.put t).1, (HD1.out.put t).2⟩

    · have hde : (E == 0) = false := beq_eq_false_iff_ne.2 hE
      have e2 : q = ⟨r.p, E⟩ := by rw [HQ.out, if_pos h0]; unfold stp; rw [if_neg hE]
      have e1 := show M = [] by rw [HV.out, if_pos h0, if_neg hE]
      rw [e1, e2]
      clear HQ e1 e2 HV h0 hE
      go_enter Try.func43, Try.ntmps43
      go_wp2_with (go_at_call 37; refine (HF.out _ HR.out).mono ?_; rintro e w1 ⟨rfl, rfl⟩)
      go_upto_region 4 with fail
      go_cut [6, 7] (fun s6 s7 wx => s7 = .int .i64 E ∧ ∃ (K : Nat) (u : Option Addr) (c : Nat), s6 = .pointer (some ⟨K, 0, none⟩) ∧ Hid (IntsNew w.heap.size wx.heap.size wx u L) ∧ Hid (Decoded w g K s r 107 (.slice u L.length c) (.int .i64 t) wx))
      case first =>
        go_region_held3 (fun v => v.cell? ⟨g, 1, none⟩ = some (.string s) ∧ v.cell? ⟨g, 2, none⟩ = some (.int .i64 r.p)) (first | go_keep)
          (first
            | (go_at_call 44; refine (HD.out w.drew).mono ?_; rintro e w1 ⟨u, c, rfl, hu, b1⟩; have hv := old_obj b1 (show w.drew.heap[g]? = _ from HH.out); obtain ⟨c0, c1, c2, c3, f2, f3⟩ := four_cells hv; have HB1 := Lib.hid ((Below.refl _ w).drew.trans b1); clear hv b1)
            | (go_at_call 44; refine (HD.out (w.alloc (.cells #[.slice none 0 0, .int .i64 0] 107)).drew).mono ?_; rintro e w1 ⟨u, c, rfl, hu, b1⟩; have hv := old_obj b1 (HZ.out); have hz := old_obj b1 (show (w.alloc (.cells #[.slice none 0 0, .int .i64 0] 107)).drew.heap[w.heap.size]? = _ from heap_alloc_new _ _); obtain ⟨c0, c1, c2, c3, f2, f3⟩ := four_cells hv; obtain ⟨z0, z1, y0, y1⟩ := two_cells hz; have HB1 := Lib.hid b1; clear hv hz b1))
        · go_wp2_with fail
          go_meet
          exact ⟨rfl, w1.heap.size, u, c, rfl, Lib.hid (hu.out.step ((Below.refl _ w1).alloc (Nat.le_refl _) _)), Lib.hid (dec_late HH.out HB1.out)⟩
        · go_wp2_with fail
          go_meet
          exact ⟨rfl, w.heap.size, u, c, rfl, Lib.hid (((hu.out.set (p := ⟨w.heap.size, 0, none⟩) (by simp) _).set (p := ⟨w.heap.size, 1, none⟩) (by simp) _).wide (by simp) (Nat.le_refl _)), Lib.hid (dec_early HH.out HB1.out)⟩
      case rest =>
        obtain ⟨rfl, K, u, c, rfl, HU, HD1⟩ := hcut
        obtain ⟨z0, z1, _, _⟩ := two_cells HD1.out.1
        obtain ⟨c0, c1, c2, c3, f2, f3⟩ := four_cells HD1.out.2.1
        have m1 := HD1.out.2.2.2.1
        clear HD
        skip
        go_wp2
        go_ret
        exact ⟨none, 0, rfl, Or.inl rfl, (HD1.out.err E).1, (HD1.out.err E).2⟩

  · have hde : (r.e == 0) = false := beq_eq_false_iff_ne.2 h0
    have e2 : q = r := by rw [HQ.out, if_neg h0]
    have e1 := show M = [] by rw [HV.out, if_neg h0]
    rw [e1, e2]
    clear HD HQ e1 e2 HV h0
    go_enter Try.func43, Try.ntmps43
    go_wp2_with (go_at_call 37; refine (HF.out _ HR.out).mono ?_; rintro e w1 ⟨rfl, rfl⟩)
    go_ret
    exact ⟨none, 0, rfl, Or.inl rfl, HR.out, World.grownBy.refl _ _⟩

theorem read_int_none (P : Value) (fv : Value) (w : World) (HF : Hid (∀ v, v = w → Calls Try.prog 37 #[P] v fun e w' => e = .returned (.int .i64 1) ∧ v = w')) :
    Calls Try.prog 38 #[P, fv] w fun e w' => e = .returned (.int .i64 0) ∧ w' = w := by
  go_enter Try.func38, Try.ntmps38
  go_wp2_with (go_at_call 37; refine (HF.out _ rfl).mono ?_; rintro e w1 ⟨rfl, rfl⟩)
  go_ret
  exact ⟨rfl, rfl⟩

theorem read_str_none (P : Value) (fv : Value) (w : World) (HF : Hid (∀ v, v = w → Calls Try.prog 37 #[P] v fun e w' => e = .returned (.int .i64 1) ∧ v = w')) :
    Calls Try.prog 40 #[P, fv] w fun e w' => e = .returned (.string ⟨#[]⟩) ∧ w' = w := by
  go_enter Try.func40, Try.ntmps40
  go_wp2_with (go_at_call 37; refine (HF.out _ rfl).mono ?_; rintro e w1 ⟨rfl, rfl⟩)
  go_ret
  exact ⟨rfl, rfl⟩

theorem read_bool_none (P : Value) (fv : Value) (w : World) (HF : Hid (∀ v, v = w → Calls Try.prog 37 #[P] v fun e w' => e = .returned (.int .i64 1) ∧ v = w')) :
    Calls Try.prog 45 #[P, fv] w fun e w' => e = .returned (.bool false) ∧ w' = w := by
  go_enter Try.func45, Try.ntmps45
  go_wp2_with (go_at_call 37; refine (HF.out _ rfl).mono ?_; rintro e w1 ⟨rfl, rfl⟩)
  go_ret
  exact ⟨rfl, rfl⟩

theorem read_row_none (P : Value) (fv : Value) (w : World) (HF : Hid (∀ v, v = w → Calls Try.prog 37 #[P] v fun e w' => e = .returned (.int .i64 1) ∧ v = w')) :
    Calls Try.prog 43 #[P, fv] w fun e w' => e = .returned (.slice none 0 0) ∧ w' = w := by
  go_enter Try.func43, Try.ntmps43
  go_wp2_with (go_at_call 37; refine (HF.out _ rfl).mono ?_; rintro e w1 ⟨rfl, rfl⟩)
  go_ret
  exact ⟨rfl, rfl⟩
end Go.Proofs.Ytkflpkcggjpbfaa
