/- The document's own Write, for every device, place and text, in every world. -/
import Derived.Test.YtocengdojdeiiaaRef8b
namespace Go.Proofs.Ytocengdojdeiiaa
open Go.RowKit

/-- Behind k sectors written and not fallen, one op more. -/
theorem wrote_count (d : Dv) (p : Nat) (t : ByteArray) (k : Nat) (hd : d.dead = false) (hf : ¬ (0 < d.armed ∧ d.armed ≤ k)) :
    (d.wrote p t k).count.ops = (d.wrote p t (k + 1)).ops ∧ (d.wrote p t k).count.armed = (d.wrote p t (k + 1)).armed ∧ (d.wrote p t k).count.dead = (d.wrote p t (k + 1)).dead ∧ ((d.wrote p t k).hit = decide (d.armed = k + 1)) ∧ (d.wrote p t k).dead = false := by
  unfold Dv.count Dv.hit Dv.wrote
  by_cases ha : 0 < d.armed
  · have h1 : ¬ d.armed ≤ k := fun h => hf ⟨ha, h⟩
    simp only [ha, h1, if_true, true_and, if_false, hd]
    refine ⟨by omega, ?_, ?_, ?_, trivial⟩
    · rw [if_pos (by omega)]; omega
    · by_cases e : d.armed - (k : Int) = 1
      · rw [if_pos e, if_pos (by omega)]
      · rw [if_neg e, if_neg (by omega)]
    · rw [Bool.eq_iff_iff, decide_eq_true_iff, decide_eq_true_iff]; omega
  · simp only [ha, if_false, false_and, hd]
    refine ⟨by omega, trivial, ?_, ?_, trivial⟩
    · rw [if_neg (by omega)]
    · rw [Bool.eq_iff_iff, decide_eq_true_iff, decide_eq_true_iff]; omega
theorem wrote_ops (d : Dv) (p : Nat) (t : ByteArray) (k : Nat) : (d.wrote p t k).ops = d.ops + k ∧ (d.wrote p t k).armed = (if 0 < d.armed then d.armed - k else d.armed) := ⟨rfl, rfl⟩

set_option maxHeartbeats 4000000 in
theorem rwrite_any (B : Nat) (a : Value) (d : Dv) (x : Int) (t : ByteArray) (hx0 : -9223372036854775808 ≤ x) (hx1 : x ≤ 9223372036854775807) (ht : t.size ≤ 4611686018427387904) (h1 : -9223372036854775808 ≤ d.ops) (h2 : d.ops < 9223372036854773807) (h3 : -9223372036854775808 ≤ d.armed) (h4 : d.armed ≤ 9223372036854775807) (h0 : 0 < d.cells.length) (hL : d.cells.length ≤ 2000) (w : World) (hB : B ≤ w.heap.size) (hd : RDev B w a d) :
    Calls Try.prog 28 #[.agg #[a, .int .i64 d.ops, .int .i64 d.armed, .bool d.dead], .int .i64 x, .string t] w fun e w' => ∃ a', e = .returned (.tuple #[.agg #[a', .int .i64 (d.write x t).ops, .int .i64 (d.write x t).armed, .bool (d.write x t).dead], .int .i64 (d.writeE x t)]) ∧ RDev B w' a' (d.write x t) ∧ Below w.heap.size w w' := by
  obtain ⟨g, cap, rfl⟩ := Joins.ownsRow_form hd.row h0
  have hbb : ∀ o u : Obj, Below w.heap.size w ((w.alloc o).alloc u) := fun o u => ((Below.refl _ w).alloc (Nat.le_refl _) o).alloc (by simp) u
  have HB := Lib.hid hbb
  have HD := Lib.hid hd
  have hbad : d.writable x t = false → d.write x t = d := fun h => by unfold Dv.write; rw [h, if_neg (by decide)]
  have hwf : ¬ (d.dead = false ∧ t.size ≠ 0 ∧ t.size % 64 = 0 ∧ 0 ≤ x ∧ x + (t.size / 64 : Nat) ≤ d.cells.length) → d.writable x t = false := fun h => by unfold Dv.writable; exact decide_eq_false h
  clear hbb
  cases hdd : d.dead with
  | true =>
    have hf := hbad (hwf (by rw [hdd]; simp))
    have he : d.writeE x t = 20 := by unfold Dv.writeE; rw [if_pos hdd]
    rw [hf, he, hdd]
    clear hf he hd hbad hwf
    go_enter Try.func28, Try.ntmps28
    go_wp2
    refine bodyPost_ret (results_row_slot rfl _ _ (w.heap.size + 1) _ rfl (dev_load (heap_alloc2_new _ _ _))) rfl ?_
    exact ⟨_, rfl, HD.out.step (HB.out _ _), HB.out _ _⟩
  | false =>
    by_cases hs : t.size = 0 ∨ t.size % 64 ≠ 0
    · have hf := hbad (hwf (by omega))
      have he : d.writeE x t = 2 := by unfold Dv.writeE; rw [hdd, if_neg (by decide), if_pos hs]
      rw [hf, he, hdd]
      clear hf he hd hbad hwf
      by_cases hs0 : t.size = 0
      · have e1 : ((t.size : Int) == 0) = true := by rw [hs0]; rfl
        clear hs0 hs
        go_enter Try.func28, Try.ntmps28
        go_wp2
        refine bodyPost_ret (results_row_slot rfl _ _ (w.heap.size + 1) _ rfl (dev_load (heap_alloc2_new _ _ _))) rfl ?_
        exact ⟨_, rfl, HD.out.step (HB.out _ _), HB.out _ _⟩
      · have e1 : ((t.size : Int) == 0) = false := by rw [beq_eq_false_iff_ne]; omega
        have e2 : ((t.size : Int) % 64 != 0) = true := by rw [bne_iff_ne]; omega
        clear hs0 hs
        go_enter Try.func28, Try.ntmps28
        go_wp2
        refine bodyPost_ret (results_row_slot rfl _ _ (w.heap.size + 1) _ rfl (dev_load (heap_alloc2_new _ _ _))) rfl ?_
        exact ⟨_, rfl, HD.out.step (HB.out _ _), HB.out _ _⟩
    · have e1 : ((t.size : Int) == 0) = false := by rw [beq_eq_false_iff_ne]; omega
      have e2 : ((t.size : Int) % 64 != 0) = false := by
        have : (t.size : Int) % 64 = 0 := by omega
        rw [this]; rfl
      obtain ⟨n, hn⟩ : ∃ n, t.size / 64 = n := ⟨_, rfl⟩
      have hn1 : 1 ≤ n := by omega
      have htn : t.size = 64 * n := by omega
      have hdn : (t.size : Int) / 64 = (n : Int) := by omega
      by_cases hin : 0 ≤ x ∧ x + n ≤ d.cells.length
      · obtain ⟨P, rfl⟩ : ∃ P : Nat, x = P := ⟨x.toNat, by omega⟩
        have hPn : P + n ≤ d.cells.length := by omega
        have d1 : decide ((P : Int) < 0) = false := decide_eq_false (by omega)
        have d2 : decide ((d.cells.length : Int) < (P : Int)) = false := decide_eq_false (by omega)
        have d3 : decide ((d.cells.length : Int) - (P : Int) < (n : Int)) = false := decide_eq_false (by omega)
        have HWR : Hid (d.write P t = d.wrote P t (d.reach n) ∧ d.writeE P t = if d.falls n = true then 20 else 0) := Lib.hid ⟨by
            unfold Dv.write
            rw [if_pos ((writable_iff d P t).2 ⟨hdd, by omega, by omega, by omega, by rw [hn]; omega⟩), hn, Int.toNat_natCast], by
            unfold Dv.writeE
            rw [hdd, if_neg (by decide), if_neg hs, hn, if_pos hin]⟩
        have HFR : Hid (∀ w', RDev B w' (.slice (some ⟨g, 0, none⟩) d.cells.length cap) d → Calls Try.prog 46 #[.agg #[.slice (some ⟨g, 0, none⟩) d.cells.length cap, .int .i64 d.ops, .int .i64 d.armed, .bool false]] w' fun e w'' => ∃ g2 cap2, e = .returned (.agg #[.slice (some ⟨g2, 0, none⟩) d.cells.length cap2, .int .i64 d.ops, .int .i64 d.armed, .bool false]) ∧ w''.ownsRow w'.heap.size 69 3 (.slice (some ⟨g2, 0, none⟩) d.cells.length cap2) d.cells.length (secCells d.cells) ∧ Below w'.heap.size w' w'') := Lib.hid fun w' h => by
          have := rfresh_any B _ d w' h h0 hL
          rw [hdd] at this
          refine this.mono ?_
          rintro e w'' ⟨a', rfl, hr, hb⟩
          obtain ⟨g2, cap2, rfl⟩ := Joins.ownsRow_form hr.row h0
          exact ⟨g2, cap2, rfl, hr.row, hb⟩
        have HDD := Lib.hid hdd
        have HTN := Lib.hid htn
        clear hd hbad hwf hs hn hin htn
        go_enter Try.func28, Try.ntmps28
        go_upto_region 8 with fail
        obtain ⟨W1, hW1, hA1, hR1, hB1⟩ : ∃ W1, W1 = (w.alloc (.cells #[.slice (some ⟨g, 0, none⟩) d.cells.length cap, .int .i64 d.ops, .int .i64 d.armed, .bool false] 32)).alloc (.cells #[.slice none 0 0, .int .i64 0, .int .i64 0, .bool false] 32) ∧ W1.heap[w.heap.size]? = some (.cells #[.slice (some ⟨g, 0, none⟩) d.cells.length cap, .int .i64 d.ops, .int .i64 d.armed, .bool false] 32 (0, 0)) ∧ W1.heap[w.heap.size + 1]? = some (.cells #[.slice none 0 0, .int .i64 0, .int .i64 0, .bool false] 32 (0, 0)) ∧ Below w.heap.size w W1 :=
          ⟨_, rfl, heap_alloc2_old _ _ _, heap_alloc2_new _ _ _, HB.out _ _⟩
        rw [← hW1]
        clear hW1
        obtain ⟨c0, c1, c2, c3, f0, f1, f2, f3⟩ := four_cells8 hA1
        have HA1 := Lib.hid hA1
        have HR1 := Lib.hid hR1
        have HB1 := Lib.hid hB1
        clear hA1 hR1 hB1
        go_upto_region 9 with (go_at_call 46; refine (HFR.out _ (HD.out.step HB1.out)).mono ?_; rintro e w3 ⟨g2, cap2, rfl, hO3, b3⟩; clear c0 c1 c2 c3 f0 f1 f2 f3; obtain ⟨c0, c1, c2, c3, f0, f1, f2, f3⟩ := four_cells8 (old_obj b3 HA1.out); have HO3 := Lib.hid hO3; have HBB := Lib.hid b3; clear hO3 b3)
        clear c0 c1 c2 c3 f0 f1 f2 f3
        obtain ⟨W4, hW4, HU0⟩ : ∃ W4, W4 = (((w3.setCell ⟨w.heap.size, 0, none⟩ (.slice (some ⟨g2, 0, none⟩) d.cells.length cap2)).setCell ⟨w.heap.size, 1, none⟩ (.int .i64 d.ops)).setCell ⟨w.heap.size, 2, none⟩ (.int .i64 d.armed)).setCell ⟨w.heap.size, 3, none⟩ (.bool false) ∧ Hid (Own8 w g2 cap2 ⟨wrote d.cells P t 0, d.ops, d.armed, false⟩ W4) :=
          ⟨_, rfl, Lib.hid (by rw [wrote_none]; exact own8_made (d := ⟨d.cells, d.ops, d.armed, false⟩) HA1.out HR1.out HB1.out HBB.out HO3.out)⟩
        rw [← hW4]
        clear hW4
        obtain ⟨m, hm⟩ : ∃ m, d.cells.length = m := ⟨_, rfl⟩
        have HFL : Hid (∀ k, (wrote d.cells P t k).length = m) := Lib.hid fun k => by rw [wrote_len, hm]
        have HM := Lib.hid hm
        rw [hm] at hL h0 hPn d2 d3 ⊢
        have HO0 : Hid ((d.wrote P t 0).ops = d.ops ∧ (d.wrote P t 0).armed = d.armed ∧ (d.wrote P t 0).dead = false) := Lib.hid (by
          unfold Dv.wrote
          refine ⟨by simp, by simp, ?_⟩
          show (if 0 < d.armed ∧ d.armed ≤ ((0 : Nat) : Int) then true else d.dead) = false
          rw [if_neg (by omega)]; exact HDD.out)
        clear hm
        go_wp2
        go_loopw [9] (fun i' wr => ∃ k : Nat, i' = .int .i64 k ∧ k ≤ n ∧ Hid (¬ (0 < d.armed ∧ d.armed ≤ k)) ∧ Hid (Own8 w g2 cap2 ⟨wrote d.cells P t k, (d.wrote P t k).ops, (d.wrote P t k).armed, (d.wrote P t k).dead⟩ wr)) (fun i _ => n - (intOf i).toNat)
        case atStart => exact ⟨0, rfl, by omega, Lib.hid (by omega), by rw [HO0.out.1, HO0.out.2.1, HO0.out.2.2]; exact HU0⟩
        case round =>
          obtain ⟨k, rfl, hk, hnf, hU⟩ := hrel
          have hbx := hU.out.box
          have hlt8 := hU.out.lt
          simp only [HFL.out k] at hbx
          obtain ⟨c0, c1, c2, c3, f0, f1, f2, f3⟩ := four_cells8 hbx
          clear hbx
          by_cases hlt : k < n
          · have i1 : (k : Int) < (n : Int) := by omega
            obtain ⟨y1, y2, y3, y4, y5⟩ := wrote_count d P t k HDD.out hnf.out
            have hcv := cut_mid t (64 * (k : Int)) (64 * (k : Int) + 64) (by omega) (by omega) (by have := HTN.out; omega)
            rw [show (64 * (k : Int)).toNat = 64 * k by omega, show (64 * (k : Int) + 64).toNat = 64 * k + 64 by omega] at hcv
            have HSE : Hid (secOf t k = t.extract (64 * k) (64 * k + 64)) := Lib.hid rfl
            have HCT : Hid (∀ v, Calls Try.prog 47 #[.agg #[.slice (some ⟨g2, 0, none⟩) m cap2, .int .i64 (d.wrote P t k).ops, .int .i64 (d.wrote P t k).armed, .bool (d.wrote P t k).dead]] v fun e w' => e = .returned (.tuple #[.agg #[.slice (some ⟨g2, 0, none⟩) m cap2, .int .i64 (d.wrote P t (k + 1)).ops, .int .i64 (d.wrote P t (k + 1)).armed, .bool (d.wrote P t (k + 1)).dead], .bool (decide (d.armed = k + 1))]) ∧ Below v.heap.size v w') := Lib.hid fun v => by
              obtain ⟨o1, o2⟩ := wrote_ops d P t k
              have := rcounted_any (some ⟨g2, 0, none⟩) m cap2 (d.wrote P t k) (by rw [o1]; omega) (by rw [o1]; omega) (by rw [o2]; split <;> omega) (by rw [o2]; split <;> omega) v
              rw [y1, y2, y3, y4] at this
              exact this
            have HWM : Hid (wrote d.cells P t (k + 1) = _) := Lib.hid (wrote_more d.cells P t k (by rw [HM.out]; omega))
            have HWA : Hid ((wrote d.cells P t k)[P + k]'(by rw [HFL.out]; omega) = d.cells[P + k]'(by rw [HM.out]; omega)) := Lib.hid (wrote_at d.cells P t k (P + k) (by rw [HM.out]; omega) (by omega))
            clear y1 y2 y3 y4 y5
            obtain ⟨bb, hbb⟩ : ∃ bb, decide (d.armed = (k : Int) + 1) = bb := ⟨_, rfl⟩
            rw [hbb] at HCT
            have HBD := Lib.hid hbb
            clear hbb
            generalize (d.wrote P t k).ops = O0 at *
            generalize (d.wrote P t k).armed = A0 at *
            generalize (d.wrote P t k).dead = Z0 at *
            obtain ⟨O1, hO1⟩ : ∃ O1, (d.wrote P t (k + 1)).ops = O1 := ⟨_, rfl⟩
            obtain ⟨A1, hA1⟩ : ∃ A1, (d.wrote P t (k + 1)).armed = A1 := ⟨_, rfl⟩
            obtain ⟨Z1, hZ1⟩ : ∃ Z1, (d.wrote P t (k + 1)).dead = Z1 := ⟨_, rfl⟩
            rw [hO1, hA1, hZ1] at HCT
            have HO1 := Lib.hid hO1
            have HAA := Lib.hid hA1
            have HZ1 := Lib.hid hZ1
            clear hO1 hA1 hZ1
            generalize t.extract (64 * k) (64 * k + 64) = S at *
            go_upto_region 13 with (go_at_call 47; refine (HCT.out _).mono ?_; rintro e w4 ⟨rfl, b4⟩; have hU4 := (hU.out.step b4).alloc (.cells #[.slice (some ⟨g2, 0, none⟩) m cap2, .int .i64 O1, .int .i64 A1, .bool Z1] 32); clear c0 c1 c2 c3 f0 f1 f2 f3 hlt8; have hbx := hU4.box; have hlt8 := hU4.lt; simp only [HFL.out k] at hbx; obtain ⟨c0, c1, c2, c3, f0, f1, f2, f3⟩ := four_cells8 hbx; have HU4 := Lib.hid hU4; clear hU4 hbx b4)
            go_upto_region 14 with fail
            obtain ⟨W5, hW5, HU5⟩ : ∃ W5, W5 = ((((w4.alloc (.cells #[.slice (some ⟨g2, 0, none⟩) m cap2, .int .i64 O1, .int .i64 A1, .bool Z1] 32)).setCell ⟨w.heap.size, 0, none⟩ (.slice (some ⟨g2, 0, none⟩) m cap2)).setCell ⟨w.heap.size, 1, none⟩ (.int .i64 O1)).setCell ⟨w.heap.size, 2, none⟩ (.int .i64 A1)).setCell ⟨w.heap.size, 3, none⟩ (.bool Z1) ∧ Hid (Own8 w g2 cap2 ⟨wrote d.cells P t k, O1, A1, Z1⟩ W5) :=
              ⟨_, rfl, Lib.hid (by have := HU4.out.put O1 A1 Z1; simp only [HFL.out k] at this; exact this)⟩
            rw [← hW5]
            clear hW5 c0 c1 c2 c3 f0 f1 f2 f3 hlt8 HU4
            have hkl : P + k < (wrote d.cells P t k).length := by rw [HFL.out]; omega
            have HU6 := own8_now HU5.out (P + k) hkl S
            have hbx := HU5.out.box
            have hlt8 := HU5.out.lt
            simp only [HFL.out k] at hbx
            obtain ⟨c0, c1, c2, c3, f0, f1, f2, f3⟩ := four_cells8 hbx
            obtain ⟨s0x, s1x, s2x, s3⟩ := HU5.out.at (P + k) hkl
            obtain ⟨V0, s0⟩ : ∃ V0, W5.cell? ⟨g2, (P + k) * 3, none⟩ = some (.string V0) := ⟨_, s0x⟩
            have s30 := s3 ((P + k) * 3)
            obtain ⟨z, hz⟩ : ∃ z, P + k = z := ⟨_, rfl⟩
            have hzm : z < m := by omega
            have hzi : (P : Int) + (k : Int) = (z : Int) := by omega
            have HZ := Lib.hid hz
            rw [hz] at s0 s30
            clear s3 s0x s1x s2x hbx hz
            go_big_region
            have hU6 := HU6.out.drew
            rw [show W5.setCell ⟨g2, (P + k) * 3, none⟩ (.string S) = W5.setCell ⟨g2, z * 3, none⟩ (.string S) by rw [HZ.out]] at hU6
            obtain ⟨W6, hW6⟩ : ∃ W6, W6 = (W5.setCell ⟨g2, z * 3, none⟩ (.string S)).drew := ⟨_, rfl⟩
            rw [← hW6] at hU6 ⊢
            clear hW6 HU6 c0 c1 c2 c3 f0 f1 f2 f3 hlt8 s0 s30
            have hkl2 : P + k < ((wrote d.cells P t k).set (P + k) ⟨S, ((wrote d.cells P t k)[P + k]'hkl).safe, ((wrote d.cells P t k)[P + k]'hkl).loose⟩).length := by rw [List.length_set]; exact hkl
            have HU7 := own8_loose hU6 (P + k) hkl2 true
            have hbx := hU6.box
            have hlt8 := hU6.lt
            simp only [List.length_set, HFL.out k] at hbx
            obtain ⟨c0, c1, c2, c3, f0, f1, f2, f3⟩ := four_cells8 hbx
            obtain ⟨s0y, s1y, s2x, s3⟩ := hU6.at (P + k) hkl2
            obtain ⟨V2, s2⟩ : ∃ V2, W6.cell? ⟨g2, (P + k) * 3 + 2, none⟩ = some (.bool V2) := ⟨_, s2x⟩
            have s32 := s3 ((P + k) * 3 + 2)
            rw [HZ.out] at s2 s32
            have HU8 : Hid (Own8 w g2 cap2 ⟨wrote d.cells P t (k + 1), O1, A1, Z1⟩ (W6.setCell ⟨g2, z * 3 + 2, none⟩ (.bool true))) := Lib.hid (by
              have := HU7.out
              simp only [List.getElem_set_self, List.set_set, HWA.out] at this
              rw [HWM.out, HSE.out, ← HZ.out]; exact this)
            clear s3 s0y s1y s2x hbx hU6 HU7
            clear hkl2 hkl
            go_upto_region 16 with fail
            obtain ⟨W7, hW7⟩ : ∃ W7, W7 = W6.setCell ⟨g2, z * 3 + 2, none⟩ (.bool true) := ⟨_, rfl⟩
            rw [← hW7] at HU8 ⊢
            clear hW7 c0 c1 c2 c3 f0 f1 f2 f3 hlt8 s2 s32
            have hbx := HU8.out.box
            have hbr := HU8.out.res
            have hlt8 := HU8.out.lt
            simp only [HFL.out (k + 1)] at hbx
            obtain ⟨c0, c1, c2, c3, f0, f1, f2, f3⟩ := four_cells8 hbx
            cases bb with
            | true =>
              have hb : d.armed = (k : Int) + 1 := of_decide_eq_true HBD.out
              have HRC : Hid (d.reach n = k + 1 ∧ d.falls n = true) := Lib.hid (by
                unfold Dv.reach Dv.falls
                rw [if_pos ⟨by omega, by omega⟩]
                exact ⟨by omega, decide_eq_true ⟨by omega, by omega⟩⟩)
              obtain ⟨k0, k1, k2, k3, m0, m1, m2, m3⟩ := four_cells8 hbr
              have HBR := Lib.hid hbr
              clear hbr hbx hb
              go_wp2
              refine bodyPost_ret (results_row_slot rfl _ _ (w.heap.size + 1) _ rfl (dev_load (four_stored8 HBR.out _ _ _ _))) rfl ?_
              have hrow := own_mono (own_stores HU8.out.row HU8.out.ne.2 (.slice (some ⟨g2, 0, none⟩) m cap2) (.int .i64 O1) (.int .i64 A1) (.bool Z1)) hB
              have hdw : d.write P t = ⟨wrote d.cells P t (k + 1), O1, A1, Z1⟩ := by
                rw [HWR.out.1, HRC.out.1, ← HO1.out, ← HAA.out, ← HZ1.out]; rfl
              rw [hdw, HWR.out.2, if_pos HRC.out.2]
              refine ⟨_, rfl, ⟨?_⟩, four_below8 HU8.out.old (by omega) _ _ _ _⟩
              simp only [HFL.out (k + 1)] at hrow ⊢
              exact hrow
            | false =>
              have hb : ¬ d.armed = (k : Int) + 1 := of_decide_eq_false HBD.out
              have HNF : Hid (¬ (0 < d.armed ∧ d.armed ≤ ((k + 1 : Nat) : Int))) := Lib.hid (by have := hnf.out; omega)
              clear hbr hbx hb
              go_wp2
              go_roundw
              case rel => exact ⟨k + 1, by go_num, by omega, HNF, by rw [HO1.out, HAA.out, HZ1.out]; exact HU8⟩
              case measure => simp [intOf]; omega
          · obtain rfl : k = n := by omega
            have hbr := hU.out.res
            obtain ⟨k0, k1, k2, k3, m0, m1, m2, m3⟩ := four_cells8 hbr
            have HBR := Lib.hid hbr
            have HRC : Hid (d.reach k = k ∧ ¬ d.falls k = true) := Lib.hid (by
              have := hnf.out
              unfold Dv.reach Dv.falls
              rw [if_neg (by omega), decide_eq_true_iff]
              exact ⟨rfl, by omega⟩)
            have hdw : d.write P t = ⟨wrote d.cells P t k, (d.wrote P t k).ops, (d.wrote P t k).armed, (d.wrote P t k).dead⟩ := by
              rw [HWR.out.1, HRC.out.1]; rfl
            have HDW := Lib.hid hdw
            clear hdw
            generalize (d.wrote P t k).ops = O0 at *
            generalize (d.wrote P t k).armed = A0 at *
            generalize (d.wrote P t k).dead = Z0 at *
            clear hbr
            go_wp2
            rw [HDW.out, HWR.out.2, if_neg HRC.out.2]
            refine bodyPost_ret (results_row_slot rfl _ _ (w.heap.size + 1) _ rfl (dev_load (four_stored8 HBR.out _ _ _ _))) rfl ?_
            have hrow := own_mono (own_stores hU.out.row hU.out.ne.2 (.slice (some ⟨g2, 0, none⟩) m cap2) (.int .i64 O0) (.int .i64 A0) (.bool Z0)) hB
            refine ⟨_, rfl, ⟨?_⟩, four_below8 hU.out.old (by omega) _ _ _ _⟩
            simp only [HFL.out k] at hrow ⊢
            exact hrow
      · have hf := hbad (hwf (by rw [hn]; omega))
        have he : d.writeE x t = 21 := by unfold Dv.writeE; rw [hdd, if_neg (by decide), if_neg hs, hn, if_neg hin]
        rw [hf, he, hdd]
        clear hf he hd hbad hwf hs hn
        by_cases f1 : x < 0
        · have d1 : decide (x < 0) = true := decide_eq_true f1
          clear f1 hin htn
          go_enter Try.func28, Try.ntmps28
          go_wp2
          refine bodyPost_ret (results_row_slot rfl _ _ (w.heap.size + 1) _ rfl (dev_load (heap_alloc2_new _ _ _))) rfl ?_
          exact ⟨_, rfl, HD.out.step (HB.out _ _), HB.out _ _⟩
        · have d1 : decide (x < 0) = false := decide_eq_false f1
          by_cases f2 : (d.cells.length : Int) < x
          · have d2 : decide ((d.cells.length : Int) < x) = true := decide_eq_true f2
            clear f2 hin htn
            go_enter Try.func28, Try.ntmps28
            go_wp2
            refine bodyPost_ret (results_row_slot rfl _ _ (w.heap.size + 1) _ rfl (dev_load (heap_alloc2_new _ _ _))) rfl ?_
            exact ⟨_, rfl, HD.out.step (HB.out _ _), HB.out _ _⟩
          · have d2 : decide ((d.cells.length : Int) < x) = false := decide_eq_false f2
            have d3 : decide ((d.cells.length : Int) - x < (n : Int)) = true := decide_eq_true (by omega)
            clear hin htn
            go_enter Try.func28, Try.ntmps28
            go_wp2
            refine bodyPost_ret (results_row_slot rfl _ _ (w.heap.size + 1) _ rfl (dev_load (heap_alloc2_new _ _ _))) rfl ?_
            exact ⟨_, rfl, HD.out.step (HB.out _ _), HB.out _ _⟩
end Go.Proofs.Ytocengdojdeiiaa
