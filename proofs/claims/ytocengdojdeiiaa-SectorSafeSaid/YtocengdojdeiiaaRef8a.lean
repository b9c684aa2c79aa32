/- The document's own counted, Arm, Off and Read, for every device, in every world. -/
import Derived.Test.YtocengdojdeiiaaRow8
namespace Go.Proofs.Ytocengdojdeiiaa
open Go.RowKit

/-- What fits into an int. -/
def Num64 (n : Int) : Prop := -9223372036854775808 ≤ n ∧ n ≤ 9223372036854775807

set_option maxHeartbeats 1000000 in
theorem rcounted_any (p : Option Addr) (n c : Nat) (d : Dv) (h1 : -9223372036854775808 ≤ d.ops) (h2 : d.ops < 9223372036854775807) (h3 : -9223372036854775808 ≤ d.armed) (h4 : d.armed ≤ 9223372036854775807) (w : World) :
    Calls Try.prog 47 #[.agg #[.slice p n c, .int .i64 d.ops, .int .i64 d.armed, .bool d.dead]] w fun e w' => e = .returned (.tuple #[.agg #[.slice p n c, .int .i64 d.count.ops, .int .i64 d.count.armed, .bool d.count.dead], .bool d.hit]) ∧ Below w.heap.size w w' := by
  have hbb : ∀ o u : Obj, Below w.heap.size w ((w.alloc o).alloc u) := fun o u => ((Below.refl _ w).alloc (Nat.le_refl _) o).alloc (by simp) u
  have HB := Lib.hid hbb
  clear hbb
  by_cases ha : d.armed = 1
  · have hc : Hid (d.count.ops = d.ops + 1 ∧ d.count.armed = 0 ∧ d.count.dead = true ∧ d.hit = true) := Lib.hid (by unfold Dv.count Dv.hit; simp [ha])
    rw [ha]
    go_enter Try.func47, Try.ntmps47
    go_wp2
    refine bodyPost_ret (results_row_slot rfl _ _ (w.heap.size + 1) _ rfl (dev_load (heap_alloc2_new _ _ _))) rfl ?_
    exact ⟨by rw [hc.out.1, hc.out.2.1, hc.out.2.2.1, hc.out.2.2.2]; rfl, HB.out _ _⟩
  · have d1 : (d.armed == 1) = false := beq_eq_false_iff_ne.2 ha
    by_cases hp : 0 < d.armed
    · have hc : Hid (d.count.ops = d.ops + 1 ∧ d.count.armed = d.armed - 1 ∧ d.count.dead = d.dead ∧ d.hit = false) := Lib.hid (by unfold Dv.count Dv.hit; simp [ha, hp])
      have d2 : decide (0 < d.armed) = true := decide_eq_true hp
      go_enter Try.func47, Try.ntmps47
      go_wp2
      refine bodyPost_ret (results_row_slot rfl _ _ (w.heap.size + 1) _ rfl (dev_load (heap_alloc2_new _ _ _))) rfl ?_
      exact ⟨by rw [hc.out.1, hc.out.2.1, hc.out.2.2.1, hc.out.2.2.2]; rfl, HB.out _ _⟩
    · have hc : Hid (d.count.ops = d.ops + 1 ∧ d.count.armed = d.armed ∧ d.count.dead = d.dead ∧ d.hit = false) := Lib.hid (by unfold Dv.count Dv.hit; simp [ha, hp])
      have d2 : decide (0 < d.armed) = false := decide_eq_false hp
      go_enter Try.func47, Try.ntmps47
      go_wp2
      refine bodyPost_ret (results_row_slot rfl _ _ (w.heap.size + 1) _ rfl (dev_load (heap_alloc2_new _ _ _))) rfl ?_
      exact ⟨by rw [hc.out.1, hc.out.2.1, hc.out.2.2.1, hc.out.2.2.2]; rfl, HB.out _ _⟩

theorem roff_any (p : Option Addr) (n c : Nat) (d : Dv) (w : World) :
    Calls Try.prog 32 #[.agg #[.slice p n c, .int .i64 d.ops, .int .i64 d.armed, .bool d.dead]] w fun e w' => e = .returned (.agg #[.slice p n c, .int .i64 d.off.ops, .int .i64 d.off.armed, .bool d.off.dead]) ∧ Below w.heap.size w w' := by
  have hbb : ∀ o u : Obj, Below w.heap.size w ((w.alloc o).alloc u) := fun o u => ((Below.refl _ w).alloc (Nat.le_refl _) o).alloc (by simp) u
  have HB := Lib.hid hbb
  clear hbb
  go_enter Try.func32, Try.ntmps32
  go_wp2
  refine bodyPost_ret (results_cell_row rfl _ _ (w.heap.size + 1) 32 _ _ _ rfl (heap_alloc2_new _ _ _) Try.underlying32 rfl (by kernel_rfl)) rfl ?_
  exact ⟨rfl, HB.out _ _⟩

theorem rarm_any (p : Option Addr) (n c : Nat) (d : Dv) (x : Int) (w : World) :
    Calls Try.prog 31 #[.agg #[.slice p n c, .int .i64 d.ops, .int .i64 d.armed, .bool d.dead], .int .i64 x] w fun e w' => e = .returned (.tuple #[.agg #[.slice p n c, .int .i64 (d.arm x).ops, .int .i64 (d.arm x).armed, .bool (d.arm x).dead], .int .i64 (d.armE x)]) ∧ Below w.heap.size w w' := by
  have hbb : ∀ o u : Obj, Below w.heap.size w ((w.alloc o).alloc u) := fun o u => ((Below.refl _ w).alloc (Nat.le_refl _) o).alloc (by simp) u
  have HB := Lib.hid hbb
  clear hbb
  cases hd : d.dead with
  | true =>
    have he : d.armE x = 20 := by unfold Dv.armE; rw [if_pos hd]
    have hc : Hid ((d.arm x).ops = d.ops ∧ (d.arm x).armed = d.armed ∧ (d.arm x).dead = true ∧ d.armE x = 20) := Lib.hid (by unfold Dv.arm; rw [he]; simp [hd])
    clear he
    go_enter Try.func31, Try.ntmps31
    go_wp2
    refine bodyPost_ret (results_row_slot rfl _ _ (w.heap.size + 1) _ rfl (dev_load (heap_alloc2_new _ _ _))) rfl ?_
    exact ⟨by rw [hc.out.1, hc.out.2.1, hc.out.2.2.1, hc.out.2.2.2]; rfl, HB.out _ _⟩
  | false =>
    by_cases hx : x < 1
    · have he : d.armE x = 2 := by unfold Dv.armE; rw [hd, if_neg (by decide), if_pos hx]
      have hc : Hid ((d.arm x).ops = d.ops ∧ (d.arm x).armed = d.armed ∧ (d.arm x).dead = false ∧ d.armE x = 2) := Lib.hid (by unfold Dv.arm; rw [he]; simp [hd])
      have d2 : decide (x < 1) = true := decide_eq_true hx
      clear he
      go_enter Try.func31, Try.ntmps31
      go_wp2
      refine bodyPost_ret (results_row_slot rfl _ _ (w.heap.size + 1) _ rfl (dev_load (heap_alloc2_new _ _ _))) rfl ?_
      exact ⟨by rw [hc.out.1, hc.out.2.1, hc.out.2.2.1, hc.out.2.2.2]; rfl, HB.out _ _⟩
    · have he : d.armE x = 0 := by unfold Dv.armE; rw [hd, if_neg (by decide), if_neg hx]
      have hc : Hid ((d.arm x).ops = d.ops ∧ (d.arm x).armed = x ∧ (d.arm x).dead = false ∧ d.armE x = 0) := Lib.hid (by unfold Dv.arm; rw [he]; simp [hd])
      have d2 : decide (x < 1) = false := decide_eq_false hx
      clear he
      go_enter Try.func31, Try.ntmps31
      go_wp2
      refine bodyPost_ret (results_row_slot rfl _ _ (w.heap.size + 1) _ rfl (dev_load (heap_alloc2_new _ _ _))) rfl ?_
      exact ⟨by rw [hc.out.1, hc.out.2.1, hc.out.2.2.1, hc.out.2.2.2]; rfl, HB.out _ _⟩

theorem fits_iff (len : Nat) (p n : Int) : (0 ≤ p ∧ p + n ≤ len) ↔ ¬ (p < 0) ∧ ¬ ((len : Int) < p ∧ 0 < n) ∧ ¬ ((len : Int) - p < n) := by omega
theorem cat_snoc (l : List ByteArray) (t : ByteArray) : cat (l ++ [t]) = cat l ++ t := by
  induction l with
  | nil => exact text_eq (by simp [cat])
  | cons a l ih =>
    rw [List.cons_append]
    show a ++ cat (l ++ [t]) = a ++ cat l ++ t
    rw [ih]
    exact text_eq (by simp)
theorem cat_size (l : List ByteArray) (h : ∀ t ∈ l, t.size = 64) : (cat l).size = 64 * l.length := by
  induction l with
  | nil => rfl
  | cons a l ih =>
    show (a ++ cat l).size = _
    rw [ByteArray.size_append, ih (fun t ht => h t (List.mem_cons_of_mem _ ht)), h a (List.mem_cons_self ..), List.length_cons]; omega

set_option maxHeartbeats 2000000 in
theorem rread_any (B : Nat) (a : Value) (d : Dv) (x y : Int) (hy0 : -9223372036854775808 ≤ x) (hy1 : x ≤ 9223372036854775807) (hfit : d.Fit) (h0 : 0 < d.cells.length) (h1 : d.cells.length ≤ 2000) (w : World) (hd : RDev B w a d) :
    Calls Try.prog 15 #[.agg #[a, .int .i64 d.ops, .int .i64 d.armed, .bool d.dead], .int .i64 x, .int .i64 y] w fun e w' => e = .returned (.tuple #[.string (d.readT x y), .int .i64 (d.readE x y)]) ∧ Below w.heap.size w w' := by
  obtain ⟨g, cap, rfl⟩ := Joins.ownsRow_form hd.row h0
  have hbad : d.readE x y ≠ 0 → d.readT x y = ⟨#[]⟩ := fun h => by unfold Dv.readT; rw [if_neg h]
  have HB : Hid (∀ o : Obj, Below w.heap.size w (w.alloc o)) := Lib.hid fun o => (Below.refl _ w).alloc (Nat.le_refl _) o
  cases hdd : d.dead with
  | true =>
    have he : d.readE x y = 20 := by unfold Dv.readE; rw [if_pos hdd]
    have ht := hbad (by omega)
    rw [he, ht]
    clear he ht hbad
    go_enter Try.func15, Try.ntmps15
    go_wp2
    go_ret2
    exact ⟨rfl, HB.out _⟩
  | false =>
    by_cases hy : y < 1
    · have he : d.readE x y = 2 := by unfold Dv.readE; rw [hdd, if_neg (by decide), if_pos hy]
      have ht := hbad (by omega)
      have d2 : decide (y < 1) = true := decide_eq_true hy
      rw [he, ht]
      clear he ht hbad
      go_enter Try.func15, Try.ntmps15
      go_wp2
      go_ret2
      exact ⟨rfl, HB.out _⟩
    · have d2 : decide (y < 1) = false := decide_eq_false hy
      by_cases hin : 0 ≤ x ∧ x + y ≤ d.cells.length
      · have he : d.readE x y = 0 := by unfold Dv.readE; rw [hdd, if_neg (by decide), if_neg hy, if_pos hin]
        obtain ⟨P, rfl⟩ : ∃ P : Nat, x = P := ⟨x.toNat, by omega⟩
        obtain ⟨M, rfl⟩ : ∃ M : Nat, y = M := ⟨y.toNat, by omega⟩
        obtain ⟨F, hF⟩ : ∃ F : Nat → ByteArray, ∀ k, F k = cat (((d.cells.drop P).take k).map Sec.now) := ⟨_, fun _ => rfl⟩
        have HT : Hid (d.readT P M = F M) := Lib.hid (by unfold Dv.readT; rw [if_pos he, Int.toNat_natCast, Int.toNat_natCast, hF])
        have HF0 : Hid (F 0 = ⟨#[]⟩) := Lib.hid (by rw [hF]; simp [cat])
        have hPM : P + M ≤ d.cells.length := by omega
        have e1 : decide ((P : Int) < 0) = false := decide_eq_false (by omega)
        have e2 : decide ((d.cells.length : Int) < (P : Int)) = false := decide_eq_false (by omega)
        have e3 : decide ((d.cells.length : Int) - (P : Int) < (M : Int)) = false := decide_eq_false (by omega)
        have HMO : Hid (∀ k, k < M → F (k + 1) = F k ++ (d.cells.getD (P + k) sec0).now) := Lib.hid fun k hk => by
          rw [hF, hF]
          have hkd : k < (d.cells.drop P).length := by rw [List.length_drop]; omega
          rw [List.take_succ_eq_append_getElem hkd, List.map_append, List.map_cons, List.map_nil, cat_snoc, List.getElem_drop, List.getD_eq_getElem?_getD, List.getElem?_eq_getElem (by omega)]
          rfl
        have HSZ : Hid (∀ k, k ≤ M → (F k).size = 64 * k) := Lib.hid fun k hk => by
          rw [hF, cat_size, List.length_map, List.length_take, List.length_drop, Nat.min_eq_left (by omega)]
          intro t ht
          obtain ⟨c, hc, rfl⟩ := List.mem_map.1 ht
          exact (hfit c (List.mem_of_mem_drop (List.mem_of_mem_take hc))).1
        have HNS : Hid (∀ k, k < M → ((d.cells.getD (P + k) sec0).now).size = 64) := Lib.hid fun k hk => by
          rw [List.getD_eq_getElem?_getD, List.getElem?_eq_getElem (by omega)]
          exact (hfit _ (List.getElem_mem (by omega))).1
        have hd1 := hd.step (HB.out (.cells #[.slice (some ⟨g, 0, none⟩) d.cells.length cap, .int .i64 d.ops, .int .i64 d.armed, .bool false] 32))
        have HCL : Hid (∀ k, k < M → (w.alloc (.cells #[.slice (some ⟨g, 0, none⟩) d.cells.length cap, .int .i64 d.ops, .int .i64 d.armed, .bool false] 32)).cell? ⟨g, (P + k) * 3, none⟩ = some (.string (d.cells.getD (P + k) sec0).now)) := Lib.hid fun k hk => by
          have hlt : P + k < d.cells.length := by omega
          rw [hd1.row.cellAt ((P + k) * 3) (by omega), Nat.mul_comm, (sec_at d.cells (P + k) hlt).1, List.getD_eq_getElem?_getD, List.getElem?_eq_getElem hlt]; rfl
        rw [he]
        clear he hbad hd hd1 hin hfit hF
        go_enter Try.func15, Try.ntmps15
        go_wp2
        go_loop [8, 9] (fun o' i' => ∃ k : Nat, i' = .int .i64 ((P + k : Nat) : Int) ∧ o' = .string (F k) ∧ k ≤ M) (fun _ i => P + M - (intOf i).toNat)
        case atStart => exact ⟨0, rfl, by rw [HF0.out], by omega⟩
        case round =>
          obtain ⟨k, rfl, rfl, hk⟩ := hrel
          by_cases hlt : k < M
          · have hs1 := HSZ.out k hk
            have hs2 := HNS.out k hlt
            have hc := HCL.out k hlt
            have HM := Lib.hid (HMO.out k hlt)
            have hsz : ¬ 9223372036854775807 < (F k).size + ((d.cells.getD (P + k) sec0).now).size := by omega
            clear hs1 hs2
            generalize F k = C at *
            generalize (d.cells.getD (P + k) sec0).now = S at *
            obtain ⟨z, hz⟩ : ∃ z, P + k = z := ⟨_, rfl⟩
            have hzl : z < d.cells.length := by omega
            have hzk : (z : Int) < (P : Int) + (M : Int) := by omega
            rw [hz] at hc
            have HZ := Lib.hid hz
            rw [hz]
            clear hz
            go_wp2
            go_round
            case rel => exact ⟨k + 1, by have := HZ.out; go_num, by rw [HM.out], by omega⟩
            case measure => have := HZ.out; simp [intOf]; omega
          · obtain rfl : k = M := by omega
            have hx : ¬ ((P + k : Nat) : Int) < (P : Int) + (k : Int) := by omega
            go_wp2
            go_ret2
            exact ⟨by rw [HT.out]; rfl, HB.out _⟩
      · have he : d.readE x y = 21 := by unfold Dv.readE; rw [hdd, if_neg (by decide), if_neg hy, if_neg hin]
        have ht := hbad (by omega)
        rw [he, ht]
        clear he ht hbad
        by_cases f1 : x < 0
        · have e1 : decide (x < 0) = true := decide_eq_true f1
          clear f1 hin
          go_enter Try.func15, Try.ntmps15
          go_wp2
          go_ret2
          exact ⟨rfl, HB.out _⟩
        · have e1 : decide (x < 0) = false := decide_eq_false f1
          by_cases f2 : (d.cells.length : Int) < x
          · have e2 : decide ((d.cells.length : Int) < x) = true := decide_eq_true f2
            clear f2 hin
            go_enter Try.func15, Try.ntmps15
            go_wp2
            go_ret2
            exact ⟨rfl, HB.out _⟩
          · have e2 : decide ((d.cells.length : Int) < x) = false := decide_eq_false f2
            have e3 : decide ((d.cells.length : Int) - x < y) = true := decide_eq_true (by omega)
            clear hin
            go_enter Try.func15, Try.ntmps15
            go_wp2
            go_ret2
            exact ⟨rfl, HB.out _⟩
end Go.Proofs.Ytocengdojdeiiaa
