/- The document's own Write and Flush, for every device, in every world. -/
import Derived.Test.YtocengdojdeiiaaRef8a
import Derived.RegionTactic
import Derived.BigRegion
import Derived.ChangeAlike
namespace Go.Proofs.Ytocengdojdeiiaa
open Go.RowKit

/-- How things lie in a call that has a device of its own: the device's box, the result's place, the row, and what lay ahead. -/
structure Own8 (w : World) (g cap : Nat) (d : Dv) (wr : World) : Prop where
  box : wr.heap[w.heap.size]? = some (.cells #[.slice (some ⟨g, 0, none⟩) d.cells.length cap, .int .i64 d.ops, .int .i64 d.armed, .bool d.dead] 32 (0, 0))
  res : wr.heap[w.heap.size + 1]? = some (.cells #[.slice none 0 0, .int .i64 0, .int .i64 0, .bool false] 32 (0, 0))
  row : wr.ownsRow w.heap.size 69 3 (.slice (some ⟨g, 0, none⟩) d.cells.length cap) d.cells.length (secCells d.cells)
  old : Below w.heap.size w wr
theorem Own8.ne {w wr : World} {g cap : Nat} {d : Dv} (h : Own8 w g cap d wr) : g ≠ w.heap.size ∧ g ≠ w.heap.size + 1 := by
  refine ⟨fun e => ?_, fun e => ?_⟩
  · subst e
    obtain ⟨cs, hcs⟩ := own_obj h.row
    rw [h.box] at hcs
    injection hcs with hcs; injection hcs with _ ht; revert ht; decide
  · subst e
    obtain ⟨cs, hcs⟩ := own_obj h.row
    rw [h.res] at hcs
    injection hcs with hcs; injection hcs with _ ht; revert ht; decide
theorem Own8.lt {w wr : World} {g cap : Nat} {d : Dv} (h : Own8 w g cap d wr) : w.heap.size + 1 < wr.heap.size ∧ g < wr.heap.size := by
  obtain ⟨cs, hcs⟩ := own_obj h.row
  exact ⟨obj_lt h.res, obj_lt hcs⟩
theorem Own8.step {w wr w' : World} {g cap : Nat} {d : Dv} (h : Own8 w g cap d wr) (hb : Below wr.heap.size wr w') : Own8 w g cap d w' :=
  ⟨old_obj hb h.box, old_obj hb h.res, own_step h.row hb, h.old.trans (hb.mono h.old.size)⟩
theorem Own8.alloc {w wr : World} {g cap : Nat} {d : Dv} (h : Own8 w g cap d wr) (o : Obj) : Own8 w g cap d (wr.alloc o) := h.step ((Below.refl _ _).alloc (Nat.le_refl _) _)
theorem Own8.drew {w wr : World} {g cap : Nat} {d : Dv} (h : Own8 w g cap d wr) : Own8 w g cap d wr.drew := ⟨h.box, h.res, h.row.drew, drawn_below h.old 1⟩
theorem four_other8 {w : World} {k g : Nat} {o : Obj} (h : w.heap[k]? = some o) (hne : k ≠ g) (x y z u : Value) : ((((w.setCell ⟨g, 0, none⟩ x).setCell ⟨g, 1, none⟩ y).setCell ⟨g, 2, none⟩ z).setCell ⟨g, 3, none⟩ u).heap[k]? = some o := by
  rw [heap_setCell_other _ _ _ _ (by simpa using hne), heap_setCell_other _ _ _ _ (by simpa using hne), heap_setCell_other _ _ _ _ (by simpa using hne), heap_setCell_other _ _ _ _ (by simpa using hne)]
  exact h
theorem own_mono {w : World} {B B' : Nat} {e : TypeId} {s n : Nat} {v : Value} {xs : List Value} (h : w.ownsRow B e s v n xs) (hB : B' ≤ B) : w.ownsRow B' e s v n xs := by
  refine ⟨h.1, ?_⟩
  rcases h.2 with h2 | ⟨g, cap, cur, h1, h2, h3⟩
  · exact Or.inl h2
  · exact Or.inr ⟨g, cap, cur, h1, by omega, h3⟩
/-- The box stored into anew. -/
theorem Own8.put {w wr : World} {g cap : Nat} {d : Dv} (h : Own8 w g cap d wr) (x y : Int) (z : Bool) :
    Own8 w g cap ⟨d.cells, x, y, z⟩ ((((wr.setCell ⟨w.heap.size, 0, none⟩ (.slice (some ⟨g, 0, none⟩) d.cells.length cap)).setCell ⟨w.heap.size, 1, none⟩ (.int .i64 x)).setCell ⟨w.heap.size, 2, none⟩ (.int .i64 y)).setCell ⟨w.heap.size, 3, none⟩ (.bool z)) := by
  refine ⟨four_stored8 h.box _ _ _ _, ?_, own_stores h.row h.ne.1 _ _ _ _, four_below8 h.old (Nat.le_refl _) _ _ _ _⟩
  rw [heap_setCell_other _ _ _ _ (by simp), heap_setCell_other _ _ _ _ (by simp), heap_setCell_other _ _ _ _ (by simp), heap_setCell_other _ _ _ _ (by simp)]
  exact h.res
/-- A cell of the row stored into anew. -/
theorem Own8.set {w wr : World} {g cap : Nat} {d : Dv} (h : Own8 w g cap d wr) (l : List Sec) (hl : l.length = d.cells.length) (j : Nat) (u : Value) (he : (secCells d.cells).set j u = secCells l) : Own8 w g cap ⟨l, d.ops, d.armed, d.dead⟩ (wr.setCell ⟨g, j, none⟩ u) := by
  have hn := h.ne
  refine ⟨?_, ?_, ?_, h.old.setCell (p := ⟨g, j, none⟩) (h.row.lt g rfl).1 _⟩
  · rw [heap_setCell_other _ _ _ _ (by simpa using fun e => hn.1 e.symm), hl]; exact h.box
  · rw [heap_setCell_other _ _ _ _ (by simpa using fun e => hn.2 e.symm)]; exact h.res
  · have := (h.row.stored j u).1
    rw [he] at this
    simp only [hl]
    exact this
/-- The cells of a sector. -/
theorem Own8.at {w wr : World} {g cap : Nat} {d : Dv} (h : Own8 w g cap d wr) (k : Nat) (hk : k < d.cells.length) :
    wr.cell? ⟨g, k * 3, none⟩ = some (.string (d.cells[k]).now) ∧ wr.cell? ⟨g, k * 3 + 1, none⟩ = some (.string (d.cells[k]).safe) ∧ wr.cell? ⟨g, k * 3 + 2, none⟩ = some (.bool (d.cells[k]).loose) ∧ ∀ j, wr.frozen? ⟨g, j, none⟩ = false := by
  obtain ⟨s0, s1, s2⟩ := sec_at d.cells k hk
  rw [Nat.mul_comm] at s0 s1 s2
  exact ⟨by rw [h.row.cellAt _ (by omega), s0], by rw [h.row.cellAt _ (by omega), s1], by rw [h.row.cellAt _ (by omega), s2], h.row.frozenAt⟩

theorem own8_safe {w wr : World} {g cap : Nat} {l : List Sec} {x y : Int} {z : Bool} (h : Own8 w g cap ⟨l, x, y, z⟩ wr) (k : Nat) (hk : k < l.length) (t : ByteArray) : Hid (Own8 w g cap ⟨l.set k ⟨l[k].now, t, l[k].loose⟩, x, y, z⟩ (wr.setCell ⟨g, k * 3 + 1, none⟩ (.string t))) :=
  Lib.hid (h.set (l.set k ⟨l[k].now, t, l[k].loose⟩) (by simp) (k * 3 + 1) _ (by rw [Nat.mul_comm]; exact (sec_set l k hk t t false).2.1))
theorem own8_now {w wr : World} {g cap : Nat} {l : List Sec} {x y : Int} {z : Bool} (h : Own8 w g cap ⟨l, x, y, z⟩ wr) (k : Nat) (hk : k < l.length) (t : ByteArray) : Hid (Own8 w g cap ⟨l.set k ⟨t, l[k].safe, l[k].loose⟩, x, y, z⟩ (wr.setCell ⟨g, k * 3, none⟩ (.string t))) :=
  Lib.hid (h.set (l.set k ⟨t, l[k].safe, l[k].loose⟩) (by simp) (k * 3) _ (by rw [Nat.mul_comm]; exact (sec_set l k hk t t false).1))
theorem own8_loose {w wr : World} {g cap : Nat} {l : List Sec} {x y : Int} {z : Bool} (h : Own8 w g cap ⟨l, x, y, z⟩ wr) (k : Nat) (hk : k < l.length) (b : Bool) : Hid (Own8 w g cap ⟨l.set k ⟨l[k].now, l[k].safe, b⟩, x, y, z⟩ (wr.setCell ⟨g, k * 3 + 2, none⟩ (.bool b))) :=
  Lib.hid (h.set (l.set k ⟨l[k].now, l[k].safe, b⟩) (by simp) (k * 3 + 2) _ (by rw [Nat.mul_comm]; exact (sec_set l k hk ⟨#[]⟩ ⟨#[]⟩ b).2.2))
/-- A device made anew: its row by the call before, its box stored into. -/
theorem own8_made {w W1 w3 : World} {g cap : Nat} {d : Dv} {x0 x1 x2 x3 : Value} (hA : W1.heap[w.heap.size]? = some (.cells #[x0, x1, x2, x3] 32 (0, 0)))
    (hR : W1.heap[w.heap.size + 1]? = some (.cells #[.slice none 0 0, .int .i64 0, .int .i64 0, .bool false] 32 (0, 0))) (hB : Below w.heap.size w W1) (b3 : Below W1.heap.size W1 w3)
    (hO : w3.ownsRow W1.heap.size 69 3 (.slice (some ⟨g, 0, none⟩) d.cells.length cap) d.cells.length (secCells d.cells)) :
    Own8 w g cap d ((((w3.setCell ⟨w.heap.size, 0, none⟩ (.slice (some ⟨g, 0, none⟩) d.cells.length cap)).setCell ⟨w.heap.size, 1, none⟩ (.int .i64 d.ops)).setCell ⟨w.heap.size, 2, none⟩ (.int .i64 d.armed)).setCell ⟨w.heap.size, 3, none⟩ (.bool d.dead)) := by
  have h1 := obj_lt hR
  have h2 := (hO.lt g rfl).1
  refine ⟨four_stored8 (old_obj b3 hA) _ _ _ _, four_other8 (old_obj b3 hR) (by omega) _ _ _ _, own_stores (own_mono hO hB.size) (by omega) _ _ _ _, four_below8 (hB.trans (b3.mono hB.size)) (Nat.le_refl _) _ _ _ _⟩
def flushTo (l : List Sec) (k : Nat) : List Sec := l.mapIdx fun i c => if i < k then ⟨c.now, c.now, false⟩ else c
theorem flushTo_len (l : List Sec) (k : Nat) : (flushTo l k).length = l.length := by simp [flushTo]
theorem flushTo_none (l : List Sec) : flushTo l 0 = l := by
  refine List.ext_getElem (by simp [flushTo]) fun i h1 h2 => ?_
  simp [flushTo]
theorem flushTo_all (l : List Sec) : flushTo l l.length = flushed l := by
  refine List.ext_getElem (by simp [flushTo, flushed]) fun i h1 h2 => ?_
  have hi : i < l.length := by rw [flushTo_len] at h1; exact h1
  simp [flushTo, flushed, hi]
theorem flushTo_at (l : List Sec) (k : Nat) (h : k < l.length) : (flushTo l k)[k]'(by rw [flushTo_len]; exact h) = l[k] := by simp [flushTo]
theorem flushTo_more (l : List Sec) (k : Nat) (h : k < l.length) : flushTo l (k + 1) = (flushTo l k).set k ⟨l[k].now, l[k].now, false⟩ := by
  refine List.ext_getElem (by simp [flushTo]) fun i h1 h2 => ?_
  have hi : i < l.length := by rw [flushTo_len] at h1; exact h1
  rw [List.getElem_set]
  simp only [flushTo, List.getElem_mapIdx]
  by_cases e : k = i
  · subst e; rw [if_pos (by omega), if_pos rfl]
  · rw [if_neg e]
    by_cases g : i < k
    · rw [if_pos g, if_pos (by omega)]
    · rw [if_neg g, if_neg (by omega)]

set_option maxHeartbeats 2000000 in
theorem rflush_any (B : Nat) (a : Value) (d : Dv) (h1 : -9223372036854775808 ≤ d.ops) (h2 : d.ops < 9223372036854775807) (h3 : -9223372036854775808 ≤ d.armed) (h4 : d.armed ≤ 9223372036854775807) (h0 : 0 < d.cells.length) (hL : d.cells.length ≤ 2000) (w : World) (hB : B ≤ w.heap.size) (hd : RDev B w a d) :
    Calls Try.prog 30 #[.agg #[a, .int .i64 d.ops, .int .i64 d.armed, .bool d.dead]] w fun e w' => ∃ a', e = .returned (.tuple #[.agg #[a', .int .i64 d.flush.ops, .int .i64 d.flush.armed, .bool d.flush.dead], .int .i64 d.flushE]) ∧ RDev B w' a' d.flush ∧ Below w.heap.size w w' := by
  obtain ⟨g, cap, rfl⟩ := Joins.ownsRow_form hd.row h0
  have hbb : ∀ o u : Obj, Below w.heap.size w ((w.alloc o).alloc u) := fun o u => ((Below.refl _ w).alloc (Nat.le_refl _) o).alloc (by simp) u
  have HB := Lib.hid hbb
  have HD := Lib.hid hd
  clear hbb
  cases hdd : d.dead with
  | true =>
    have hf : d.flush = d := by unfold Dv.flush; rw [if_pos hdd]
    have he : d.flushE = 20 := by unfold Dv.flushE; rw [if_pos hdd]
    rw [hf, he, hdd]
    clear hf he hd
    go_enter Try.func30, Try.ntmps30
    go_wp2
    refine bodyPost_ret (results_row_slot rfl _ _ (w.heap.size + 1) _ rfl (dev_load (heap_alloc2_new _ _ _))) rfl ?_
    exact ⟨_, rfl, HD.out.step (HB.out _ _), HB.out _ _⟩
  | false =>
    have HCT := Lib.hid (rcounted_any (some ⟨g, 0, none⟩) d.cells.length cap d h1 h2 h3 h4)
    rw [hdd] at HCT
    by_cases hh : d.hit = true
    · have hf : d.flush = d.count := by unfold Dv.flush; rw [hdd, if_neg (by decide), if_pos hh]
      have he : d.flushE = 20 := by unfold Dv.flushE; rw [hdd, if_neg (by decide), if_pos hh]
      rw [hf, he]
      rw [hh] at HCT
      have HDC : Hid (∀ w', RDev B w' (.slice (some ⟨g, 0, none⟩) d.cells.length cap) d → RDev B w' (.slice (some ⟨g, 0, none⟩) d.cells.length cap) d.count) := Lib.hid fun w' h => ⟨h.row⟩
      generalize d.count = D at *
      clear hf he hd
      go_enter Try.func30, Try.ntmps30
      go_wp2_with (go_at_call 47; refine (HCT.out _).mono ?_; rintro e w1 ⟨rfl, b1⟩; obtain ⟨hb1, hr1, ha1⟩ := below_two b1; obtain ⟨c0, c1, c2, c3, f0, f1, f2, f3⟩ := four_cells8 ha1; obtain ⟨k0, k1, k2, k3, m0, m1, m2, m3⟩ := four_cells8 hr1)
      refine bodyPost_ret (results_row_slot rfl _ _ (w.heap.size + 1) _ rfl (dev_load (four_stored8 (four_other8 hr1 (by omega) _ _ _ _) _ _ _ _))) rfl ?_
      have hbf := four_below8 (four_below8 hb1 (Nat.le_refl _) (.slice (some ⟨g, 0, none⟩) d.cells.length cap) (.int .i64 D.ops) (.int .i64 D.armed) (.bool D.dead)) (show w.heap.size ≤ w.heap.size + 1 by omega) (.slice (some ⟨g, 0, none⟩) d.cells.length cap) (.int .i64 D.ops) (.int .i64 D.armed) (.bool D.dead)
      exact ⟨_, rfl, HDC.out _ (HD.out.step hbf), hbf⟩
    · have hh' : d.hit = false := by cases h : d.hit with | true => exact absurd h hh | false => rfl
      have hf : d.flush = { d.count with cells := flushed d.cells } := by unfold Dv.flush; rw [hdd, if_neg (by decide), if_neg hh]
      have he : d.flushE = 0 := by unfold Dv.flushE; rw [hdd, if_neg (by decide), if_neg hh]
      rw [hf, he]
      rw [hh'] at HCT
      have HFR : Hid (∀ w', RDev B w' (.slice (some ⟨g, 0, none⟩) d.cells.length cap) d → Calls Try.prog 46 #[.agg #[.slice (some ⟨g, 0, none⟩) d.cells.length cap, .int .i64 d.count.ops, .int .i64 d.count.armed, .bool d.count.dead]] w' fun e w'' => ∃ g2 cap2, e = .returned (.agg #[.slice (some ⟨g2, 0, none⟩) d.cells.length cap2, .int .i64 d.count.ops, .int .i64 d.count.armed, .bool d.count.dead]) ∧ w''.ownsRow w'.heap.size 69 3 (.slice (some ⟨g2, 0, none⟩) d.cells.length cap2) d.cells.length (secCells d.cells) ∧ Below w'.heap.size w' w'') := Lib.hid fun w' h => by
        refine (rfresh_any B _ d.count w' ⟨h.row⟩ h0 hL).mono ?_
        rintro e w'' ⟨a', rfl, hr, hb⟩
        obtain ⟨g2, cap2, rfl⟩ := Joins.ownsRow_form hr.row h0
        exact ⟨g2, cap2, rfl, hr.row, hb⟩
      have HCN : Hid (d.count.cells = d.cells) := Lib.hid rfl
      generalize d.count = D at *
      clear hf he hd hh hh'
      go_enter Try.func30, Try.ntmps30
      go_upto_region 6 with (go_at_call 47; refine (HCT.out _).mono ?_; rintro e w1 ⟨rfl, b1⟩; obtain ⟨hb1, hr1, ha1⟩ := below_two b1; obtain ⟨c0, c1, c2, c3, f0, f1, f2, f3⟩ := four_cells8 ha1; obtain ⟨k0, k1, k2, k3, m0, m1, m2, m3⟩ := four_cells8 hr1)
      obtain ⟨W1, hW1, hA1, hR1, hB1⟩ : ∃ W1, W1 = (((w1.setCell ⟨w.heap.size, 0, none⟩ (.slice (some ⟨g, 0, none⟩) d.cells.length cap)).setCell ⟨w.heap.size, 1, none⟩ (.int .i64 D.ops)).setCell ⟨w.heap.size, 2, none⟩ (.int .i64 D.armed)).setCell ⟨w.heap.size, 3, none⟩ (.bool D.dead) ∧ W1.heap[w.heap.size]? = some (.cells #[.slice (some ⟨g, 0, none⟩) d.cells.length cap, .int .i64 D.ops, .int .i64 D.armed, .bool D.dead] 32 (0, 0)) ∧ W1.heap[w.heap.size + 1]? = some (.cells #[.slice none 0 0, .int .i64 0, .int .i64 0, .bool false] 32 (0, 0)) ∧ Below w.heap.size w W1 :=
        ⟨_, rfl, four_stored8 ha1 _ _ _ _, four_other8 hr1 (by omega) _ _ _ _, four_below8 hb1 (Nat.le_refl _) _ _ _ _⟩
      rw [← hW1]
      clear hW1 c0 c1 c2 c3 f0 f1 f2 f3 k0 k1 k2 k3 m0 m1 m2 m3 hb1 hr1 ha1 b1
      obtain ⟨c0, c1, c2, c3, f0, f1, f2, f3⟩ := four_cells8 hA1
      have HA1 := Lib.hid hA1
      have HR1 := Lib.hid hR1
      have HB1 := Lib.hid hB1
      clear hA1 hR1 hB1
      go_upto_region 7 with (go_at_call 46; refine (HFR.out _ (HD.out.step HB1.out)).mono ?_; rintro e w3 ⟨g2, cap2, rfl, hO3, b3⟩; clear c0 c1 c2 c3 f0 f1 f2 f3; obtain ⟨c0, c1, c2, c3, f0, f1, f2, f3⟩ := four_cells8 (old_obj b3 HA1.out); have HO3 := Lib.hid hO3; have HBB := Lib.hid b3; clear hO3 b3)
      clear c0 c1 c2 c3 f0 f1 f2 f3
      obtain ⟨W4, hW4, HU0⟩ : ∃ W4, W4 = (((w3.setCell ⟨w.heap.size, 0, none⟩ (.slice (some ⟨g2, 0, none⟩) d.cells.length cap2)).setCell ⟨w.heap.size, 1, none⟩ (.int .i64 D.ops)).setCell ⟨w.heap.size, 2, none⟩ (.int .i64 D.armed)).setCell ⟨w.heap.size, 3, none⟩ (.bool D.dead) ∧ Hid (Own8 w g2 cap2 ⟨flushTo d.cells 0, D.ops, D.armed, D.dead⟩ W4) :=
        ⟨_, rfl, Lib.hid (by rw [flushTo_none]; exact own8_made (d := ⟨d.cells, D.ops, D.armed, D.dead⟩) HA1.out HR1.out HB1.out HBB.out HO3.out)⟩
      rw [← hW4]
      clear hW4
      obtain ⟨n, hn⟩ : ∃ n, d.cells.length = n := ⟨_, rfl⟩
      have HFL : Hid (∀ k, (flushTo d.cells k).length = n) := Lib.hid fun k => by rw [flushTo_len, hn]
      have HN := Lib.hid hn
      rw [hn] at hL h0 ⊢
      clear hn
      go_wp2
      go_loopw [5] (fun i' wr => ∃ k : Nat, i' = .int .i64 k ∧ k ≤ n ∧ Hid (Own8 w g2 cap2 ⟨flushTo d.cells k, D.ops, D.armed, D.dead⟩ wr)) (fun i _ => n - (intOf i).toNat)
      case atStart => exact ⟨0, rfl, by omega, HU0⟩
      case round =>
        obtain ⟨k, rfl, hk, hU⟩ := hrel
        have hbx := hU.out.box
        have hlt8 := hU.out.lt
        simp only [HFL.out k] at hbx
        obtain ⟨c0, c1, c2, c3, f0, f1, f2, f3⟩ := four_cells8 hbx
        clear hbx
        by_cases hlt : k < n
        · have i1 : (k : Int) < (n : Int) := by omega
          have hkl : k < d.cells.length := by rw [HN.out]; exact hlt
          obtain ⟨s0, s1, s2, s3⟩ := hU.out.at k (by rw [flushTo_len]; exact hkl)
          simp only [flushTo_at _ _ hkl] at s0 s1 s2
          have s31 := s3 (k * 3 + 1)
          have s32 := s3 (k * 3 + 2)
          clear s3
          go_upto_region 10 with fail
          go_big_region
          have HU5 := own8_safe hU.out k (by rw [flushTo_len]; exact hkl) (d.cells[k]).now
          obtain ⟨W5, hW5⟩ : ∃ W5, W5 = (wr.setCell ⟨g2, k * 3 + 1, none⟩ (.string (d.cells[k]).now)).drew := ⟨_, rfl⟩
          rw [← hW5]
          have hU5 := HU5.out.drew
          rw [← hW5] at hU5
          clear hW5 HU5 c0 c1 c2 c3 f0 f1 f2 f3 s0 s1 s2 s31 s32
          have HU6 := own8_loose hU5 k (by simp; rw [flushTo_len]; exact hkl) false
          have hbx := hU5.box
          have hlt9 := hU5.lt
          simp only [List.length_set, HFL.out k] at hbx
          obtain ⟨c0, c1, c2, c3, f0, f1, f2, f3⟩ := four_cells8 hbx
          obtain ⟨_, _, s2, s3⟩ := hU5.at k (by simp; rw [flushTo_len]; exact hkl)
          have s32 := s3 (k * 3 + 2)
          have HFM : Hid (flushTo d.cells (k + 1) = _) := Lib.hid (flushTo_more d.cells k hkl)
          have HAT : Hid ((flushTo d.cells k)[k]'(by rw [flushTo_len]; exact hkl) = d.cells[k]) := Lib.hid (flushTo_at d.cells k hkl)
          clear s3 hbx hU5
          go_wp2
          go_roundw
          case rel => exact ⟨k + 1, by go_num, by omega, Lib.hid (by
            have := HU6.out
            simp only [List.getElem_set_self, List.set_set, HAT.out] at this
            rw [HFM.out]; exact this)⟩
          case measure => simp [intOf]; omega
        · obtain rfl : k = n := by omega
          have hbr := hU.out.res
          have HFA : Hid (flushTo d.cells k = flushed d.cells) := Lib.hid (by have := flushTo_all d.cells; rw [HN.out] at this; exact this)
          obtain ⟨k0, k1, k2, k3, m0, m1, m2, m3⟩ := four_cells8 hbr
          have HBR := Lib.hid hbr
          clear hbr
          go_wp2
          refine bodyPost_ret (results_row_slot rfl _ _ (w.heap.size + 1) _ rfl (dev_load (four_stored8 HBR.out _ _ _ _))) rfl ?_
          have hrow := own_mono (own_stores hU.out.row hU.out.ne.2 (.slice (some ⟨g2, 0, none⟩) k cap2) (.int .i64 D.ops) (.int .i64 D.armed) (.bool D.dead)) hB
          simp only [HFL.out k] at hrow
          rw [HFA.out] at hrow
          refine ⟨_, rfl, ⟨?_⟩, four_below8 hU.out.old (by omega) _ _ _ _⟩
          have hfl : (flushed d.cells).length = k := by rw [← HFA.out, HFL.out]
          simp only [hfl]
          exact hrow
end Go.Proofs.Ytocengdojdeiiaa
