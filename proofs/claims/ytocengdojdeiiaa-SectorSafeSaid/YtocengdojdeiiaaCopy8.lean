/- The program's Copy. -/
import Derived.Test.YtocengdojdeiiaaRead8
namespace Go.Proofs.Ytocengdojdeiiaa
open Go.RowKit Go.Maps

theorem now_one (l : List Sec) : ∀ u ∈ nowCells l, u.oneCell' = true := by
  intro u hu
  unfold nowCells at hu
  obtain ⟨c, _, hc⟩ := List.mem_flatMap.1 hu
  exact byte_one c.now u hc
/-- The row of sectors cloned. -/
theorem clone_row {w : World} {g cap : Nat} {l : List Sec} (h : PRow w g cap l) (hf : FitL l) (h0 : 0 < l.length) (hL : l.length ≤ 2000) :
    Calls Try.prog 42 #[.slice (some ⟨g, 0, none⟩) l.length cap] w fun e w' => ∃ g2 cap2, e = .returned (.slice (some ⟨g2, 0, none⟩) l.length cap2) ∧ PRow w' g2 cap2 l ∧ w.heap.size ≤ g2 ∧ Below w.heap.size w w' := by
  obtain ⟨i0, hi, hz0, hz1, hz2⟩ := info_parts infoArr
  have hlen := now_len hf
  have hcl := AnyE.slices_Clone Try.layClone i0 (arrV zero64) 64 64 hi hz0 hz1 hz2 rfl (by decide) (fun w => Try.sizeOf80 w) g 0 l.length cap (nowCells l) w hlen (by unfold maxLen; omega) (by omega) (fun j u hj => by
    obtain ⟨cur, q0, q1, q2, q3, q4⟩ := h
    have hj' : j < l.length * 64 := by rw [← hlen]; exact (List.getElem?_eq_some_iff.1 hj).1
    rw [Nat.zero_add, cell_of_row w g _ _ _ _ q0, List.getElem?_toArray]
    rw [← q4, List.getElem?_take, if_pos hj'] at hj
    exact hj) (now_one l)
  change Calls _ 42 _ _ _ at hcl
  refine hcl.mono ?_
  rintro e w' ⟨v, rfl, ho, _, hb⟩
  obtain ⟨g2, cap2, rfl⟩ := Joins.ownsRow_form ho h0
  obtain ⟨hr, hg⟩ := PRow.of_own rfl ho
  exact ⟨g2, cap2, rfl, hr, hg, hb⟩
theorem clone_map {w : World} {m n : Nat} {D : DataW Value} (h : w.ownsMap Try.prog 3 tokR m n D) :
    Calls Try.prog 43 #[.map (some m)] w fun e w' => e = .returned (.map (some w.heap.size)) ∧ w'.ownsMap Try.prog 3 tokR w.heap.size n D ∧ Below w.heap.size w w' := by
  refine (AnyW.maps_Clone_owns Try.layMapClone 3 tokR m n D w h).mono ?_
  rintro e w' ⟨rfl, h1, _, h3⟩
  exact ⟨rfl, h1, h3⟩
set_option maxHeartbeats 1000000 in
theorem pcopy_any {w : World} {b g cap m : Nat} {d : Dv} (h : PDev w b g cap m d) (hd : d.Ok) :
    Calls Try.prog 17 #[.pointer (some ⟨b, 0, none⟩)] w fun e w' => ∃ b2 g2 cap2 m2, e = .returned (.pointer (some ⟨b2, 0, none⟩)) ∧ PDev w' b2 g2 cap2 m2 d ∧ w.heap.size ≤ b2 ∧ w.heap.size ≤ g2 ∧ w.heap.size ≤ m2 ∧ Below w.heap.size w w' := by
  have hma := pmade_any h hd
  obtain ⟨c0, c1, c2, c3, c4, f0, f1, f2, f3, f4⟩ := five_cells h.box
  have H := Lib.hid h
  have HD := Lib.hid hd
  obtain ⟨on, hon⟩ : ∃ on, (!d.dead) = on := ⟨_, rfl⟩
  rw [hon] at c4
  have HON := Lib.hid hon
  obtain ⟨C, hC⟩ : ∃ C : Obj, C = .cells #[.slice (some ⟨g, 0, none⟩) d.cells.length cap, .map (some m), .int .i64 d.ops, .int .i64 d.armed, .bool on] 62 := ⟨_, rfl⟩
  have hB0 : Below w.heap.size w (w.alloc C) := (Below.refl _ w).alloc (Nat.le_refl _) _
  have hN0 := heap_alloc_new w C
  have hP1 := h.step hB0
  have hsz : (w.alloc C).heap.size = w.heap.size + 1 := by simp
  clear h hd hon
  go_enter Try.func17, Try.ntmps17
  go_upto_region 4 with (go_at_call 41; refine hma.mono ?_; rintro e w1 ⟨rfl, rfl⟩)
  rw [← hC]
  generalize w.alloc C = W1 at *
  rw [hC] at hN0
  clear hC hma c0 c1 c2 c3 c4 f0 f1 f2 f3 f4
  obtain ⟨c0, c1, _⟩ := five_cells hP1.box
  obtain ⟨k0, k1, k2, k3, k4, n0, n1, n2, n3, n4⟩ := five_cells hN0
  have hcl := clone_row hP1.row HD.out.fit HD.out.some HD.out.few
  have HP1 := Lib.hid hP1
  have HB0 := Lib.hid hB0
  have HN0 := Lib.hid hN0
  have hlt := H.out.lt
  clear hP1 hB0 hN0 k1 k2 k3 k4 n1 n2 n3 n4
  go_upto_region 5 with (go_at_call 42; refine hcl.mono ?_; rintro e w2 ⟨g2, cap2, rfl, hr2, hg2, hb2⟩; have HR2 := Lib.hid hr2; have HB2 := Lib.hid hb2; have HG2 := Lib.hid hg2; have k0 := (five_cells (old_obj hb2 HN0.out)).1; have n0 := (five_cells (old_obj hb2 HN0.out)).2.2.2.2.2.1; clear hr2 hb2 hg2)
  obtain ⟨W3, hW3⟩ : ∃ W3, W3 = w2.setCell ⟨w.heap.size, 0, none⟩ (.slice (some ⟨g2, 0, none⟩) d.cells.length cap2) := ⟨_, rfl⟩
  rw [← hW3]
  have hx2 := old_obj HB2.out HN0.out
  have hbx : W3.heap[w.heap.size]? = some (.cells #[.slice (some ⟨g2, 0, none⟩) d.cells.length cap2, .map (some m), .int .i64 d.ops, .int .i64 d.armed, .bool on] 62 (0, 0)) := by rw [hW3]; exact heap_setCell_same w2 _ 0 _ _ _ hx2
  have hoth : ∀ k, k ≠ w.heap.size → W3.heap[k]? = w2.heap[k]? := fun k hk => by rw [hW3]; exact cell_else _ _ _ _ _ hk
  have hs3 : W3.heap.size = w2.heap.size := by rw [hW3]; simp [World.setCell]
  have hP2 := HP1.out.step HB2.out
  have hP3 : PDev W3 b g cap m d := hP2.kept (hoth _ (by omega)) (hoth _ (by omega)) (hoth _ (by omega))
  have hR3 : PRow W3 g2 cap2 d.cells := HR2.out.kept (hoth g2 (by have := HG2.out; omega))
  have hb3 : Below w.heap.size w W3 := by rw [hW3]; exact (HB0.out.trans (HB2.out.mono HB0.out.size)).setCell (p := ⟨w.heap.size, 0, none⟩) (Nat.le_refl _) _
  obtain ⟨D, hown, hK⟩ := hP3.map
  have hcm := clone_map hown
  have c1' := (five_cells hP3.box).2.1
  have HX3 := Lib.hid hbx
  have HR3 := Lib.hid hR3
  have HB3 := Lib.hid hb3
  have HS3 := Lib.hid hs3
  clear hW3 hx2 hbx hoth hs3 hP2 hP3 hR3 hb3 hown hcl c0 c1 k0 n0
  go_wp2_with (go_at_call 43; refine hcm.mono ?_; rintro e w4 ⟨rfl, ho4, hb4⟩; have HO4 := Lib.hid ho4; have HB4 := Lib.hid hb4; have k1 := (five_cells (old_obj hb4 HX3.out)).2.1; have n1 := (five_cells (old_obj hb4 HX3.out)).2.2.2.2.2.2.1; clear ho4 hb4)
  go_ret
  have hx4 := old_obj HB4.out HX3.out
  have hx5 := heap_setCell_same w4 w.heap.size 1 _ _ (.map (some W3.heap.size)) hx4
  have hs := HB3.out.size
  have hs0 := obj_lt HX3.out
  have hg2 := HG2.out
  have hg2l := HR3.out.lt
  refine ⟨w.heap.size, g2, cap2, W3.heap.size, rfl, ⟨?_, ?_, ?_⟩, Nat.le_refl _, by omega, hs, (HB3.out.trans (HB4.out.mono hs)).setCell (p := ⟨w.heap.size, 1, none⟩) (Nat.le_refl _) _⟩
  · rw [HON.out]; exact hx5
  · exact HR3.out.kept ((cell_else _ _ _ _ _ (by omega)).trans (HB4.out.block _ hg2l))
  · obtain ⟨es, clock, hm, r⟩ := HO4.out
    exact ⟨D, ⟨es, clock, (cell_else _ _ _ _ _ (by omega)).trans hm, r⟩, hK⟩
theorem pcopy_no {w : World} {v : Value} (h : NoDev w v) :
    Calls Try.prog 17 #[v] w fun e w' => e = .returned (.pointer none) ∧ w = w' := by
  have hs := pmade_no h
  clear h
  go_enter Try.func17, Try.ntmps17
  go_wp2_with (go_at_call 41; refine hs.mono ?_; rintro e w1 ⟨rfl, rfl⟩)
  go_ret
  exact ⟨rfl, rfl⟩
theorem pboot_no {w : World} {v : Value} (h : NoDev w v) (c : Value) (hc : ∃ x y z, c = .agg #[x, y, z]) :
    Calls Try.prog 19 #[v, c] w fun e w' => e = .returned (.int .i64 1) ∧ Below w.heap.size w w' := by
  obtain ⟨x, y, z, rfl⟩ := hc
  have HB : Hid (∀ o : Obj, Below w.heap.size w (w.alloc o)) := Lib.hid fun o => (Below.refl _ w).alloc (Nat.le_refl _) o
  have hs : NoDev (w.alloc (.cells #[x, y, z] 39)) v := by
    rcases h with h | ⟨b, h1, h2⟩
    · exact Or.inl h
    · exact Or.inr ⟨b, h1, old_obj (HB.out _) h2⟩
  have hm := pmade_no hs
  clear h hs
  go_enter Try.func19, Try.ntmps19
  go_wp2_with (go_at_call 41; refine hm.mono ?_; rintro e w1 ⟨rfl, rfl⟩)
  go_ret
  exact ⟨rfl, HB.out _⟩
end Go.Proofs.Ytocengdojdeiiaa
