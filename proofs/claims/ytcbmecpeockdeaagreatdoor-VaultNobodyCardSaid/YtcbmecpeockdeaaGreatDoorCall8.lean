/- The program's calls of a device that leave its sectors: made, Size, dead, outside, On, Ops, Arm, Off, step; for every device that New made, for no device, and for one that no call made. -/
import Derived.Test.YtcbmecpeockdeaaGreatDoorMMap8
namespace Go.Proofs.YtcbmecpeockdeaaGreatDoor
open Go.RowKit Go.Maps

theorem PDev.boxed {w w' : World} {b g cap m : Nat} {d : Dv} (h : PDev w b g cap m d) {x y : Int} {z : Bool}
    (hb : w'.heap[b]? = some (.cells #[.slice (some ⟨g, 0, none⟩) d.cells.length cap, .map (some m), .int .i64 x, .int .i64 y, .bool (!z)] 73 (0, 0)))
    (ho : ∀ k, k ≠ b → w'.heap[k]? = w.heap[k]?) : PDev w' b g cap m ⟨d.cells, x, y, z⟩ := by
  have hn := h.ne
  refine ⟨hb, h.row.kept (ho g (fun e => hn.1 e.symm)), ?_⟩
  obtain ⟨D, ⟨es, clock, hm, r⟩, hk⟩ := h.map
  exact ⟨D, ⟨es, clock, (ho m (fun e => hn.2.1 e.symm)).trans hm, r⟩, hk⟩
theorem cell_else (w : World) (b j : Nat) (v : Value) (k : Nat) (h : k ≠ b) : (w.setCell ⟨b, j, none⟩ v).heap[k]? = w.heap[k]? := heap_setCell_other w ⟨b, j, none⟩ k v h
/-- No device, or one that no call made. -/
def NoDev (w : World) (v : Value) : Prop := v = .pointer none ∨ ∃ b, v = .pointer (some ⟨b, 0, none⟩) ∧ w.heap[b]? = some (.cells #[.slice none 0 0, .map none, .int .i64 0, .int .i64 0, .bool false] 73 (0, 0))

theorem psize_any {w : World} {b g cap m : Nat} {d : Dv} (h : PDev w b g cap m d) :
    Calls Tryz.prog 44 #[.pointer (some ⟨b, 0, none⟩)] w fun e w' => e = .returned (.int .i64 d.cells.length) ∧ w = w' := by
  obtain ⟨c0, c1, c2, c3, c4, f0, f1, f2, f3, f4⟩ := five_cells h.box
  clear h
  go_enter Tryz.func44, Tryz.ntmps44
  go_wp2
  go_ret
  exact ⟨rfl, rfl⟩
theorem psize_no {w : World} {v : Value} (h : NoDev w v) :
    Calls Tryz.prog 44 #[v] w fun e w' => e = .returned (.int .i64 0) ∧ w = w' := by
  rcases h with rfl | ⟨b, rfl, h⟩
  · go_enter Tryz.func44, Tryz.ntmps44
    go_wp2
    go_ret
    exact ⟨rfl, rfl⟩
  · obtain ⟨c0, c1, c2, c3, c4, f0, f1, f2, f3, f4⟩ := five_cells h
    clear h
    go_enter Tryz.func44, Tryz.ntmps44
    go_wp2
    go_ret
    exact ⟨rfl, rfl⟩
theorem pmade_any {w : World} {b g cap m : Nat} {d : Dv} (h : PDev w b g cap m d) (hd : d.Ok) :
    Calls Tryz.prog 32 #[.pointer (some ⟨b, 0, none⟩)] w fun e w' => e = .returned (.bool true) ∧ w = w' := by
  have hs := psize_any h
  have h1 : decide (0 < d.cells.length) = true := decide_eq_true hd.some
  clear h hd
  go_enter Tryz.func32, Tryz.ntmps32
  go_wp2_with (go_at_call 44; refine hs.mono ?_; rintro e w1 ⟨rfl, rfl⟩)
  go_ret
  exact ⟨rfl, rfl⟩
theorem pmade_no {w : World} {v : Value} (h : NoDev w v) :
    Calls Tryz.prog 32 #[v] w fun e w' => e = .returned (.bool false) ∧ w = w' := by
  have hs := psize_no h
  clear h
  go_enter Tryz.func32, Tryz.ntmps32
  go_wp2_with (go_at_call 44; refine hs.mono ?_; rintro e w1 ⟨rfl, rfl⟩)
  go_ret
  exact ⟨rfl, rfl⟩
theorem pdead_any {w : World} {b g cap m : Nat} {d : Dv} (h : PDev w b g cap m d) (hd : d.Ok) :
    Calls Tryz.prog 59 #[.pointer (some ⟨b, 0, none⟩)] w fun e w' => e = .returned (.int .i64 (if d.dead = true then 20 else 0)) ∧ w = w' := by
  have hs := pmade_any h hd
  obtain ⟨c0, c1, c2, c3, c4, f0, f1, f2, f3, f4⟩ := five_cells h.box
  clear h hd
  cases hdd : d.dead with
  | true =>
    rw [hdd] at c4
    clear hdd
    go_enter Tryz.func59, Tryz.ntmps59
    go_wp2_with (go_at_call 32; refine hs.mono ?_; rintro e w1 ⟨rfl, rfl⟩)
    go_ret
    exact ⟨rfl, rfl⟩
  | false =>
    rw [hdd] at c4
    clear hdd
    go_enter Tryz.func59, Tryz.ntmps59
    go_wp2_with (go_at_call 32; refine hs.mono ?_; rintro e w1 ⟨rfl, rfl⟩)
    go_ret
    exact ⟨rfl, rfl⟩
theorem pdead_no {w : World} {v : Value} (h : NoDev w v) :
    Calls Tryz.prog 59 #[v] w fun e w' => e = .returned (.int .i64 1) ∧ w = w' := by
  have hs := pmade_no h
  clear h
  go_enter Tryz.func59, Tryz.ntmps59
  go_wp2_with (go_at_call 32; refine hs.mono ?_; rintro e w1 ⟨rfl, rfl⟩)
  go_ret
  exact ⟨rfl, rfl⟩
/-- The error of n sectors from a place on. -/
def outE (len : Nat) (p n : Int) : Int := if n < 1 then 2 else if 0 ≤ p ∧ p + n ≤ len then 0 else 21
theorem poutside_any {w : World} {b g cap m : Nat} {d : Dv} (h : PDev w b g cap m d) (hd : d.Ok) (p n : Int) (hn : n ≤ 9223372036854775807) :
    Calls Tryz.prog 60 #[.pointer (some ⟨b, 0, none⟩), .int .i64 p, .int .i64 n] w fun e w' => e = .returned (.int .i64 (outE d.cells.length p n)) ∧ w = w' := by
  obtain ⟨c0, c1, c2, c3, c4, f0, f1, f2, f3, f4⟩ := five_cells h.box
  have hlen := hd.few
  clear h hd
  obtain ⟨L, hL⟩ : ∃ L, d.cells.length = L := ⟨_, rfl⟩
  rw [hL] at c0 hlen ⊢
  clear hL
  by_cases h1 : n < 1
  · have e1 : decide (n < 1) = true := decide_eq_true h1
    have he : outE L p n = 2 := by unfold outE; rw [if_pos h1]
    rw [he]
    clear he h1
    go_enter Tryz.func60, Tryz.ntmps60
    go_wp2
    go_ret
    exact ⟨rfl, rfl⟩
  · have e1 : decide (n < 1) = false := decide_eq_false h1
    have hw : IntKind.i64.wrap ((L : Int) - n) = (L : Int) - n := IntWalk.i64_in _ (by omega)
    by_cases h2 : p < 0
    · have e2 : decide (p < 0) = true := decide_eq_true h2
      have he : outE L p n = 21 := by unfold outE; rw [if_neg h1, if_neg (by omega)]
      rw [he]
      clear he h1 h2
      go_enter Tryz.func60, Tryz.ntmps60
      go_wp2
      go_ret
      exact ⟨rfl, rfl⟩
    · have e2 : decide (p < 0) = false := decide_eq_false h2
      by_cases h3 : (L : Int) - n < p
      · have e3 : decide ((L : Int) - n < p) = true := decide_eq_true h3
        have he : outE L p n = 21 := by unfold outE; rw [if_neg h1, if_neg (by omega)]
        rw [he]
        clear he h1 h2 h3
        go_enter Tryz.func60, Tryz.ntmps60
        go_wp2
        go_ret
        exact ⟨rfl, rfl⟩
      · have e3 : decide ((L : Int) - n < p) = false := decide_eq_false h3
        have he : outE L p n = 0 := by unfold outE; rw [if_neg h1, if_pos (by omega)]
        rw [he]
        clear he h1 h2 h3
        go_enter Tryz.func60, Tryz.ntmps60
        go_wp2
        go_ret
        exact ⟨rfl, rfl⟩
theorem poff_any {w : World} {b g cap m : Nat} {d : Dv} (h : PDev w b g cap m d) (hd : d.Ok) :
    Calls Tryz.prog 16 #[.pointer (some ⟨b, 0, none⟩)] w fun e w' => e = .returned (.int .i64 0) ∧ PDev w' b g cap m d.off ∧ But b g m w w' := by
  have hs := pmade_any h hd
  obtain ⟨c0, c1, c2, c3, c4, f0, f1, f2, f3, f4⟩ := five_cells h.box
  have H := Lib.hid h
  clear h hd
  go_enter Tryz.func16, Tryz.ntmps16
  go_wp2_with (go_at_call 32; refine hs.mono ?_; rintro e w1 ⟨rfl, rfl⟩)
  go_ret
  refine ⟨rfl, H.out.boxed (z := true) (heap_setCell_same _ b 3 _ _ _ (heap_setCell_same w b 4 _ _ (.bool false) H.out.box)) (fun k hk => by rw [cell_else _ _ _ _ _ hk, cell_else _ _ _ _ _ hk]), ((But.refl b g m w).cell _ (Or.inl rfl)).cell _ (Or.inl rfl)⟩
theorem poff_no {w : World} {v : Value} (h : NoDev w v) :
    Calls Tryz.prog 16 #[v] w fun e w' => e = .returned (.int .i64 1) ∧ w = w' := by
  have hs := pmade_no h
  clear h
  go_enter Tryz.func16, Tryz.ntmps16
  go_wp2_with (go_at_call 32; refine hs.mono ?_; rintro e w1 ⟨rfl, rfl⟩)
  go_ret
  exact ⟨rfl, rfl⟩
theorem pstep_any {w : World} {b g cap m : Nat} {d : Dv} (h : PDev w b g cap m d) (hd : d.Ok) (ho : d.ops < 9223372036854775807) :
    Calls Tryz.prog 62 #[.pointer (some ⟨b, 0, none⟩)] w fun e w' => e = .returned (.int .i64 (if d.hit = true then 20 else 0)) ∧ PDev w' b g cap m d.count ∧ But b g m w w' := by
  obtain ⟨c0, c1, c2, c3, c4, f0, f1, f2, f3, f4⟩ := five_cells h.box
  have H := Lib.hid h
  have h0 := hd.ops0
  have h1 := hd.armed0
  have h2 := hd.armed1
  have HB := Lib.hid (heap_setCell_same w b 2 _ _ (.int .i64 (d.ops + 1)) h.box)
  have hw : IntKind.i64.wrap (d.ops + 1) = d.ops + 1 := IntWalk.i64_in _ (by omega)
  clear h hd
  by_cases ha : d.armed = 0
  · have hc : (d.count = ⟨d.cells, d.ops + 1, d.armed, d.dead⟩ ∧ d.hit = false) := by unfold Dv.count Dv.hit; simp [ha]
    have e1 : (d.armed == 0) = true := beq_iff_eq.2 ha
    rw [hc.1, hc.2, if_neg (by decide)]
    clear ha h1 h2 hc
    go_enter Tryz.func62, Tryz.ntmps62
    go_wp2
    go_ret
    exact ⟨rfl, H.out.boxed HB.out (fun k hk => cell_else _ _ _ _ _ hk), (But.refl b g m w).cell _ (Or.inl rfl)⟩
  · have e1 : (d.armed == 0) = false := beq_eq_false_iff_ne.2 ha
    have hw2 : IntKind.i64.wrap (d.armed - 1) = d.armed - 1 := IntWalk.i64_in _ (by omega)
    by_cases h3 : 1 < d.armed
    · have hc : (d.count = ⟨d.cells, d.ops + 1, d.armed - 1, d.dead⟩ ∧ d.hit = false) := by
        unfold Dv.count Dv.hit; rw [if_pos (by omega), if_neg (by omega)]; exact ⟨rfl, decide_eq_false (by omega)⟩
      have e2 : decide (1 < d.armed) = true := decide_eq_true h3
      rw [hc.1, hc.2, if_neg (by decide)]
      clear ha h1 h2 h3 hc
      go_enter Tryz.func62, Tryz.ntmps62
      go_wp2
      go_ret
      exact ⟨rfl, H.out.boxed (heap_setCell_same _ b 3 _ _ _ HB.out) (fun k hk => by rw [cell_else _ _ _ _ _ hk, cell_else _ _ _ _ _ hk]), ((But.refl b g m w).cell _ (Or.inl rfl)).cell _ (Or.inl rfl)⟩
    · have hc : (d.count = ⟨d.cells, d.ops + 1, d.armed - 1, true⟩ ∧ d.hit = true) := by
        unfold Dv.count Dv.hit; rw [if_pos (by omega), if_pos (by omega)]; exact ⟨rfl, decide_eq_true (by omega)⟩
      have e2 : decide (1 < d.armed) = false := decide_eq_false h3
      rw [hc.1, hc.2, if_pos rfl]
      clear ha h1 h2 h3 hc
      go_enter Tryz.func62, Tryz.ntmps62
      go_wp2
      go_ret
      exact ⟨rfl, H.out.boxed (z := true) (heap_setCell_same _ b 4 _ _ _ (heap_setCell_same _ b 3 _ _ _ HB.out)) (fun k hk => by rw [cell_else _ _ _ _ _ hk, cell_else _ _ _ _ _ hk, cell_else _ _ _ _ _ hk]), (((But.refl b g m w).cell _ (Or.inl rfl)).cell _ (Or.inl rfl)).cell _ (Or.inl rfl)⟩
end Go.Proofs.YtcbmecpeockdeaaGreatDoor
