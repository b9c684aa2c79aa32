/- The calls of a vault that no call made, and the law that asks them: it comes out true for every text and number. -/
import Derived.Test.YtcbmecpeockdeaaGreatDoorVH12
namespace Go.Proofs.YtcbmecpeockdeaaGreatDoor
open Go.RowKit Go.Maps

/-- A vault that no call made: nil, or the zero struct. -/
def NoV (w : World) (v : Value) : Prop := v = .pointer none ∨ ∃ z, v = .pointer (some ⟨z, 0, none⟩) ∧ w.heap[z]? = some (.cells #[.pointer none, .int .i64 0, .int .i64 0, .int .i64 0, .int .i64 0, .bool false] 26 (0, 0))
theorem NoV.step {w w' : World} {v : Value} (h : NoV w v) (hb : Below w.heap.size w w') : NoV w' v := by
  rcases h with h | ⟨z, h1, h2⟩
  · exact Or.inl h
  · exact Or.inr ⟨z, h1, old_obj hb h2⟩
theorem nmade_any {w : World} {v : Value} (h : NoV w v) :
    Calls Tryz.prog 25 #[v] w fun e w' => e = .returned (.bool false) ∧ w = w' := by
  rcases h with rfl | ⟨z, rfl, h⟩
  · go_enter Tryz.func25, Tryz.ntmps25
    go_wp2
    go_ret
    exact ⟨rfl, rfl⟩
  · obtain ⟨⟨c0, c1, c2, c3, c4, c5⟩, _⟩ := six_cells h
    clear h
    go_enter Tryz.func25, Tryz.ntmps25
    go_wp2
    go_ret
    exact ⟨rfl, rfl⟩
theorem nclosed_any {w : World} {v : Value} (h : NoV w v) :
    Calls Tryz.prog 12 #[v] w fun e w' => e = .returned (.bool true) ∧ w = w' := by
  have hm := nmade_any h
  rcases h with rfl | ⟨z, rfl, h⟩
  · go_enter Tryz.func12, Tryz.ntmps12
    go_wp2_with (go_at_call 25; refine hm.mono ?_; rintro e w1 ⟨rfl, rfl⟩)
    go_ret
    exact ⟨rfl, rfl⟩
  · clear h
    go_enter Tryz.func12, Tryz.ntmps12
    go_wp2_with (go_at_call 25; refine hm.mono ?_; rintro e w1 ⟨rfl, rfl⟩)
    go_ret
    exact ⟨rfl, rfl⟩
theorem nepoch_any {w : World} {v : Value} (h : NoV w v) :
    Calls Tryz.prog 10 #[v] w fun e w' => e = .returned (.int .i64 0) ∧ w = w' := by
  rcases h with rfl | ⟨z, rfl, h⟩
  · go_enter Tryz.func10, Tryz.ntmps10
    go_wp2
    go_ret
    exact ⟨rfl, rfl⟩
  · obtain ⟨⟨c0, c1, c2, c3, c4, c5⟩, _⟩ := six_cells h
    clear h
    go_enter Tryz.func10, Tryz.ntmps10
    go_wp2
    go_ret
    exact ⟨rfl, rfl⟩
theorem nseq_any {w : World} {v : Value} (h : NoV w v) :
    Calls Tryz.prog 11 #[v] w fun e w' => e = .returned (.int .i64 0) ∧ w = w' := by
  rcases h with rfl | ⟨z, rfl, h⟩
  · go_enter Tryz.func11, Tryz.ntmps11
    go_wp2
    go_ret
    exact ⟨rfl, rfl⟩
  · obtain ⟨⟨c0, c1, c2, c3, c4, c5⟩, _⟩ := six_cells h
    clear h
    go_enter Tryz.func11, Tryz.ntmps11
    go_wp2
    go_ret
    exact ⟨rfl, rfl⟩
theorem NoV.drewN {w : World} {v : Value} (h : NoV w v) (n : Nat) : NoV (w.drewN n) v := h.step (below_drewN w n)
theorem nroom_any {w : World} {v : Value} (h : NoV w v) (t : ByteArray) :
    Calls Tryz.prog 8 #[v, .string t] w fun e w' => e = .returned (.bool false) ∧ Below w.heap.size w w' := by
  have hcl : ∀ n, Calls Tryz.prog 12 #[v] (w.drewN n) fun e w' => e = .returned (.bool true) ∧ w' = w.drewN n := fun n => (nclosed_any (h.drewN n)).mono fun _ _ ⟨x, y⟩ => ⟨x, y.symm⟩
  clear h
  go_enter Tryz.func8, Tryz.ntmps8
  go_upto_region 1 with fail
  go_quiet ((go_at_call 12; exact Calls.quiet_of_same (hcl _)))
  go_wp2
  go_ret
  exact ⟨rfl, below_drewN w nq⟩
theorem nfits_any {w : World} {v : Value} (h : NoV w v) (t : ByteArray) :
    Calls Tryz.prog 9 #[v, .string t] w fun e w' => e = .returned (.bool false) ∧ Below w.heap.size w w' := by
  have hcl : ∀ n, Calls Tryz.prog 12 #[v] (w.drewN n) fun e w' => e = .returned (.bool true) ∧ w' = w.drewN n := fun n => (nclosed_any (h.drewN n)).mono fun _ _ ⟨x, y⟩ => ⟨x, y.symm⟩
  clear h
  go_enter Tryz.func9, Tryz.ntmps9
  go_upto_region 1 with fail
  go_quiet ((go_at_call 12; exact Calls.quiet_of_same (hcl _)))
  go_wp2
  go_ret
  exact ⟨rfl, below_drewN w nq⟩
theorem ntake_main {w : World} (q : Option Addr) (h : NoV w (.pointer q)) (n : Fn) (u x : Array Value) (t : ByteArray) :
    Calls Tryz.prog 19 #[.pointer q, .func n u x, .string t] w fun e w' => e = .returned (.int .i64 1) ∧ Below w.heap.size w w' := by
  obtain ⟨W, hW⟩ : ∃ W, W = (w.alloc (.cells #[.pointer q] 23 (0, 0))).alloc (.cells #[.int .i64 0] 28 (0, 0)) := ⟨_, rfl⟩
  obtain ⟨b0, z0, z1⟩ := two_boxes _ _ hW
  have hma := nmade_any (h.step b0)
  obtain ⟨k0, _⟩ := one_cell12 z0
  obtain ⟨r0, r1⟩ := one_cell12 z1
  have HC := Lib.hid (b0.setCell (p := ⟨w.heap.size + 1, 0, none⟩) (by show w.heap.size ≤ w.heap.size + 1; omega) (.int .i64 1))
  clear h b0 z0 z1
  go_enter_defers Tryz.func19, Tryz.ntmps19
  go_upto_region 1 with fail
  rw [← hW]
  clear hW
  go_wp2_with (go_at_call 25; refine hma.mono ?_; rintro e w1 ⟨rfl, rfl⟩)
  refine ⟨.int .i64 1, ?_, rfl, HC.out⟩
  simp [results, Tryz.results19, go_sem, r0]
theorem ntake_any {w : World} {v : Value} (h : NoV w v) (n : Fn) (u x : Array Value) (t : ByteArray) :
    Calls Tryz.prog 19 #[v, .func n u x, .string t] w fun e w' => e = .returned (.int .i64 1) ∧ Below w.heap.size w w' := by
  rcases h with rfl | ⟨z, rfl, h⟩
  · exact ntake_main none (Or.inl rfl) n u x t
  · exact ntake_main (some ⟨z, 0, none⟩) (Or.inr ⟨z, rfl, h⟩) n u x t
theorem nappend_any {w : World} {v : Value} (h : NoV w v) (t : ByteArray) :
    Calls Tryz.prog 6 #[v, .string t] w fun e w' => e = .returned (.int .i64 1) ∧ Below w.heap.size w w' := by
  have hmf : ∀ (fn : Fn) (first cap : Array Value) (w : World), (Instr.makeFunc fn first cap).run Tryz.prog w = .ok (.func fn first cap) w := fun _ _ _ _ => rfl
  have hta := fun n u x => ntake_any h n u x t
  clear h
  go_enter Tryz.func6, Tryz.ntmps6
  go_wp2_with (go_at_call 19; refine (hta _ _ _).mono ?_; rintro e w1 ⟨rfl, hb⟩)
  go_ret
  exact ⟨rfl, hb⟩
theorem nsnap_any {w : World} {v : Value} (h : NoV w v) (t : ByteArray) :
    Calls Tryz.prog 7 #[v, .string t] w fun e w' => e = .returned (.int .i64 1) ∧ Below w.heap.size w w' := by
  have hmf : ∀ (fn : Fn) (first cap : Array Value) (w : World), (Instr.makeFunc fn first cap).run Tryz.prog w = .ok (.func fn first cap) w := fun _ _ _ _ => rfl
  have hta := fun n u x => ntake_any h n u x t
  clear h
  go_enter Tryz.func7, Tryz.ntmps7
  go_wp2_with (go_at_call 19; refine (hta _ _ _).mono ?_; rintro e w1 ⟨rfl, hb⟩)
  go_ret
  exact ⟨rfl, hb⟩
set_option maxRecDepth 100000 in
set_option maxHeartbeats 4000000 in
theorem vaultNobody_walk (w : World) (tab : Tab w) (t : ByteArray) (_ : t.size ≤ maxLen) (s : Int) (_ : (Lit.int .i64 s).wf = true) :
    Calls Tryz.prog 3 #[.string t, .int .i64 s] w fun e w' => e = .returned (.bool true) ∧ Below w.heap.size w w' := by
  have HT := Lib.hid tab
  by_cases q1 : 3100 < t.size
  · have d1 : decide (3100 < t.size) = true := decide_eq_true q1
    have d2 : decide ((3100 : Int) < (t.size : Int)) = true := decide_eq_true (by omega)
    have haw := awake12 w tab
    clear q1 tab
    go_enter Tryz.func3, Tryz.ntmps3
    go_wp2_with (go_at_call 5; refine haw.mono ?_; rintro e w1 ⟨rfl, hb⟩)
    go_ret
    exact ⟨rfl, hb⟩
  · have d1 : decide (3100 < t.size) = false := decide_eq_false q1
    have d2 : decide ((3100 : Int) < (t.size : Int)) = false := decide_eq_false (by omega)
    clear q1 tab
    obtain ⟨W, hW⟩ : ∃ W, W = (w.alloc (.cells #[.pointer none, .int .i64 0, .int .i64 0, .int .i64 0, .int .i64 0, .bool false] 26 (0, 0))).alloc (.cells #[.pointer none, .pointer (some ⟨w.heap.size, 0, none⟩)] 23 (0, 0)) := ⟨_, rfl⟩
    obtain ⟨b0, z0, z1⟩ := two_boxes _ _ hW
    have HB0 := Lib.hid b0
    have HZ0 := Lib.hid z0
    have HZ1 := Lib.hid z1
    clear b0 z0 z1
    go_enter Tryz.func3, Tryz.ntmps3
    go_upto_region 5 with fail
    rw [← hW]
    clear hW
    go_wp2
    go_loopw [7, 8] (fun i _ wr => (i = .int .i64 0 ∨ i = .int .i64 1 ∨ i = .int .i64 2) ∧ Hid (Below W.heap.size W wr)) (fun i _ _ => 2 - (intOf i).toNat)
    case atStart => exact ⟨Or.inl rfl, Lib.hid (Below.refl _ _)⟩
    case round =>
      obtain ⟨hi, HV⟩ := hrel
      have hz1 := old_obj HV.out HZ1.out
      have c0 := cell_of (j := 0) hz1 rfl
      have c1 := cell_of (j := 1) hz1 rfl
      have HN1 := Lib.hid (show NoV wr (.pointer (some ⟨w.heap.size, 0, none⟩)) from Or.inr ⟨_, rfl, old_obj HV.out HZ0.out⟩)
      clear hz1
      rcases hi with rfl | rfl | rfl
      · have HN := Lib.hid (show NoV wr (.pointer none) from Or.inl rfl)
        clear HN1
        go_wp2_with (first
          | (go_at_call 6; refine (nappend_any HN.out t).mono ?_; rintro e v1 ⟨rfl, hb⟩; have HN1 := Lib.hid (HN.out.step hb); have HV1 := Lib.hid (HV.out.trans (hb.mono HV.out.size)); clear hb)
          | (go_at_call 7; refine (nsnap_any HN1.out t).mono ?_; rintro e v2 ⟨rfl, hb⟩; have HN2 := Lib.hid (HN1.out.step hb); have HV2 := Lib.hid (HV1.out.trans (hb.mono HV1.out.size)); clear hb)
          | (go_at_call 8; refine (nroom_any HN2.out t).mono ?_; rintro e v3 ⟨rfl, hb⟩; have HN3 := Lib.hid (HN2.out.step hb); have HV3 := Lib.hid (HV2.out.trans (hb.mono HV2.out.size)); clear hb)
          | (go_at_call 9; refine (nfits_any HN3.out t).mono ?_; rintro e v4 ⟨rfl, hb⟩; have HN4 := Lib.hid (HN3.out.step hb); have HV4 := Lib.hid (HV3.out.trans (hb.mono HV3.out.size)); clear hb)
          | (go_at_call 10; refine (nepoch_any HN4.out).mono ?_; rintro e v5 ⟨rfl, rfl⟩)
          | (go_at_call 11; refine (nseq_any HN4.out).mono ?_; rintro e v6 ⟨rfl, rfl⟩)
          | (go_at_call 12; refine (nclosed_any HN4.out).mono ?_; rintro e v7 ⟨rfl, rfl⟩))
        go_roundw
        case rel => exact ⟨Or.inr (Or.inl rfl), HV4⟩
        case measure => simp [intOf]
      · have HN := Lib.hid HN1.out
        clear HN1
        go_wp2_with (first
          | (go_at_call 6; refine (nappend_any HN.out t).mono ?_; rintro e v1 ⟨rfl, hb⟩; have HN1 := Lib.hid (HN.out.step hb); have HV1 := Lib.hid (HV.out.trans (hb.mono HV.out.size)); clear hb)
          | (go_at_call 7; refine (nsnap_any HN1.out t).mono ?_; rintro e v2 ⟨rfl, hb⟩; have HN2 := Lib.hid (HN1.out.step hb); have HV2 := Lib.hid (HV1.out.trans (hb.mono HV1.out.size)); clear hb)
          | (go_at_call 8; refine (nroom_any HN2.out t).mono ?_; rintro e v3 ⟨rfl, hb⟩; have HN3 := Lib.hid (HN2.out.step hb); have HV3 := Lib.hid (HV2.out.trans (hb.mono HV2.out.size)); clear hb)
          | (go_at_call 9; refine (nfits_any HN3.out t).mono ?_; rintro e v4 ⟨rfl, hb⟩; have HN4 := Lib.hid (HN3.out.step hb); have HV4 := Lib.hid (HV3.out.trans (hb.mono HV3.out.size)); clear hb)
          | (go_at_call 10; refine (nepoch_any HN4.out).mono ?_; rintro e v5 ⟨rfl, rfl⟩)
          | (go_at_call 11; refine (nseq_any HN4.out).mono ?_; rintro e v6 ⟨rfl, rfl⟩)
          | (go_at_call 12; refine (nclosed_any HN4.out).mono ?_; rintro e v7 ⟨rfl, rfl⟩))
        go_roundw
        case rel => exact ⟨Or.inr (Or.inr rfl), HV4⟩
        case measure => simp [intOf]
      · have hT2 : Tab wr := HT.out.below (HB0.out.trans (HV.out.mono HB0.out.size))
        have haw := awake12 wr hT2
        clear hT2 HN1
        go_wp2_with (first
          | (go_at_call 13; refine (vopen_no s t).mono ?_; rintro e v1 ⟨rfl, rfl⟩)
          | (go_at_call 5; refine haw.mono ?_; rintro e v2 ⟨rfl, hb⟩))
        go_ret
        exact ⟨rfl, HB0.out.trans ((HV.out.trans (hb.mono HV.out.size)).mono HB0.out.size)⟩
end Go.Proofs.YtcbmecpeockdeaaGreatDoor
