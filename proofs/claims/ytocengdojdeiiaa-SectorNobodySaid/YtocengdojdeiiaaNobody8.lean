/- The law on devices that no call made: it comes out true for every act. -/
import Derived.Test.YtocengdojdeiiaaPlays8
namespace Go.Proofs.Ytocengdojdeiiaa
open Go.RowKit Go.Maps

theorem NoDev.step {w w' : World} {v : Value} (h : NoDev w v) (hb : Below w.heap.size w w') : NoDev w' v := by
  rcases h with h | ⟨b, h1, h2⟩
  · exact Or.inl h
  · exact Or.inr ⟨b, h1, old_obj hb h2⟩
set_option maxHeartbeats 1000000 in
theorem ndo_write {w : World} {v : Value} (h : NoDev w v) (p n : Int) (c : UInt8) (k : Value) (y z : Int) (hn : n ≤ 100) :
    Calls Try.prog 12 #[v, .agg #[.int .i64 0, .int .i64 p, .int .i64 n, .int .u8 c.toNat, k, .int .i64 y, .int .i64 z]] w fun e w' => e = .returned (.tuple #[v, .int .i64 1]) ∧ Below w.heap.size w w' := by
  obtain ⟨T, hT⟩ : ∃ T, T = if n < 0 then (⟨#[115, 104, 111, 114, 116]⟩ : ByteArray) else fillT n.toNat c := ⟨_, rfl⟩
  have htx := text_any 0 p n c k y z hn T hT
  obtain ⟨C, hC⟩ : ∃ C : Obj, C = .cells #[.int .i64 0, .int .i64 p, .int .i64 n, .int .u8 c.toNat, k, .int .i64 y, .int .i64 z] 41 := ⟨_, rfl⟩
  have hB0 : Below w.heap.size w (w.alloc C) := (Below.refl _ w).alloc (Nat.le_refl _) _
  have hN0 := heap_alloc_new w C
  have H := Lib.hid (h.step hB0)
  clear h hT
  go_enter Try.func12, Try.ntmps12
  go_upto_region 3 with fail
  rw [← hC]
  have hsz : w.heap.size < (w.alloc C).heap.size := by simp
  generalize w.alloc C = W at *
  rw [hC] at hN0
  clear hC
  obtain ⟨c0, c1, c2, c3, c4, c5, c6⟩ := seven_cells hN0
  have HN := Lib.hid hN0
  have HB := Lib.hid hB0
  clear hN0 hB0 hsz
  go_region_held3 (fun w' => w'.cell? ⟨w.heap.size, 0, none⟩ = some (.int .i64 0) ∧ w'.cell? ⟨w.heap.size, 1, none⟩ = some (.int .i64 p) ∧ w'.cell? ⟨w.heap.size, 2, none⟩ = some (.int .i64 n) ∧ w'.cell? ⟨w.heap.size, 3, none⟩ = some (.int .u8 c.toNat) ∧ w'.cell? ⟨w.heap.size, 4, none⟩ = some k ∧ w'.cell? ⟨w.heap.size, 5, none⟩ = some (.int .i64 y) ∧ w'.cell? ⟨w.heap.size, 6, none⟩ = some (.int .i64 z)) (go_keep)
    (first
      | (go_at_call 29; refine (htx _).mono ?_; rintro e w1 ⟨rfl, hb1⟩; have HB1 : Hid (Below W.heap.size W w1) := Lib.hid ((Below.refl _ W).drew.trans hb1); obtain ⟨c0, c1, c2, c3, c4, c5, c6⟩ := seven_cells (old_obj HB1.out HN.out); clear hb1)
      | (go_at_call 21; refine (pwrite_no (H.out.step HB1.out) p T).mono ?_; rintro e w2 ⟨rfl, rfl⟩))
  all_goals go_wp2
  all_goals go_ret2
  all_goals exact ⟨rfl, HB.out.trans (HB1.out.mono HB.out.size)⟩
set_option maxHeartbeats 1000000 in
theorem ndo_flush {w : World} {v : Value} (h : NoDev w v) (p n : Int) (c : UInt8) (k : Value) (y z : Int) :
    Calls Try.prog 12 #[v, .agg #[.int .i64 1, .int .i64 p, .int .i64 n, .int .u8 c.toNat, k, .int .i64 y, .int .i64 z]] w fun e w' => e = .returned (.tuple #[v, .int .i64 1]) ∧ Below w.heap.size w w' := by
  obtain ⟨C, hC⟩ : ∃ C : Obj, C = .cells #[.int .i64 1, .int .i64 p, .int .i64 n, .int .u8 c.toNat, k, .int .i64 y, .int .i64 z] 41 := ⟨_, rfl⟩
  have hB0 : Below w.heap.size w (w.alloc C) := (Below.refl _ w).alloc (Nat.le_refl _) _
  have hN0 := heap_alloc_new w C
  have hcall := pflush_no (h.step hB0)
  clear h
  go_enter Try.func12, Try.ntmps12
  go_upto_region 2 with fail
  rw [← hC]
  generalize w.alloc C = W at *
  rw [hC] at hN0
  clear hC
  obtain ⟨c0, c1, c2, c3, c4, c5, c6⟩ := seven_cells hN0
  have HB := Lib.hid hB0
  clear hN0 hB0
  go_wp2_with (go_at_call 16; refine hcall.mono ?_; rintro e w2 ⟨rfl, rfl⟩)
  go_ret2
  exact ⟨rfl, HB.out⟩
set_option maxHeartbeats 1000000 in
theorem ndo_arm {w : World} {v : Value} (h : NoDev w v) (p n : Int) (c : UInt8) (k : Value) (y z : Int) :
    Calls Try.prog 12 #[v, .agg #[.int .i64 2, .int .i64 p, .int .i64 n, .int .u8 c.toNat, k, .int .i64 y, .int .i64 z]] w fun e w' => e = .returned (.tuple #[v, .int .i64 1]) ∧ Below w.heap.size w w' := by
  obtain ⟨C, hC⟩ : ∃ C : Obj, C = .cells #[.int .i64 2, .int .i64 p, .int .i64 n, .int .u8 c.toNat, k, .int .i64 y, .int .i64 z] 41 := ⟨_, rfl⟩
  have hB0 : Below w.heap.size w (w.alloc C) := (Below.refl _ w).alloc (Nat.le_refl _) _
  have hN0 := heap_alloc_new w C
  have hcall := parm_no (h.step hB0) n
  clear h
  go_enter Try.func12, Try.ntmps12
  go_upto_region 2 with fail
  rw [← hC]
  generalize w.alloc C = W at *
  rw [hC] at hN0
  clear hC
  obtain ⟨c0, c1, c2, c3, c4, c5, c6⟩ := seven_cells hN0
  have HB := Lib.hid hB0
  clear hN0 hB0
  go_wp2_with (go_at_call 34; refine hcall.mono ?_; rintro e w2 ⟨rfl, rfl⟩)
  go_ret2
  exact ⟨rfl, HB.out⟩
set_option maxHeartbeats 1000000 in
theorem ndo_off {w : World} {v : Value} (h : NoDev w v) (p n : Int) (c : UInt8) (k : Value) (y z : Int) :
    Calls Try.prog 12 #[v, .agg #[.int .i64 3, .int .i64 p, .int .i64 n, .int .u8 c.toNat, k, .int .i64 y, .int .i64 z]] w fun e w' => e = .returned (.tuple #[v, .int .i64 1]) ∧ Below w.heap.size w w' := by
  obtain ⟨C, hC⟩ : ∃ C : Obj, C = .cells #[.int .i64 3, .int .i64 p, .int .i64 n, .int .u8 c.toNat, k, .int .i64 y, .int .i64 z] 41 := ⟨_, rfl⟩
  have hB0 : Below w.heap.size w (w.alloc C) := (Below.refl _ w).alloc (Nat.le_refl _) _
  have hN0 := heap_alloc_new w C
  have hcall := poff_no (h.step hB0)
  clear h
  go_enter Try.func12, Try.ntmps12
  go_upto_region 2 with fail
  rw [← hC]
  generalize w.alloc C = W at *
  rw [hC] at hN0
  clear hC
  obtain ⟨c0, c1, c2, c3, c4, c5, c6⟩ := seven_cells hN0
  have HB := Lib.hid hB0
  clear hN0 hB0
  go_wp2_with (go_at_call 18; refine hcall.mono ?_; rintro e w2 ⟨rfl, rfl⟩)
  go_ret2
  exact ⟨rfl, HB.out⟩
set_option maxHeartbeats 1000000 in
theorem ndo_boot {w : World} {v : Value} (h : NoDev w v) (p n : Int) (c : UInt8) (k : Value) (y z : Int) :
    Calls Try.prog 12 #[v, .agg #[.int .i64 4, .int .i64 p, .int .i64 n, .int .u8 c.toNat, k, .int .i64 y, .int .i64 z]] w fun e w' => e = .returned (.tuple #[v, .int .i64 1]) ∧ Below w.heap.size w w' := by
  obtain ⟨C, hC⟩ : ∃ C : Obj, C = .cells #[.int .i64 4, .int .i64 p, .int .i64 n, .int .u8 c.toNat, k, .int .i64 y, .int .i64 z] 41 := ⟨_, rfl⟩
  have hB0 : Below w.heap.size w (w.alloc C) := (Below.refl _ w).alloc (Nat.le_refl _) _
  have hN0 := heap_alloc_new w C
  have hcall := pboot_no (h.step hB0) (.agg #[k, .int .i64 y, .int .i64 z]) ⟨_, _, _, rfl⟩
  clear h
  go_enter Try.func12, Try.ntmps12
  go_upto_region 2 with fail
  rw [← hC]
  generalize w.alloc C = W at *
  rw [hC] at hN0
  clear hC
  obtain ⟨c0, c1, c2, c3, c4, c5, c6⟩ := seven_cells hN0
  have HB := Lib.hid hB0
  clear hN0 hB0
  go_wp2_with (go_at_call 19; refine hcall.mono ?_; rintro e w2 ⟨rfl, hb⟩)
  go_ret2
  exact ⟨rfl, HB.out.trans (hb.mono HB.out.size)⟩
theorem ndo_any {w : World} {v : Value} (h : NoDev w v) (A : AV) (hn : A.num ≤ 100) (h0 : 0 ≤ A.kind) (h4 : A.kind ≤ 4) :
    Calls Try.prog 12 #[v, A.val] w fun e w' => e = .returned (.tuple #[v, .int .i64 1]) ∧ Below w.heap.size w w' := by
  obtain ⟨kind, pos, num, byte, ka, kc, keep, torn, cut⟩ := A
  unfold AV.val
  simp only at hn h0 h4 ⊢
  rcases (by omega : kind = 0 ∨ kind = 1 ∨ kind = 2 ∨ kind = 3 ∨ kind = 4) with q | q | q | q | q
  · subst q; exact ndo_write h pos num byte _ torn cut hn
  · subst q; exact ndo_flush h pos num byte _ torn cut
  · subst q; exact ndo_arm h pos num byte _ torn cut
  · subst q; exact ndo_off h pos num byte _ torn cut
  · subst q; exact ndo_boot h pos num byte _ torn cut
theorem few_one (A : AV) : fewB [A] = A.few := by unfold fewB; simp
theorem acts_one {w : World} {b : Nat} {A : AV} (h : w.heap[b]? = some (.cells #[.int .i64 A.kind, .int .i64 A.pos, .int .i64 A.num, .int .u8 A.byte.toNat, .slice A.ka A.keep.length A.kc, .int .i64 A.torn, .int .i64 A.cut] 41 (0, 0))) (hG : A.Good w.heap.size w) : Acts w.heap.size w (some ⟨b, 0, none⟩) [A] := by
  refine Or.inr ⟨b, 0, rfl, obj_lt h, fun j hj => ?_⟩
  have : j = 0 := by simpa using hj
  subst this
  refine ⟨fun i hi => ?_, hG⟩
  show w.cell? ⟨b, 0 + 0 * 7 + i, none⟩ = A.cells[i]?
  rw [show 0 + 0 * 7 + i = i by omega, cell_of_row w b i _ _ _ h]
  show (A.cells.toArray)[i]? = _
  rw [List.getElem?_toArray]
/-- How things lie in a round: the act in its box, the device that no call made, and the row of both. -/
structure NobI (w : World) (A : AV) (zb lb : Nat) (wr : World) : Prop where
  act : wr.heap[w.heap.size]? = some (.cells #[.int .i64 A.kind, .int .i64 A.pos, .int .i64 A.num, .int .u8 A.byte.toNat, .slice A.ka A.keep.length A.kc, .int .i64 A.torn, .int .i64 A.cut] 41 (0, 0))
  zero : wr.heap[zb]? = some (.cells #[.slice none 0 0, .map none, .int .i64 0, .int .i64 0, .bool false] 62 (0, 0))
  row : wr.heap[lb]? = some (.cells #[.pointer none, .pointer (some ⟨zb, 0, none⟩)] 26 (0, 0))
  old : Below w.heap.size w wr
theorem NobI.step {w : World} {A : AV} {zb lb : Nat} {wr w' : World} (h : NobI w A zb lb wr) (hb : Below wr.heap.size wr w') : NobI w A zb lb w' := ⟨old_obj hb h.act, old_obj hb h.zero, old_obj hb h.row, h.old.trans (hb.mono h.old.size)⟩
theorem NobI.at {w : World} {A : AV} {zb lb : Nat} {wr : World} (h : NobI w A zb lb wr) {i : Nat} (hi : i < 2) : ∃ v, wr.cell? ⟨lb, i, none⟩ = some v ∧ NoDev wr v := by
  rcases (by omega : i = 0 ∨ i = 1) with q | q
  · subst q; exact ⟨_, cell_of (j := 0) h.row rfl, Or.inl rfl⟩
  · subst q; exact ⟨_, cell_of (j := 1) h.row rfl, Or.inr ⟨zb, rfl, h.zero⟩⟩

set_option maxRecDepth 100000 in
set_option maxHeartbeats 1000000 in
theorem sectorNobody_walk (w : World) (A : AV) (hG : A.Good w.heap.size w) :
    Calls Try.prog 6 #[.agg #[.int .i64 A.kind, .int .i64 A.pos, .int .i64 A.num, .int .u8 A.byte.toNat, .slice A.ka A.keep.length A.kc, .int .i64 A.torn, .int .i64 A.cut]] w fun e w' => e = .returned (.bool true) ∧ Below w.heap.size w w' := by
  obtain ⟨C, hC⟩ : ∃ C : Obj, C = .cells #[.int .i64 A.kind, .int .i64 A.pos, .int .i64 A.num, .int .u8 A.byte.toNat, .slice A.ka A.keep.length A.kc, .int .i64 A.torn, .int .i64 A.cut] 41 := ⟨_, rfl⟩
  have hB1 : Below w.heap.size w ((w.alloc C).alloc C) := ((Below.refl _ w).alloc (Nat.le_refl _) _).alloc (by simp) _
  have hN1 := heap_alloc2_old w C C
  have hN2 := heap_alloc2_new w C C
  have hs2 : ((w.alloc C).alloc C).heap.size = w.heap.size + 1 + 1 := by simp
  have hfew : Calls Try.prog 7 #[.slice (some ⟨w.heap.size + 1, 0, none⟩) 1 1] ((w.alloc C).alloc C) fun e w' => e = .returned (.bool A.few) ∧ ((w.alloc C).alloc C) = w' := by
    have h := few_any (some ⟨w.heap.size + 1, 0, none⟩) 1 [A] ((w.alloc C).alloc C) (acts_one (by rw [← hC]; exact hN2) ⟨hG.pos, hG.num, (hG.keep.below hB1).up hB1.size, hG.few⟩)
    rw [few_one] at h
    exact h
  have hfd : A.few = (decide (A.num ≤ 100) && decide (A.keep.length ≤ 3000)) := rfl
  clear hG
  cases hf : A.few with
  | false =>
    rw [hf] at hfew
    clear hf hfd hN1 hN2 hs2
    go_enter Try.func6, Try.ntmps6
    go_wp2_with (first
      | (go_at_call 7; rw [← hC]; refine hfew.mono ?_; rintro e w1 ⟨rfl, rfl⟩)
      | (go_at_call 8; refine (awake_any _).mono ?_; rintro e w2 ⟨rfl, hb2⟩))
    go_ret
    rw [hC] at hB1
    exact ⟨rfl, hB1.trans (hb2.mono hB1.size)⟩
  | true =>
    rw [hf] at hfew
    have hnum : A.num ≤ 100 := by
      rw [hf] at hfd
      have := hfd.symm
      simp only [Bool.and_eq_true, decide_eq_true_eq] at this
      exact this.1
    have HB1 := Lib.hid hB1
    have HN1 := Lib.hid hN1
    have HS2 := Lib.hid hs2
    clear hf hfd hN1 hN2 hs2 hB1
    go_enter Try.func6, Try.ntmps6
    go_upto_region 3 with (go_at_call 7; rw [← hC]; refine hfew.mono ?_; rintro e w1 ⟨rfl, rfl⟩)
    rw [← hC]
    generalize ((w.alloc C).alloc C) = W2 at *
    rw [hC] at HN1
    clear hfew hC
    have hI0 : Hid (NobI w A W2.heap.size (W2.heap.size + 1) ((W2.alloc (.cells #[.slice none 0 0, .map none, .int .i64 0, .int .i64 0, .bool false] 62)).alloc (.cells #[.pointer none, .pointer (some ⟨W2.heap.size, 0, none⟩)] 26))) := Lib.hid (by
      have hb : Below W2.heap.size W2 ((W2.alloc (.cells #[.slice none 0 0, .map none, .int .i64 0, .int .i64 0, .bool false] 62)).alloc (.cells #[.pointer none, .pointer (some ⟨W2.heap.size, 0, none⟩)] 26)) := ((Below.refl _ W2).alloc (Nat.le_refl _) _).alloc (by simp) _
      exact ⟨old_obj hb HN1.out, heap_alloc2_old _ _ _, heap_alloc2_new _ _ _, HB1.out.trans (hb.mono HB1.out.size)⟩)
    go_wp2
    go_loopw [5] (fun i' wr => ∃ i : Nat, i' = .int .i64 i ∧ i ≤ 2 ∧ Hid (NobI w A W2.heap.size (W2.heap.size + 1) wr)) (fun i _ => 2 - (intOf i).toNat)
    case atStart => exact ⟨0, rfl, by omega, hI0⟩
    case round =>
      clear hI0
      obtain ⟨i, rfl, hi, hI⟩ := hrel
      by_cases hlt : i < 2
      · have i1 : (i : Int) < 2 := by omega
        obtain ⟨v, hv, hnd⟩ := hI.out.at hlt
        obtain ⟨c0, c1, c2, c3, c4, c5, c6⟩ := seven_cells hI.out.act
        have hrd : ∀ W', Below wr.heap.size wr W' → Calls Try.prog 14 #[v, .int .i64 A.pos, .int .i64 A.num] W' fun e w' => e = .returned (.tuple #[.string ⟨#[]⟩, .int .i64 1]) ∧ W' = w' := fun W' hb => pread_no (hnd.step hb) A.pos A.num
        have hcp : ∀ W', Below wr.heap.size wr W' → Calls Try.prog 17 #[v] W' fun e w' => e = .returned (.pointer none) ∧ W' = w' := fun W' hb => pcopy_no (hnd.step hb)
        have hsz : ∀ W', Below wr.heap.size wr W' → Calls Try.prog 24 #[v] W' fun e w' => e = .returned (.int .i64 0) ∧ W' = w' := fun W' hb => psize_no (hnd.step hb)
        have hop : ∀ W', Below wr.heap.size wr W' → Calls Try.prog 25 #[v] W' fun e w' => e = .returned (.int .i64 0) ∧ W' = w' := fun W' hb => pops_no (hnd.step hb)
        have hon : ∀ W', Below wr.heap.size wr W' → Calls Try.prog 22 #[v] W' fun e w' => e = .returned (.bool false) ∧ W' = w' := fun W' hb => pon_no (hnd.step hb)
        have hlo : ∀ W', Below wr.heap.size wr W' → Calls Try.prog 23 #[v] W' fun e w' => e = .returned (.slice none 0 0) ∧ W' = w' := fun W' hb => pLoose_no (hnd.step hb)
        by_cases hk : 0 ≤ A.kind ∧ A.kind ≤ 4
        · have e1 : decide (0 ≤ A.kind) = true := decide_eq_true hk.1
          have e2 : decide (A.kind ≤ 4) = true := decide_eq_true hk.2
          have hdo := ndo_any hnd A hnum hk.1 hk.2
          unfold AV.val at hdo
          have HR := Lib.hid (Below.refl wr.heap.size wr)
          clear hk hnd
          go_wp2_with (first
            | (go_at_call 12; refine hdo.mono ?_; rintro e w1 ⟨rfl, hb1⟩; have HB2 := Lib.hid hb1; obtain ⟨c0, c1, c2, c3, c4, c5, c6⟩ := seven_cells (old_obj hb1 hI.out.act); clear hb1)
            | (go_at_call 14; refine (hrd _ HB2.out).mono ?_; rintro e w9 ⟨rfl, rfl⟩)
            | (go_at_call 17; refine (hcp _ HB2.out).mono ?_; rintro e w9 ⟨rfl, rfl⟩)
            | (go_at_call 24; refine (hsz _ HB2.out).mono ?_; rintro e w9 ⟨rfl, rfl⟩)
            | (go_at_call 25; refine (hop _ HB2.out).mono ?_; rintro e w9 ⟨rfl, rfl⟩)
            | (go_at_call 22; refine (hon _ HB2.out).mono ?_; rintro e w9 ⟨rfl, rfl⟩)
            | (go_at_call 23; refine (hlo _ HB2.out).mono ?_; rintro e w9 ⟨rfl, rfl⟩))
          go_roundw
          case rel => exact ⟨i + 1, by go_num, by omega, Lib.hid (hI.out.step HB2.out)⟩
          case measure => simp [intOf]; omega
        · have HR := Lib.hid (Below.refl wr.heap.size wr)
          by_cases hk0 : 0 ≤ A.kind
          · have e1 : decide (0 ≤ A.kind) = true := decide_eq_true hk0
            have e2 : decide (A.kind ≤ 4) = false := decide_eq_false (by omega)
            clear hk hk0 hnd
            go_wp2_with (first
              | (go_at_call 14; refine (hrd _ HR.out).mono ?_; rintro e w9 ⟨rfl, rfl⟩)
              | (go_at_call 17; refine (hcp _ HR.out).mono ?_; rintro e w9 ⟨rfl, rfl⟩)
              | (go_at_call 24; refine (hsz _ HR.out).mono ?_; rintro e w9 ⟨rfl, rfl⟩)
              | (go_at_call 25; refine (hop _ HR.out).mono ?_; rintro e w9 ⟨rfl, rfl⟩)
              | (go_at_call 22; refine (hon _ HR.out).mono ?_; rintro e w9 ⟨rfl, rfl⟩)
              | (go_at_call 23; refine (hlo _ HR.out).mono ?_; rintro e w9 ⟨rfl, rfl⟩))
            go_roundw
            case rel => exact ⟨i + 1, by go_num, by omega, hI⟩
            case measure => simp [intOf]; omega
          · have e1 : decide (0 ≤ A.kind) = false := decide_eq_false hk0
            clear hk hk0 hnd
            go_wp2_with (first
              | (go_at_call 14; refine (hrd _ HR.out).mono ?_; rintro e w9 ⟨rfl, rfl⟩)
              | (go_at_call 17; refine (hcp _ HR.out).mono ?_; rintro e w9 ⟨rfl, rfl⟩)
              | (go_at_call 24; refine (hsz _ HR.out).mono ?_; rintro e w9 ⟨rfl, rfl⟩)
              | (go_at_call 25; refine (hop _ HR.out).mono ?_; rintro e w9 ⟨rfl, rfl⟩)
              | (go_at_call 22; refine (hon _ HR.out).mono ?_; rintro e w9 ⟨rfl, rfl⟩)
              | (go_at_call 23; refine (hlo _ HR.out).mono ?_; rintro e w9 ⟨rfl, rfl⟩))
            go_roundw
            case rel => exact ⟨i + 1, by go_num, by omega, hI⟩
            case measure => simp [intOf]; omega
      · obtain rfl : i = 2 := by omega
        go_wp2_with (go_at_call 8; refine (awake_any _).mono ?_; rintro e w2 ⟨rfl, hb2⟩)
        go_ret
        exact ⟨rfl, hI.out.old.trans (hb2.mono hI.out.old.size)⟩
end Go.Proofs.Ytocengdojdeiiaa
