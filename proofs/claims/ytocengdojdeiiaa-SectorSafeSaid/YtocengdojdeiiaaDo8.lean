/- The laws' Text and Do, for every act and every device that New made. -/
import Derived.Test.YtocengdojdeiiaaPlay8
import Derived.Deep.RegionHeld3
namespace Go.Proofs.Ytocengdojdeiiaa
open Go.RowKit Go.Maps

theorem seven_cells {w : World} {g : Nat} {a b c d e f h : Value} {t : TypeId} (hh : w.heap[g]? = some (.cells #[a, b, c, d, e, f, h] t (0, 0))) :
    w.cell? ⟨g, 0, none⟩ = some a ∧ w.cell? ⟨g, 1, none⟩ = some b ∧ w.cell? ⟨g, 2, none⟩ = some c ∧ w.cell? ⟨g, 3, none⟩ = some d ∧ w.cell? ⟨g, 4, none⟩ = some e ∧ w.cell? ⟨g, 5, none⟩ = some f ∧ w.cell? ⟨g, 6, none⟩ = some h :=
  ⟨cell_of (j := 0) hh rfl, cell_of (j := 1) hh rfl, cell_of (j := 2) hh rfl, cell_of (j := 3) hh rfl, cell_of (j := 4) hh rfl, cell_of (j := 5) hh rfl, cell_of (j := 6) hh rfl⟩
def AV.val (a : AV) : Value := .agg #[.int .i64 a.kind, .int .i64 a.pos, .int .i64 a.num, .int .u8 a.byte.toNat, .slice a.ka a.keep.length a.kc, .int .i64 a.torn, .int .i64 a.cut]
theorem text_any (x p n : Int) (c : UInt8) (k : Value) (y z : Int) (hn : n ≤ 100) (T : ByteArray) (hT : T = if n < 0 then ⟨#[115, 104, 111, 114, 116]⟩ else fillT n.toNat c) (w : World) :
    Calls Try.prog 29 #[.agg #[.int .i64 x, .int .i64 p, .int .i64 n, .int .u8 c.toNat, k, .int .i64 y, .int .i64 z]] w fun e w' => e = .returned (.string T) ∧ Below w.heap.size w w' := by
  have HB : Hid (∀ o : Obj, Below w.heap.size w (w.alloc o)) := Lib.hid fun o => (Below.refl _ w).alloc (Nat.le_refl _) o
  by_cases h : n < 0
  · have e1 : decide (n < 0) = true := decide_eq_true h
    rw [if_pos h] at hT
    rw [hT]
    clear h hT
    go_enter Try.func29, Try.ntmps29
    go_wp2
    go_ret
    exact ⟨rfl, HB.out _⟩
  · have e1 : decide (n < 0) = false := decide_eq_false h
    rw [if_neg h] at hT
    obtain ⟨m, rfl⟩ : ∃ m : Nat, n = m := ⟨n.toNat, by omega⟩
    rw [Int.toNat_natCast] at hT
    have hf := filled_any m c (by omega)
    rw [← hT] at hf
    clear h hT
    go_enter Try.func29, Try.ntmps29
    go_wp2_with (go_at_call 20; refine (hf _).mono ?_; rintro e w1 ⟨rfl, hb⟩; have HB1 := Lib.hid hb; clear hb)
    go_ret
    exact ⟨rfl, (HB.out _).trans (HB1.out.mono (HB.out _).size)⟩
/-- Where the device lies behind an act: where it was, or, a copy, in blocks that are new. -/
def There (w : World) (b g m b2 g2 m2 : Nat) : Prop := (b2 = b ∧ g2 = g ∧ m2 = m) ∨ (w.heap.size ≤ b2 ∧ w.heap.size ≤ g2 ∧ w.heap.size ≤ m2)
set_option maxHeartbeats 1000000 in
theorem pdo_write {w : World} {b g cap m : Nat} {d : Dv} (h : PDev w b g cap m d) (hd : d.Ok) (ho : d.ops < 9223372036854773807) (p n : Int) (c : UInt8) (k : Value) (y z : Int) (hn : n ≤ 100) (T : ByteArray) (hT : T = if n < 0 then ⟨#[115, 104, 111, 114, 116]⟩ else fillT n.toNat c) (hTs : T.size ≤ 6400) :
    Calls Try.prog 12 #[.pointer (some ⟨b, 0, none⟩), .agg #[.int .i64 0, .int .i64 p, .int .i64 n, .int .u8 c.toNat, k, .int .i64 y, .int .i64 z]] w fun e w' => e = .returned (.tuple #[.pointer (some ⟨b, 0, none⟩), .int .i64 (d.writeE p T)]) ∧ PDev w' b g cap m (d.write p T) ∧ But b g m w w' := by
  have htx := text_any 0 p n c k y z hn T hT
  obtain ⟨C, hC⟩ : ∃ C : Obj, C = .cells #[.int .i64 0, .int .i64 p, .int .i64 n, .int .u8 c.toNat, k, .int .i64 y, .int .i64 z] 41 := ⟨_, rfl⟩
  have hB0 : Below w.heap.size w (w.alloc C) := (Below.refl _ w).alloc (Nat.le_refl _) _
  have hN0 := heap_alloc_new w C
  have hlt := h.lt
  have H := Lib.hid (h.step hB0)
  have HD := Lib.hid hd
  have HO := Lib.hid ho
  clear h hd ho hT
  go_enter Try.func12, Try.ntmps12
  go_upto_region 3 with fail
  rw [← hC]
  have hsz : w.heap.size < (w.alloc C).heap.size := by simp
  generalize w.alloc C = W at *
  rw [hC] at hN0
  clear hC
  obtain ⟨c0, c1, c2, c3, c4, c5, c6⟩ := seven_cells hN0
  have HN := Lib.hid hN0
  have HB := Lib.hid hB0
  have HLT := Lib.hid hlt
  have HSZ := Lib.hid hsz
  clear hN0 hB0 hlt hsz
  go_region_held3 (fun w' => w'.cell? ⟨w.heap.size, 0, none⟩ = some (.int .i64 0) ∧ w'.cell? ⟨w.heap.size, 1, none⟩ = some (.int .i64 p) ∧ w'.cell? ⟨w.heap.size, 2, none⟩ = some (.int .i64 n) ∧ w'.cell? ⟨w.heap.size, 3, none⟩ = some (.int .u8 c.toNat) ∧ w'.cell? ⟨w.heap.size, 4, none⟩ = some k ∧ w'.cell? ⟨w.heap.size, 5, none⟩ = some (.int .i64 y) ∧ w'.cell? ⟨w.heap.size, 6, none⟩ = some (.int .i64 z)) (go_keep)
    (first
      | (go_at_call 29; refine (htx _).mono ?_; rintro e w1 ⟨rfl, hb1⟩; have HB1 : Hid (Below W.heap.size W w1) := Lib.hid ((Below.refl _ W).drew.trans hb1); obtain ⟨c0, c1, c2, c3, c4, c5, c6⟩ := seven_cells (old_obj HB1.out HN.out); clear hb1)
      | (go_at_call 21; refine (pwrite_any (H.out.step HB1.out) HD.out HO.out p T (by omega)).mono ?_; rintro e w2 ⟨rfl, hp2, hb2⟩; have HP2 := Lib.hid hp2; have HB2 := Lib.hid hb2; obtain ⟨c0, c1, c2, c3, c4, c5, c6⟩ := seven_cells (But.obj (k := w.heap.size) HB2.out (old_obj HB1.out HN.out) (by have := HLT.out; omega) (by have := HLT.out; omega) (by have := HLT.out; omega)); clear hp2 hb2))
  all_goals go_wp2
  all_goals go_ret2
  all_goals exact ⟨rfl, HP2.out, ((But.of_below HB.out).step HB1.out).trans HB2.out⟩
set_option maxHeartbeats 1000000 in
theorem pdo_flush {w : World} {b g cap m : Nat} {d : Dv} (h : PDev w b g cap m d) (hd : d.Ok) (ho : d.ops < 9223372036854775807) (p n : Int) (c : UInt8) (k : Value) (y z : Int) :
    Calls Try.prog 12 #[.pointer (some ⟨b, 0, none⟩), .agg #[.int .i64 1, .int .i64 p, .int .i64 n, .int .u8 c.toNat, k, .int .i64 y, .int .i64 z]] w fun e w' => e = .returned (.tuple #[.pointer (some ⟨b, 0, none⟩), .int .i64 d.flushE]) ∧ PDev w' b g cap m d.flush ∧ But b g m w w' := by
  obtain ⟨C, hC⟩ : ∃ C : Obj, C = .cells #[.int .i64 1, .int .i64 p, .int .i64 n, .int .u8 c.toNat, k, .int .i64 y, .int .i64 z] 41 := ⟨_, rfl⟩
  have hB0 : Below w.heap.size w (w.alloc C) := (Below.refl _ w).alloc (Nat.le_refl _) _
  have hN0 := heap_alloc_new w C
  have hlt := h.lt
  have hP0 := h.step hB0
  have hcall := pflush_any hP0 hd ho
  have HP0 := Lib.hid hP0
  clear h hP0 hd
  go_enter Try.func12, Try.ntmps12
  go_upto_region 2 with fail
  rw [← hC]
  have hsz : (w.alloc C).heap.size = w.heap.size + 1 := by simp
  generalize w.alloc C = W at *
  rw [hC] at hN0
  clear hC
  obtain ⟨c0, c1, c2, c3, c4, c5, c6⟩ := seven_cells hN0
  have HB := Lib.hid hB0
  have HSZ := Lib.hid hsz
  clear hN0 hB0 hlt hsz
  go_wp2_with (go_at_call 16; refine hcall.mono ?_; rintro e w2 ⟨rfl, hp2, hb2⟩)
  go_ret2
  exact ⟨rfl, hp2, (But.of_below HB.out).trans hb2⟩

set_option maxHeartbeats 1000000 in
theorem pdo_arm {w : World} {b g cap m : Nat} {d : Dv} (h : PDev w b g cap m d) (hd : d.Ok) (p n : Int) (c : UInt8) (k : Value) (y z : Int) :
    Calls Try.prog 12 #[.pointer (some ⟨b, 0, none⟩), .agg #[.int .i64 2, .int .i64 p, .int .i64 n, .int .u8 c.toNat, k, .int .i64 y, .int .i64 z]] w fun e w' => e = .returned (.tuple #[.pointer (some ⟨b, 0, none⟩), .int .i64 (d.armE n)]) ∧ PDev w' b g cap m (d.arm n) ∧ But b g m w w' := by
  obtain ⟨C, hC⟩ : ∃ C : Obj, C = .cells #[.int .i64 2, .int .i64 p, .int .i64 n, .int .u8 c.toNat, k, .int .i64 y, .int .i64 z] 41 := ⟨_, rfl⟩
  have hB0 : Below w.heap.size w (w.alloc C) := (Below.refl _ w).alloc (Nat.le_refl _) _
  have hN0 := heap_alloc_new w C
  have hlt := h.lt
  have hP0 := h.step hB0
  have hcall := parm_any hP0 hd n
  have HP0 := Lib.hid hP0
  clear h hP0 hd
  go_enter Try.func12, Try.ntmps12
  go_upto_region 2 with fail
  rw [← hC]
  have hsz : (w.alloc C).heap.size = w.heap.size + 1 := by simp
  generalize w.alloc C = W at *
  rw [hC] at hN0
  clear hC
  obtain ⟨c0, c1, c2, c3, c4, c5, c6⟩ := seven_cells hN0
  have HB := Lib.hid hB0
  have HSZ := Lib.hid hsz
  clear hN0 hB0 hlt hsz
  go_wp2_with (go_at_call 34; refine hcall.mono ?_; rintro e w2 ⟨rfl, hp2, hb2⟩)
  go_ret2
  exact ⟨rfl, hp2, (But.of_below HB.out).trans hb2⟩

set_option maxHeartbeats 1000000 in
theorem pdo_off {w : World} {b g cap m : Nat} {d : Dv} (h : PDev w b g cap m d) (hd : d.Ok) (p n : Int) (c : UInt8) (k : Value) (y z : Int) :
    Calls Try.prog 12 #[.pointer (some ⟨b, 0, none⟩), .agg #[.int .i64 3, .int .i64 p, .int .i64 n, .int .u8 c.toNat, k, .int .i64 y, .int .i64 z]] w fun e w' => e = .returned (.tuple #[.pointer (some ⟨b, 0, none⟩), .int .i64 0]) ∧ PDev w' b g cap m d.off ∧ But b g m w w' := by
  obtain ⟨C, hC⟩ : ∃ C : Obj, C = .cells #[.int .i64 3, .int .i64 p, .int .i64 n, .int .u8 c.toNat, k, .int .i64 y, .int .i64 z] 41 := ⟨_, rfl⟩
  have hB0 : Below w.heap.size w (w.alloc C) := (Below.refl _ w).alloc (Nat.le_refl _) _
  have hN0 := heap_alloc_new w C
  have hlt := h.lt
  have hP0 := h.step hB0
  have hcall := poff_any hP0 hd
  have HP0 := Lib.hid hP0
  clear h hP0 hd
  go_enter Try.func12, Try.ntmps12
  go_upto_region 2 with fail
  rw [← hC]
  have hsz : (w.alloc C).heap.size = w.heap.size + 1 := by simp
  generalize w.alloc C = W at *
  rw [hC] at hN0
  clear hC
  obtain ⟨c0, c1, c2, c3, c4, c5, c6⟩ := seven_cells hN0
  have HB := Lib.hid hB0
  have HSZ := Lib.hid hsz
  clear hN0 hB0 hlt hsz
  go_wp2_with (go_at_call 18; refine hcall.mono ?_; rintro e w2 ⟨rfl, hp2, hb2⟩)
  go_ret2
  exact ⟨rfl, hp2, (But.of_below HB.out).trans hb2⟩

set_option maxHeartbeats 1000000 in
theorem pdo_boot {w : World} {b g cap m : Nat} {d : Dv} (h : PDev w b g cap m d) (hd : d.Ok) (p n : Int) (c : UInt8) (ka : Option Addr) (kc : Nat) (ks : List Bool) (y z : Int) (hK : Bools w.heap.size w ka ks) (hne : Far ka ks b g m) :
    Calls Try.prog 12 #[.pointer (some ⟨b, 0, none⟩), .agg #[.int .i64 4, .int .i64 p, .int .i64 n, .int .u8 c.toNat, .slice ka ks.length kc, .int .i64 y, .int .i64 z]] w fun e w' => e = .returned (.tuple #[.pointer (some ⟨b, 0, none⟩), .int .i64 0]) ∧ PDev w' b g cap m (d.boot ks y z) ∧ But b g m w w' := by
  obtain ⟨C, hC⟩ : ∃ C : Obj, C = .cells #[.int .i64 4, .int .i64 p, .int .i64 n, .int .u8 c.toNat, .slice ka ks.length kc, .int .i64 y, .int .i64 z] 41 := ⟨_, rfl⟩
  have hB0 : Below w.heap.size w (w.alloc C) := (Below.refl _ w).alloc (Nat.le_refl _) _
  have hN0 := heap_alloc_new w C
  have hlt := h.lt
  have hP0 := h.step hB0
  have hcall := pboot_any hP0 hd ka kc ks y z ((hK.below hB0).up (by simp)) hne
  have HP0 := Lib.hid hP0
  clear h hP0 hd
  go_enter Try.func12, Try.ntmps12
  go_upto_region 2 with fail
  rw [← hC]
  have hsz : (w.alloc C).heap.size = w.heap.size + 1 := by simp
  generalize w.alloc C = W at *
  rw [hC] at hN0
  clear hC
  obtain ⟨c0, c1, c2, c3, c4, c5, c6⟩ := seven_cells hN0
  have HB := Lib.hid hB0
  have HSZ := Lib.hid hsz
  clear hN0 hB0 hlt hsz
  go_wp2_with (go_at_call 19; refine hcall.mono ?_; rintro e w2 ⟨rfl, hp2, hb2⟩)
  go_ret2
  exact ⟨rfl, hp2, (But.of_below HB.out).trans hb2⟩

set_option maxHeartbeats 1000000 in
theorem pdo_copy {w : World} {b g cap m : Nat} {d : Dv} (h : PDev w b g cap m d) (hd : d.Ok) (p n : Int) (c : UInt8) (k : Value) (y z : Int) :
    Calls Try.prog 12 #[.pointer (some ⟨b, 0, none⟩), .agg #[.int .i64 5, .int .i64 p, .int .i64 n, .int .u8 c.toNat, k, .int .i64 y, .int .i64 z]] w fun e w' => ∃ b2 g2 cap2 m2, e = .returned (.tuple #[.pointer (some ⟨b2, 0, none⟩), .int .i64 0]) ∧ PDev w' b2 g2 cap2 m2 d ∧ w.heap.size ≤ b2 ∧ w.heap.size ≤ g2 ∧ w.heap.size ≤ m2 ∧ Below w.heap.size w w' := by
  obtain ⟨C, hC⟩ : ∃ C : Obj, C = .cells #[.int .i64 5, .int .i64 p, .int .i64 n, .int .u8 c.toNat, k, .int .i64 y, .int .i64 z] 41 := ⟨_, rfl⟩
  have hB0 : Below w.heap.size w (w.alloc C) := (Below.refl _ w).alloc (Nat.le_refl _) _
  have hN0 := heap_alloc_new w C
  have hlt := h.lt
  have hP0 := h.step hB0
  have hcall := pcopy_any hP0 hd
  have HP0 := Lib.hid hP0
  clear h hP0 hd
  go_enter Try.func12, Try.ntmps12
  go_upto_region 2 with fail
  rw [← hC]
  have hsz : (w.alloc C).heap.size = w.heap.size + 1 := by simp
  generalize w.alloc C = W at *
  rw [hC] at hN0
  clear hC
  obtain ⟨c0, c1, c2, c3, c4, c5, c6⟩ := seven_cells hN0
  have HB := Lib.hid hB0
  have HSZ := Lib.hid hsz
  clear hN0 hB0 hlt hsz
  go_wp2_with (go_at_call 17; refine hcall.mono ?_; rintro e w2 ⟨b2, g2, cap2, m2, rfl, hp2, h1, h2, h3, hb2⟩)
  go_ret2
  have hs := HSZ.out
  exact ⟨b2, g2, cap2, m2, rfl, hp2, by omega, by omega, by omega, HB.out.trans (hb2.mono (by omega))⟩

set_option maxHeartbeats 1000000 in
theorem pdo_else {w : World} {b : Nat} (x : Int) (hx : x ≠ 0 ∧ x ≠ 1 ∧ x ≠ 2 ∧ x ≠ 3 ∧ x ≠ 4 ∧ x ≠ 5) (p n : Int) (c : UInt8) (k : Value) (y z : Int) :
    Calls Try.prog 12 #[.pointer (some ⟨b, 0, none⟩), .agg #[.int .i64 x, .int .i64 p, .int .i64 n, .int .u8 c.toNat, k, .int .i64 y, .int .i64 z]] w fun e w' => e = .returned (.tuple #[.pointer (some ⟨b, 0, none⟩), .int .i64 0]) ∧ Below w.heap.size w w' := by
  have e0 : (x == 0) = false := beq_eq_false_iff_ne.2 hx.1
  have e1 : (x == 1) = false := beq_eq_false_iff_ne.2 hx.2.1
  have e2 : (x == 2) = false := beq_eq_false_iff_ne.2 hx.2.2.1
  have e3 : (x == 3) = false := beq_eq_false_iff_ne.2 hx.2.2.2.1
  have e4 : (x == 4) = false := beq_eq_false_iff_ne.2 hx.2.2.2.2.1
  have e5 : (x == 5) = false := beq_eq_false_iff_ne.2 hx.2.2.2.2.2
  have HB : Hid (∀ o : Obj, Below w.heap.size w (w.alloc o)) := Lib.hid fun o => (Below.refl _ w).alloc (Nat.le_refl _) o
  clear hx
  go_enter Try.func12, Try.ntmps12
  go_wp2
  go_ret2
  exact ⟨rfl, HB.out _⟩
/-- Any act on a device. -/
theorem pdo_any {w : World} {b g cap m : Nat} {d : Dv} (h : PDev w b g cap m d) (hd : d.Ok) (ho : d.ops < 9223372036854773807) (a : AV) (hn : a.num ≤ 100) (hK : Bools w.heap.size w a.ka a.keep) (hne : Far a.ka a.keep b g m) :
    Calls Try.prog 12 #[.pointer (some ⟨b, 0, none⟩), a.val] w fun e w' => ∃ b2 g2 cap2 m2, e = .returned (.tuple #[.pointer (some ⟨b2, 0, none⟩), .int .i64 (d.doE a)]) ∧ PDev w' b2 g2 cap2 m2 (d.doA a) ∧ There w b g m b2 g2 m2 ∧ But b g m w w' := by
  obtain ⟨kind, pos, num, byte, ka, kc, keep, torn, cut⟩ := a
  unfold AV.val
  simp only at hn hK hne ⊢
  unfold Dv.doE Dv.doA
  simp only
  by_cases q0 : kind = 0
  · subst q0
    rw [if_pos rfl, if_pos rfl]
    refine (pdo_write h hd ho pos num byte _ torn cut hn _ rfl (text_le ⟨0, pos, num, byte, ka, kc, keep, torn, cut⟩ hn)).mono ?_
    rintro e w' ⟨rfl, hp, hb⟩
    exact ⟨b, g, cap, m, rfl, hp, Or.inl ⟨rfl, rfl, rfl⟩, hb⟩
  rw [if_neg q0, if_neg q0]
  by_cases q1 : kind = 1
  · subst q1
    rw [if_pos rfl, if_pos rfl]
    refine (pdo_flush h hd (by omega) pos num byte _ torn cut).mono ?_
    rintro e w' ⟨rfl, hp, hb⟩
    exact ⟨b, g, cap, m, rfl, hp, Or.inl ⟨rfl, rfl, rfl⟩, hb⟩
  rw [if_neg q1, if_neg q1]
  by_cases q2 : kind = 2
  · subst q2
    rw [if_pos rfl, if_pos rfl]
    refine (pdo_arm h hd pos num byte _ torn cut).mono ?_
    rintro e w' ⟨rfl, hp, hb⟩
    exact ⟨b, g, cap, m, rfl, hp, Or.inl ⟨rfl, rfl, rfl⟩, hb⟩
  rw [if_neg q2, if_neg q2]
  by_cases q3 : kind = 3
  · subst q3
    rw [if_pos rfl]
    refine (pdo_off h hd pos num byte _ torn cut).mono ?_
    rintro e w' ⟨rfl, hp, hb⟩
    exact ⟨b, g, cap, m, rfl, hp, Or.inl ⟨rfl, rfl, rfl⟩, hb⟩
  rw [if_neg q3]
  by_cases q4 : kind = 4
  · subst q4
    rw [if_pos rfl]
    refine (pdo_boot h hd pos num byte ka kc keep torn cut hK hne).mono ?_
    rintro e w' ⟨rfl, hp, hb⟩
    exact ⟨b, g, cap, m, rfl, hp, Or.inl ⟨rfl, rfl, rfl⟩, hb⟩
  rw [if_neg q4]
  by_cases q5 : kind = 5
  · subst q5
    refine (pdo_copy h hd pos num byte _ torn cut).mono ?_
    rintro e w' ⟨b2, g2, cap2, m2, rfl, hp, h1, h2, h3, hb⟩
    exact ⟨b2, g2, cap2, m2, rfl, hp, Or.inr ⟨h1, h2, h3⟩, But.of_below hb⟩
  · refine (pdo_else kind ⟨q0, q1, q2, q3, q4, q5⟩ pos num byte _ torn cut).mono ?_
    rintro e w' ⟨rfl, hb⟩
    exact ⟨b, g, cap, m, rfl, h.step hb, Or.inl ⟨rfl, rfl, rfl⟩, But.of_below hb⟩
end Go.Proofs.Ytocengdojdeiiaa
