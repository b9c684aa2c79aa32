/- The law on choosing, walked over what is wanted of slot. -/
import Derived.Test.YtkmkohpdldamhaaDoorWant9
namespace Go.Proofs.YtkmkohpdldamhaaDoor
open Go.RowKit

theorem next_facts (A B : List UInt8) : (nextG A B = 0 → pickG A B = 1000000000) ∧ (nextG A B ≠ 0 → 1 ≤ nextG A B ∧ nextG A B ≤ 1000000000) ∧ ((nextS A B = 0 ∧ pickI A B ≠ 0) ∨ (nextS A B = 1 ∧ pickI A B ≠ 1)) := by
  have hr := pick_range A B
  have hp := pick_cases A B
  unfold nextG nextS
  by_cases h : pickI A B = -1
  · rw [if_pos h, if_pos h]
    exact ⟨fun x => by omega, fun _ => by omega, Or.inl ⟨rfl, by omega⟩⟩
  · rw [if_neg h, if_neg h]
    refine ⟨fun x => ?_, fun x => ?_, ?_⟩
    · split at x
      · assumption
      · omega
    · split at x
      · exact absurd rfl x
      · split <;> omega
    · rcases hp with q | q | q
      · exact absurd q.1 h
      · exact Or.inr ⟨by omega, by omega⟩
      · exact Or.inl ⟨by omega, by omega⟩
theorem new_first {A B S : List UInt8} (hs : getE9 S = 0) (hg : getG9 S = nextG A B) (hn : nextG A B ≠ 0) (h : nextS A B = 0) : pickI S B = 0 ∧ pickG S B = getG9 S ∧ pickT S B = getT9 S := by
  have hI : pickI S B = 0 := by
    have hb : getE9 B ≠ 0 ∨ getG9 B ≤ getG9 S := by
      rcases pick_cases A B with q | q | q
      · exact Or.inl q.2.2
      · exfalso
        unfold nextS at h
        rw [if_neg (by omega)] at h
        omega
      · right
        rw [hg]
        have hG : pickG A B = getG9 B := by unfold pickG; rw [if_neg (by omega), if_neg (by omega)]
        unfold nextG at hn ⊢
        rw [if_neg (by omega)] at hn ⊢
        split
        · rename_i hh; rw [if_pos hh] at hn; exact absurd rfl hn
        · omega
    unfold pickI
    rw [if_neg (fun x => x.1 hs), if_pos ⟨hs, hb⟩]
  refine ⟨hI, ?_, ?_⟩
  · unfold pickG; rw [hI]; rfl
  · unfold pickT; rw [hI]; rfl
theorem new_second {A B S : List UInt8} (hs : getE9 S = 0) (hg : getG9 S = nextG A B) (hn : nextG A B ≠ 0) (h : nextS A B = 1) : pickI A S = 1 ∧ pickG A S = getG9 S ∧ pickT A S = getT9 S := by
  have hI : pickI A S = 1 := by
    rcases pick_cases A B with q | q | q
    · exfalso
      unfold nextS at h
      rw [if_pos q.1] at h
      omega
    · have hG : pickG A B = getG9 A := by unfold pickG; rw [if_neg (by omega), if_pos q.1]
      have hlt : getG9 A < getG9 S := by
        rw [hg]
        unfold nextG at hn ⊢
        rw [if_neg (by omega)] at hn ⊢
        split
        · rename_i hh; rw [if_pos hh] at hn; exact absurd rfl hn
        · omega
      unfold pickI
      rw [if_neg (fun x => x.2 hs), if_neg (fun x => by rcases x.2 with y | y; exact y hs; omega)]
    · exfalso
      unfold nextS at h
      rw [if_neg (by omega)] at h
      omega
  refine ⟨hI, ?_, ?_⟩
  · unfold pickG; rw [hI]; rfl
  · unfold pickT; rw [hI]; rfl
theorem old_first {A B X : List UInt8} (hx : getE9 X ≠ 0) (h : nextS A B = 0) : pickI X B = pickI A B ∧ pickG X B = pickG A B ∧ pickT X B = pickT A B := by
  have hI : pickI X B = pickI A B ∧ pickI A B ≠ 0 := by
    rcases pick_cases A B with q | q | q
    · refine ⟨?_, by omega⟩
      rw [q.1]; unfold pickI; rw [if_pos ⟨hx, q.2.2⟩]
    · exfalso
      unfold nextS at h
      rw [if_neg (by omega)] at h
      omega
    · refine ⟨?_, by omega⟩
      rw [q.1]; unfold pickI; rw [if_neg (fun y => y.2 q.2.1), if_neg (fun y => hx y.1)]
  refine ⟨hI.1, ?_, ?_⟩
  · unfold pickG; rw [hI.1, if_neg hI.2, if_neg hI.2]
  · unfold pickT; rw [hI.1, if_neg hI.2, if_neg hI.2]
theorem old_second {A B X : List UInt8} (hx : getE9 X ≠ 0) (h : nextS A B = 1) : pickI A X = pickI A B ∧ pickG A X = pickG A B ∧ pickT A X = pickT A B := by
  have hI : pickI A X = 0 ∧ pickI A B = 0 := by
    rcases pick_cases A B with q | q | q
    · exfalso
      unfold nextS at h
      rw [if_pos q.1] at h
      omega
    · refine ⟨?_, q.1⟩
      unfold pickI; rw [if_neg (fun y => y.1 q.2.1), if_pos ⟨q.2.1, Or.inl hx⟩]
    · exfalso
      unfold nextS at h
      rw [if_neg (by omega)] at h
      omega
  refine ⟨by rw [hI.1, hI.2], ?_, ?_⟩
  · unfold pickG; rw [hI.1, hI.2]; rfl
  · unfold pickT; rw [hI.1, hI.2]; rfl
theorem pair_set0 {w : World} {g : Nat} {x y : Value} {t : TypeId} (h : w.heap[g]? = some (.cells #[x, y] t (0, 0))) (v : Value) : (w.setCell ⟨g, 0, none⟩ v).heap[g]? = some (.cells #[v, y] t (0, 0)) := heap_setCell_same w g 0 _ t v h
theorem pair_set1 {w : World} {g : Nat} {x y : Value} {t : TypeId} (h : w.heap[g]? = some (.cells #[x, y] t (0, 0))) (v : Value) : (w.setCell ⟨g, 1, none⟩ v).heap[g]? = some (.cells #[x, v] t (0, 0)) := heap_setCell_same w g 1 _ t v h

set_option maxHeartbeats 1000000 in
theorem slotChoose_walk9 {T : World → Prop} (H : Slot9 T) (HA : Wakes9 T) (w : World) (hT : T w) (a b t : ByteArray) :
    Calls Tryd.prog 5 #[.string a, .string b, .string t] w fun e w' => e = .returned (.bool true) ∧ Below w.heap.size w w' := by
  have HT := Lib.hid hT
  by_cases qa : 5000 < a.size
  · have ea : decide (5000 < a.size) = true := decide_eq_true qa
    have eai : decide (5000 < (a.size : Int)) = true := decide_eq_true (by omega)
    clear qa
    go_enter Tryd.func5, Tryd.ntmps5
    go_wp2_with (go_at_call 6; refine (HA _ HT.out).mono ?_; rintro e w1 ⟨rfl, hb1⟩)
    go_ret
    exact ⟨rfl, hb1⟩
  have ea : decide (5000 < a.size) = false := decide_eq_false qa
  have eai : decide (5000 < (a.size : Int)) = false := decide_eq_false (by omega)
  by_cases qb : 5000 < b.size
  · have eb : decide (5000 < b.size) = true := decide_eq_true qb
    have ebi : decide (5000 < (b.size : Int)) = true := decide_eq_true (by omega)
    clear qb
    go_enter Tryd.func5, Tryd.ntmps5
    go_wp2_with (go_at_call 6; refine (HA _ HT.out).mono ?_; rintro e w1 ⟨rfl, hb1⟩)
    go_ret
    exact ⟨rfl, hb1⟩
  have eb : decide (5000 < b.size) = false := decide_eq_false qb
  have ebi : decide (5000 < (b.size : Int)) = false := decide_eq_false (by omega)
  by_cases qt : 5000 < t.size
  · have et : decide (5000 < t.size) = true := decide_eq_true qt
    have eti : decide (5000 < (t.size : Int)) = true := decide_eq_true (by omega)
    clear qt
    go_enter Tryd.func5, Tryd.ntmps5
    go_wp2_with (go_at_call 6; refine (HA _ HT.out).mono ?_; rintro e w1 ⟨rfl, hb1⟩)
    go_ret
    exact ⟨rfl, hb1⟩
  have et : decide (5000 < t.size) = false := decide_eq_false qt
  have eti : decide (5000 < (t.size : Int)) = false := decide_eq_false (by omega)
  have HB : Hid (∀ v v', T v → Below v.heap.size v v' → T v') := Lib.hid fun _ _ h hb => H.below h hb
  have hc := fun W => H.choose a b (by omega) (by omega) W
  have hn := fun W => H.next a b (by omega) (by omega) W
  obtain ⟨f1, f2, f3⟩ := next_facts a.data.toList b.data.toList
  obtain ⟨NG, hNG⟩ : ∃ x, nextG a.data.toList b.data.toList = x := ⟨_, rfl⟩
  obtain ⟨NS, hNS⟩ : ∃ x, nextS a.data.toList b.data.toList = x := ⟨_, rfl⟩
  obtain ⟨G, hG⟩ : ∃ x, pickG a.data.toList b.data.toList = x := ⟨_, rfl⟩
  obtain ⟨I, hI⟩ : ∃ x, pickI a.data.toList b.data.toList = x := ⟨_, rfl⟩
  rw [hNG, hNS] at hn
  rw [hG, hI] at hc
  rw [hNG] at f2
  rw [hNG, hG] at f1
  rw [hNS, hI] at f3
  go_enter Tryd.func5, Tryd.ntmps5
  go_upto_region 4 with (go_at_call 7; refine (hc _ HT.out).mono ?_; rintro e w1 ⟨t1, rfl, ht1, hb1⟩; have HT1 := Lib.hid ht1.out; have HB1 := Lib.hid hb1; clear ht1 hb1)
  have b1 : Below w.heap.size w (w1.alloc (.cells #[.int .i64 G, .string t1] 24)) := HB1.out.alloc HB1.out.size _
  have z1 := heap_alloc_new w1 (.cells #[.int .i64 G, .string t1] 24)
  have g1 := HB1.out.size
  generalize w1.alloc (.cells #[.int .i64 G, .string t1] 24) = W1 at *
  generalize w1.heap.size = p1 at *
  have hn1 := hn _ (HB.out _ _ HT.out b1)
  clear hn hc HB1
  go_upto_region 5 with (go_at_call 9; refine hn1.mono ?_; rintro e w2 ⟨rfl, hb2⟩; have HB2 := Lib.hid hb2; clear hb2)
  have Z1 := Lib.hid (old_obj HB2.out z1)
  have b2 : Below w.heap.size w w2 := b1.trans (HB2.out.mono b1.size)
  have B2 := Lib.hid b2
  obtain ⟨c0, c1, _, _⟩ := two_cells9 Z1.out
  clear hn1 HB2 b1 b2 z1
  by_cases q0 : NG = 0
  · have d0 : (NG == 0) = true := beq_iff_eq.2 q0
    have d1 : (G == 1000000000) = true := beq_iff_eq.2 (f1 q0)
    go_wp2_with (go_at_call 6; refine (HA _ (HB.out _ _ HT.out B2.out)).mono ?_; rintro e w3 ⟨rfl, hb3⟩)
    go_ret
    exact ⟨rfl, B2.out.trans (hb3.mono B2.out.size)⟩
  have d0 : (NG == 0) = false := beq_eq_false_iff_ne.2 q0
  have hng := f2 q0
  have hpe : putE9 NG t.data.toList = 0 := by unfold putE9; rw [if_pos hng, if_pos (by rw [text_size]; omega)]
  have hp := H.put NG t (by omega) (by omega) w2 (HB.out _ _ HT.out B2.out)
  rw [hpe] at hp
  go_upto_region 8 with (go_at_call 12; refine hp.mono ?_; rintro e w3 ⟨u, rfl, hu, hb3⟩; have HU := Lib.hid hu.out; have HB3 := Lib.hid hb3; clear hu hb3)
  have hul : u.data.toList = put9 NG t.data.toList := by rw [HU.out]; unfold putL9; rw [if_pos hpe]
  have hbk := back9 NG t.data.toList [] hpe
  rw [List.append_nil, ← hul] at hbk
  have hus : u.size ≤ 100000 := by rw [← text_size u, hul, put9_len, text_size]; unfold sect9; omega
  have Z3 := Lib.hid (old_obj HB3.out Z1.out)
  have B3 := Lib.hid (B2.out.trans (HB3.out.mono B2.out.size))
  have HG3 := Lib.hid (Nat.lt_of_lt_of_le (obj_lt Z1.out) HB3.out.size)
  clear c0 c1 hp HB3 hpe hul HU f1 f2
  obtain ⟨EX, hEX⟩ : ∃ x, getE9 t.data.toList = x := ⟨_, rfl⟩
  have hgt := H.get t (by omega)
  rw [hEX] at hgt
  rcases f3 with ⟨fs, fi⟩ | ⟨fs, fi⟩
  · subst fs
    have hnew := new_first (A := a.data.toList) (B := b.data.toList) hbk.1 (hbk.2.1.trans hNG.symm) (by rw [hNG]; exact q0) hNS
    have hold := fun h => old_first (A := a.data.toList) (B := b.data.toList) (X := t.data.toList) h hNS
    have hc1 := fun W => H.choose u b (by omega) (by omega) W
    have hc2 := fun W => H.choose t b (by omega) (by omega) W
    rw [hnew.1, hnew.2.1, hnew.2.2, hbk.2.1, hbk.2.2] at hc1
    have e1 : (0 == I) = false := beq_eq_false_iff_ne.2 (fun h => fi h.symm)
    have HO := Lib.hid hold
    clear hnew hold hbk hng
    go_upto_region 11 with fail
    have b4 : Below w3.heap.size w3 (w3.alloc (.cells #[.string a, .string b] 41)) := (Below.refl _ w3).alloc (Nat.le_refl _) _
    have z4 := heap_alloc_new w3 (.cells #[.string a, .string b] 41)
    have Z4 := Lib.hid (old_obj b4 Z3.out)
    have B4 := Lib.hid (B3.out.trans (b4.mono B3.out.size))
    obtain ⟨_, _, y0, y1⟩ := two_cells9 z4
    generalize w3.alloc (.cells #[.string a, .string b] 41) = W4 at *
    have hp3 : w.heap.size ≤ w3.heap.size := B3.out.size
    have hp1 := HG3.out
    generalize w3.heap.size = p3 at *
    go_upto_region 12 with fail
    have z5 := pair_set0 z4 (.string u)
    have Z5 := Lib.hid ((heap_setCell_other W4 ⟨p3, 0, none⟩ p1 (.string u) (by show p1 ≠ p3; omega)).trans Z4.out)
    have B5 := Lib.hid (B4.out.setCell (p := ⟨p3, 0, none⟩) hp3 (.string u))
    have hz5 := obj_lt z5
    clear y0 y1 Z4
    generalize W4.setCell ⟨p3, 0, none⟩ (.string u) = W5 at *
    obtain ⟨m0, m1, _, _⟩ := two_cells9 z5
    have hcc := hc1 _ (HB.out _ _ HT.out B5.out)
    clear hc1
    go_upto_region 13 with (go_at_call 7; refine hcc.mono ?_; rintro e w6 ⟨t6, rfl, ht6, hb6⟩; have HT6 := Lib.hid ht6.out; have HB6 := Lib.hid hb6; clear ht6 hb6)
    have ht6 : t6 = t := text_eq HT6.out
    subst ht6
    have b7 : Below w6.heap.size w6 (w6.alloc (.cells #[.int .i64 NG, .string t6] 24)) := (Below.refl _ w6).alloc (Nat.le_refl _) _
    have s6 := HB6.out.size
    have z7 := old_obj b7 (old_obj HB6.out z5)
    have Z7 := Lib.hid (old_obj b7 (old_obj HB6.out Z5.out))
    have b67 : Below w.heap.size w w6 := B5.out.trans (HB6.out.mono B5.out.size)
    have B7 := Lib.hid (b67.trans (b7.mono b67.size))
    obtain ⟨n0, n1, _, _⟩ := two_cells9 (heap_alloc_new w6 (.cells #[.int .i64 NG, .string t6] 24))
    obtain ⟨_, _, y0, y1⟩ := two_cells9 z7
    clear hcc m0 m1 HB6 b67 b7
    generalize w6.alloc (.cells #[.int .i64 NG, .string t6] 24) = W7 at *
    go_upto_region 16 with fail
    have z8 := pair_set0 z7 (.string t6)
    have Z8 := Lib.hid ((heap_setCell_other W7 ⟨p3, 0, none⟩ p1 (.string t6) (by show p1 ≠ p3; omega)).trans Z7.out)
    have B8 := Lib.hid (B7.out.setCell (p := ⟨p3, 0, none⟩) hp3 (.string t6))
    clear y0 y1 Z7 n0 n1
    generalize W7.setCell ⟨p3, 0, none⟩ (.string t6) = W8 at *
    have hgg := hgt _ (HB.out _ _ HT.out B8.out)
    go_upto_region 17 with (go_at_call 13; refine hgg.mono ?_; rintro e w9 ⟨t9, rfl, _, hb9⟩; have HB9 := Lib.hid hb9; clear hb9)
    have b10 : Below w9.heap.size w9 (w9.alloc (.cells #[.int .i64 (getG9 t6.data.toList), .string t9] 24)) := (Below.refl _ w9).alloc (Nat.le_refl _) _
    have z10 := old_obj b10 (old_obj HB9.out z8)
    have Z10 := Lib.hid (old_obj b10 (old_obj HB9.out Z8.out))
    have b90 : Below w.heap.size w w9 := B8.out.trans (HB9.out.mono B8.out.size)
    have B10 := Lib.hid (b90.trans (b10.mono b90.size))
    clear hgg HB9 b90 b10
    generalize w9.alloc (.cells #[.int .i64 (getG9 t6.data.toList), .string t9] 24) = W10 at *
    by_cases qx : EX = 0
    · have dx : (EX == 0) = true := beq_iff_eq.2 qx
      go_wp2_with (go_at_call 6; refine (HA _ (HB.out _ _ HT.out B10.out)).mono ?_; rintro e w11 ⟨rfl, hb11⟩)
      go_ret
      exact ⟨rfl, B10.out.trans (hb11.mono B10.out.size)⟩
    · have dx : (EX == 0) = false := beq_eq_false_iff_ne.2 qx
      obtain ⟨o1, o2, o3⟩ := HO.out (by rw [hEX]; exact qx)
      rw [o1, o2, o3, hI, hG] at hc2
      have hcc := hc2 _ (HB.out _ _ HT.out B10.out)
      obtain ⟨m0, m1, _, _⟩ := two_cells9 z10
      clear hc2 o1 o2 o3
      go_upto_region 20 with (go_at_call 7; refine hcc.mono ?_; rintro e w11 ⟨t11, rfl, ht11, hb11⟩; have HT11 := Lib.hid ht11.out; have HB11 := Lib.hid hb11; clear ht11 hb11)
      have ht11 : t11 = t1 := text_eq (HT11.out.trans HT1.out.symm)
      subst ht11
      have b12 : Below w11.heap.size w11 (w11.alloc (.cells #[.int .i64 G, .string t11] 24)) := (Below.refl _ w11).alloc (Nat.le_refl _) _
      obtain ⟨n0, n1, _, _⟩ := two_cells9 (heap_alloc_new w11 (.cells #[.int .i64 G, .string t11] 24))
      obtain ⟨r0, r1, _, _⟩ := two_cells9 (old_obj b12 (old_obj HB11.out Z10.out))
      have b11 : Below w.heap.size w w11 := B10.out.trans (HB11.out.mono B10.out.size)
      have B12 := Lib.hid (b11.trans (b12.mono b11.size))
      clear m0 m1 hcc
      generalize w11.alloc (.cells #[.int .i64 G, .string t11] 24) = W12 at *
      go_wp2_with (go_at_call 6; refine (HA _ (HB.out _ _ HT.out B12.out)).mono ?_; rintro e w13 ⟨rfl, hb13⟩)
      go_ret
      exact ⟨rfl, B12.out.trans (hb13.mono B12.out.size)⟩
  · subst fs
    have hnew := new_second (A := a.data.toList) (B := b.data.toList) hbk.1 (hbk.2.1.trans hNG.symm) (by rw [hNG]; exact q0) hNS
    have hold := fun h => old_second (A := a.data.toList) (B := b.data.toList) (X := t.data.toList) h hNS
    have hc1 := fun W => H.choose a u (by omega) (by omega) W
    have hc2 := fun W => H.choose a t (by omega) (by omega) W
    rw [hnew.1, hnew.2.1, hnew.2.2, hbk.2.1, hbk.2.2] at hc1
    have e1 : (1 == I) = false := beq_eq_false_iff_ne.2 (fun h => fi h.symm)
    have HO := Lib.hid hold
    clear hnew hold hbk hng
    go_upto_region 11 with fail
    have b4 : Below w3.heap.size w3 (w3.alloc (.cells #[.string a, .string b] 41)) := (Below.refl _ w3).alloc (Nat.le_refl _) _
    have z4 := heap_alloc_new w3 (.cells #[.string a, .string b] 41)
    have Z4 := Lib.hid (old_obj b4 Z3.out)
    have B4 := Lib.hid (B3.out.trans (b4.mono B3.out.size))
    obtain ⟨_, _, y0, y1⟩ := two_cells9 z4
    generalize w3.alloc (.cells #[.string a, .string b] 41) = W4 at *
    have hp3 : w.heap.size ≤ w3.heap.size := B3.out.size
    have hp1 := HG3.out
    generalize w3.heap.size = p3 at *
    go_upto_region 12 with fail
    have z5 := pair_set1 z4 (.string u)
    have Z5 := Lib.hid ((heap_setCell_other W4 ⟨p3, 1, none⟩ p1 (.string u) (by show p1 ≠ p3; omega)).trans Z4.out)
    have B5 := Lib.hid (B4.out.setCell (p := ⟨p3, 1, none⟩) hp3 (.string u))
    have hz5 := obj_lt z5
    clear y0 y1 Z4
    generalize W4.setCell ⟨p3, 1, none⟩ (.string u) = W5 at *
    obtain ⟨m0, m1, _, _⟩ := two_cells9 z5
    have hcc := hc1 _ (HB.out _ _ HT.out B5.out)
    clear hc1
    go_upto_region 13 with (go_at_call 7; refine hcc.mono ?_; rintro e w6 ⟨t6, rfl, ht6, hb6⟩; have HT6 := Lib.hid ht6.out; have HB6 := Lib.hid hb6; clear ht6 hb6)
    have ht6 : t6 = t := text_eq HT6.out
    subst ht6
    have b7 : Below w6.heap.size w6 (w6.alloc (.cells #[.int .i64 NG, .string t6] 24)) := (Below.refl _ w6).alloc (Nat.le_refl _) _
    have s6 := HB6.out.size
    have z7 := old_obj b7 (old_obj HB6.out z5)
    have Z7 := Lib.hid (old_obj b7 (old_obj HB6.out Z5.out))
    have b67 : Below w.heap.size w w6 := B5.out.trans (HB6.out.mono B5.out.size)
    have B7 := Lib.hid (b67.trans (b7.mono b67.size))
    obtain ⟨n0, n1, _, _⟩ := two_cells9 (heap_alloc_new w6 (.cells #[.int .i64 NG, .string t6] 24))
    obtain ⟨_, _, y0, y1⟩ := two_cells9 z7
    clear hcc m0 m1 HB6 b67 b7
    generalize w6.alloc (.cells #[.int .i64 NG, .string t6] 24) = W7 at *
    go_upto_region 16 with fail
    have z8 := pair_set1 z7 (.string t6)
    have Z8 := Lib.hid ((heap_setCell_other W7 ⟨p3, 1, none⟩ p1 (.string t6) (by show p1 ≠ p3; omega)).trans Z7.out)
    have B8 := Lib.hid (B7.out.setCell (p := ⟨p3, 1, none⟩) hp3 (.string t6))
    clear y0 y1 Z7 n0 n1
    generalize W7.setCell ⟨p3, 1, none⟩ (.string t6) = W8 at *
    have hgg := hgt _ (HB.out _ _ HT.out B8.out)
    go_upto_region 17 with (go_at_call 13; refine hgg.mono ?_; rintro e w9 ⟨t9, rfl, _, hb9⟩; have HB9 := Lib.hid hb9; clear hb9)
    have b10 : Below w9.heap.size w9 (w9.alloc (.cells #[.int .i64 (getG9 t6.data.toList), .string t9] 24)) := (Below.refl _ w9).alloc (Nat.le_refl _) _
    have z10 := old_obj b10 (old_obj HB9.out z8)
    have Z10 := Lib.hid (old_obj b10 (old_obj HB9.out Z8.out))
    have b90 : Below w.heap.size w w9 := B8.out.trans (HB9.out.mono B8.out.size)
    have B10 := Lib.hid (b90.trans (b10.mono b90.size))
    clear hgg HB9 b90 b10
    generalize w9.alloc (.cells #[.int .i64 (getG9 t6.data.toList), .string t9] 24) = W10 at *
    by_cases qx : EX = 0
    · have dx : (EX == 0) = true := beq_iff_eq.2 qx
      go_wp2_with (go_at_call 6; refine (HA _ (HB.out _ _ HT.out B10.out)).mono ?_; rintro e w11 ⟨rfl, hb11⟩)
      go_ret
      exact ⟨rfl, B10.out.trans (hb11.mono B10.out.size)⟩
    · have dx : (EX == 0) = false := beq_eq_false_iff_ne.2 qx
      obtain ⟨o1, o2, o3⟩ := HO.out (by rw [hEX]; exact qx)
      rw [o1, o2, o3, hI, hG] at hc2
      have hcc := hc2 _ (HB.out _ _ HT.out B10.out)
      obtain ⟨m0, m1, _, _⟩ := two_cells9 z10
      clear hc2 o1 o2 o3
      go_upto_region 20 with (go_at_call 7; refine hcc.mono ?_; rintro e w11 ⟨t11, rfl, ht11, hb11⟩; have HT11 := Lib.hid ht11.out; have HB11 := Lib.hid hb11; clear ht11 hb11)
      have ht11 : t11 = t1 := text_eq (HT11.out.trans HT1.out.symm)
      subst ht11
      have b12 : Below w11.heap.size w11 (w11.alloc (.cells #[.int .i64 G, .string t11] 24)) := (Below.refl _ w11).alloc (Nat.le_refl _) _
      obtain ⟨n0, n1, _, _⟩ := two_cells9 (heap_alloc_new w11 (.cells #[.int .i64 G, .string t11] 24))
      obtain ⟨r0, r1, _, _⟩ := two_cells9 (old_obj b12 (old_obj HB11.out Z10.out))
      have b11 : Below w.heap.size w w11 := B10.out.trans (HB11.out.mono B10.out.size)
      have B12 := Lib.hid (b11.trans (b12.mono b11.size))
      clear m0 m1 hcc
      generalize w11.alloc (.cells #[.int .i64 G, .string t11] 24) = W12 at *
      go_wp2_with (go_at_call 6; refine (HA _ (HB.out _ _ HT.out B12.out)).mono ?_; rintro e w13 ⟨rfl, hb13⟩)
      go_ret
      exact ⟨rfl, B12.out.trans (hb13.mono B12.out.size)⟩
end Go.Proofs.YtkmkohpdldamhaaDoor
