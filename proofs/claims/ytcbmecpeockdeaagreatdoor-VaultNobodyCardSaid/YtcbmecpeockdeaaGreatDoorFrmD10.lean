/- The program's head of a frame, for every text of whole sectors, in every world. -/
import Derived.Test.YtcbmecpeockdeaaGreatDoorMFrmB10
import Derived.BigRegion
namespace Go.Proofs.YtcbmecpeockdeaaGreatDoor
open Go.RowKit

/-- What is wrong with the head of the frame with which sectors begin. -/
def headE (r : List UInt8) : Int := if r.length = 0 then 4 else if r.getD 0 0 ≠ 1 then 5 else if 127 < (r.getD 1 0).toNat then 8 else wrong10 (ep10 r) (sq10 r) (n10 r)
def headV (r : List UInt8) : Value := if headE r = 0 then .tuple #[.agg #[.int .i64 (ep10 r), .int .i64 (sq10 r), .string ⟨#[]⟩], .int .i64 (n10 r), .int .i64 0] else .tuple #[.agg #[.int .i64 0, .int .i64 0, .string ⟨#[]⟩], .int .i64 0, .int .i64 (headE r)]
theorem head_bad {r : List UInt8} {e : Int} (h : headE r = e) (he : e ≠ 0) : headV r = .tuple #[.agg #[.int .i64 0, .int .i64 0, .string ⟨#[]⟩], .int .i64 0, .int .i64 e] := by unfold headV; rw [h, if_neg he]
theorem pfr_load {w : World} {g : Nat} {t : TypeId} {x y z : Value} {fr : Nat × Nat} (h : w.heap[g]? = some (.cells #[x, y, z] t fr)) : (loadVar 81 ⟨g, 0, none⟩).run Tryz.prog w = .ok (.agg #[x, y, z]) w :=
  run_loadVar_row (P := Tryz.prog) w g t 81 #[x, y, z] fr _ h Tryz.underlying81 rfl (by kernel_rfl)
theorem tri_index0 (a b c : Int) (W : World) : (Instr.index 187 (.agg #[.int .i64 a, .int .i64 b, .int .i64 c]) (.int .i64 0)).run Tryz.prog W = .ok (.int .i64 a) W := by kernel_rfl
theorem tri_index1 (a b c : Int) (W : World) : (Instr.index 187 (.agg #[.int .i64 a, .int .i64 b, .int .i64 c]) (.int .i64 1)).run Tryz.prog W = .ok (.int .i64 b) W := by kernel_rfl
theorem tri_index2 (a b c : Int) (W : World) : (Instr.index 187 (.agg #[.int .i64 a, .int .i64 b, .int .i64 c]) (.int .i64 2)).run Tryz.prog W = .ok (.int .i64 c) W := by kernel_rfl
/-- Behind some numbers: the result's block, and the three numbers. -/
structure HeadAt (w : World) (x y z : Int) (W : World) : Prop where
  old : Below w.heap.size w W
  res : W.heap[w.heap.size]? = some (.cells #[.int .i64 0, .int .i64 0, .string ⟨#[]⟩] 81 (0, 0))
  arr : W.heap[w.heap.size + 1]? = some (.cells #[.int .i64 x, .int .i64 y, .int .i64 z] 187 (0, 0))
theorem HeadAt.on {w W W1 : World} {x y z : Int} (h : HeadAt w x y z W) (b : Below W.heap.size W W1) : HeadAt w x y z W1 :=
  ⟨h.old.trans (b.mono h.old.size), old_obj b h.res, old_obj b h.arr⟩
theorem heap_set_off (w : World) (g o k : Nat) (v : Value) (h : k ≠ g) : (w.setCell ⟨g, o, none⟩ v).heap[k]? = w.heap[k]? := by
  simp [World.setCell, Array.getElem?_modify, Ne.symm h]
theorem HeadAt.put0 {w W : World} {x y z : Int} (h : HeadAt w x y z W) (v : Int) : HeadAt w v y z (W.setCell ⟨w.heap.size + 1, 0, none⟩ (.int .i64 v)) :=
  ⟨h.old.setCell (p := ⟨w.heap.size + 1, 0, none⟩) (by simp) _, by rw [heap_set_off _ _ _ _ _ (by omega)]; exact h.res, heap_setCell_same W _ 0 _ _ _ h.arr⟩
theorem HeadAt.put1 {w W : World} {x y z : Int} (h : HeadAt w x y z W) (v : Int) : HeadAt w x v z (W.setCell ⟨w.heap.size + 1, 1, none⟩ (.int .i64 v)) :=
  ⟨h.old.setCell (p := ⟨w.heap.size + 1, 1, none⟩) (by simp) _, by rw [heap_set_off _ _ _ _ _ (by omega)]; exact h.res, heap_setCell_same W _ 1 _ _ _ h.arr⟩
theorem HeadAt.put2 {w W : World} {x y z : Int} (h : HeadAt w x y z W) (v : Int) : HeadAt w x y v (W.setCell ⟨w.heap.size + 1, 2, none⟩ (.int .i64 v)) :=
  ⟨h.old.setCell (p := ⟨w.heap.size + 1, 2, none⟩) (by simp) _, by rw [heap_set_off _ _ _ _ _ (by omega)]; exact h.res, heap_setCell_same W _ 2 _ _ _ h.arr⟩
set_option maxRecDepth 100000 in
set_option maxHeartbeats 2000000 in
theorem head_any (s : ByteArray) (hs : s.size ≤ 281474976710656) (h64 : s.size % 64 = 0) (w : World) :
    Calls Tryz.prog 113 #[.string s] w fun e w' => e = .returned (headV s.data.toList) ∧ Below w.heap.size w w' := by
  have hz := text_size s
  obtain ⟨r, hr⟩ : ∃ r, s.data.toList = r := ⟨_, rfl⟩
  rw [hr] at hz ⊢
  obtain ⟨Z, hZ⟩ : ∃ Z : Obj, Z = .cells #[.int .i64 0, .int .i64 0, .string ⟨#[]⟩] 81 := ⟨_, rfl⟩
  have hB0 : Below w.heap.size w (w.alloc Z) := (Below.refl _ w).alloc (Nat.le_refl _) _
  have hN0 := heap_alloc_new w Z
  go_enter Tryz.func113, Tryz.ntmps113
  by_cases q0 : s.size = 0
  · have hE : headE r = 4 := by unfold headE; rw [if_pos (by omega)]
    have HR := Lib.hid (head_bad hE (by omega))
    obtain rfl : s = ⟨#[]⟩ := text_eq (by rw [hr]; exact List.length_eq_zero_iff.1 (by omega))
    have e2 : ((⟨#[]⟩ : ByteArray).toList == []) = true := by rw [ByteArray.toList_eq]; rfl
    rw [hZ] at hN0 hB0
    obtain ⟨c0, c1, c2, f0, f1, f2⟩ := three_cells hN0
    have HN := Lib.hid hN0
    have HB := Lib.hid hB0
    clear hs h64 hz hr q0 hE hZ hN0 hB0
    go_wp2
    refine bodyPost_ret (results_row_two rfl _ _ w.heap.size _ rfl (pfr_load HN.out)) rfl ?_
    exact ⟨by rw [HR.out]; rfl, HB.out⟩
  have e2 : (s.toList == []) = false := by
    rw [beq_eq_false_iff_ne]
    intro h
    rw [ByteArray.toList_eq, hr] at h
    rw [h] at hz
    simp at hz
    omega
  have hs64 : 64 ≤ s.size := by omega
  have b0 : (0 : Nat) < s.size := by omega
  have b1 : (0 : Int) < (s.size : Int) := by omega
  have hs0 : (s[0]'b0).toNat = (r.getD 0 0).toNat := by
    rw [← hr, List.getD_eq_getElem?_getD, List.getElem?_eq_getElem (by rw [text_size]; omega)]
    rfl
  by_cases q1 : r.getD 0 0 ≠ 1
  · have hE : headE r = 5 := by unfold headE; rw [if_neg (by omega), if_pos q1]
    have HR := Lib.hid (head_bad hE (by omega))
    have e3 : (((s[0]'b0).toNat : Int) != 1) = true := by
      rw [bne_iff_ne, hs0]
      intro h
      exact q1 (UInt8.toNat_inj.1 (by rw [show (1 : UInt8).toNat = 1 from rfl]; omega))
    rw [hZ] at hN0 hB0
    obtain ⟨c0, c1, c2, f0, f1, f2⟩ := three_cells hN0
    have HN := Lib.hid hN0
    have HB := Lib.hid hB0
    clear hs h64 hz hr q0 hE hZ hN0 hB0 q1 hs0 hs64
    go_wp2
    refine bodyPost_ret (results_row_two rfl _ _ w.heap.size _ rfl (pfr_load HN.out)) rfl ?_
    exact ⟨by rw [HR.out]; rfl, HB.out⟩
  have q1 := Decidable.not_not.1 q1
  have e3 : (((s[0]'b0).toNat : Int) != 1) = false := by rw [bne_eq_false_iff_eq, hs0, q1]; rfl
  have hnum := nums10 r 0 (by omega)
  rw [Nat.mul_zero, List.drop_zero] at hnum
  simp only [Nat.zero_add] at hnum
  obtain ⟨k1, k2, k3, k4, k5, k6, k7, k8⟩ := hnum
  have g1 := fun W => oget_any s (by omega) 1 8 (by omega) (by omega) W
  have g2 := fun W => oget_any s (by omega) 9 4 (by omega) (by omega) W
  have g3 := fun W => oget_any s (by omega) 13 4 (by omega) (by omega) W
  rw [hr] at g1 g2 g3
  rw [show ((1 : Nat) : Int) = 1 from rfl] at k1 k2
  rw [show ((9 : Nat) : Int) = 9 from rfl] at k2 k3 k4 k5
  rw [show ((13 : Nat) : Int) = 13 from rfl] at k5 k6 k7 k8
  rw [show ((17 : Nat) : Int) = 17 from rfl] at k8
  rw [k3, k4, k5] at g2
  rw [k6, k7, k8] at g3
  rw [k1] at g1
  obtain ⟨W, hW⟩ : ∃ W, W = (w.alloc (.cells #[.int .i64 0, .int .i64 0, .string ⟨#[]⟩] 81 (0, 0))).alloc (.cells #[.int .i64 0, .int .i64 0, .int .i64 0] 187 (0, 0)) := ⟨_, rfl⟩
  have hW0 : HeadAt w 0 0 0 W := by
    rw [hW]
    obtain ⟨p1, p2, p3⟩ := below_two (Below.refl _ ((w.alloc (.cells #[.int .i64 0, .int .i64 0, .string ⟨#[]⟩] 81 (0, 0))).alloc (.cells #[.int .i64 0, .int .i64 0, .int .i64 0] 187 (0, 0))))
    exact ⟨p1, p3, p2⟩
  have H0 := Lib.hid hW0
  have HG1 := Lib.hid g1
  have HG2 := Lib.hid g2
  have HG3 := Lib.hid g3
  have HK := Lib.hid k2
  have HRR := Lib.hid (And.intro hr (And.intro hz (And.intro q0 q1)))
  clear hr hz q0 q1 hs0 g1 g2 g3 k1 k2 k3 k4 k5 k6 k7 k8 hs h64 hZ hB0 hN0 hW0 hs64
  go_upto_region 6 with fail
  rw [← hW]
  clear hW e2 e3
  go_upto_region 8 with fail
  obtain ⟨E, hE⟩ : ∃ E, ep10 r = E := ⟨_, rfl⟩
  obtain ⟨Q, hQ⟩ : ∃ Q, sq10 r = Q := ⟨_, rfl⟩
  obtain ⟨n, hn⟩ : ∃ n, n10 r = n := ⟨_, rfl⟩
  rw [hE] at HK
  rw [hQ] at HG2
  rw [hn] at HG3
  have HV := Lib.hid (And.intro hE (And.intro hQ hn))
  clear hE hQ hn
  go_loopw [6, 20] (fun p' i' wr => (i' = .int .i64 0 ∧ p' = .int .i64 1 ∧ Hid (HeadAt w 0 0 0 wr)) ∨ (i' = .int .i64 1 ∧ p' = .int .i64 9 ∧ Hid (HeadAt w (E : Int) 0 0 wr) ∧ Hid (¬ 127 < (r.getD 1 0).toNat)) ∨ (i' = .int .i64 2 ∧ p' = .int .i64 13 ∧ Hid (HeadAt w (E : Int) (Q : Int) 0 wr) ∧ Hid (¬ 127 < (r.getD 1 0).toNat)) ∨ (i' = .int .i64 3 ∧ p' = .int .i64 17 ∧ Hid (HeadAt w (E : Int) (Q : Int) (n : Int) wr) ∧ Hid (¬ 127 < (r.getD 1 0).toNat))) (fun _ i' _ => 3 - (intOf i').toNat)
  case atStart => exact Or.inl ⟨rfl, rfl, H0⟩
  case round =>
    clear H0
    have x0 := tri_index0 8 4 4
    have x1 := tri_index1 8 4 4
    have x2 := tri_index2 8 4 4
    rcases hrel with ⟨rfl, rfl, hh⟩ | ⟨rfl, rfl, hh, hq⟩ | ⟨rfl, rfl, hh, hq⟩ | ⟨rfl, rfl, hh, hq⟩
    · by_cases q2 : 127 < (r.getD 1 0).toNat
      · have hE : headE r = 8 := by unfold headE; rw [if_neg (by have := HRR.out; omega), if_neg (fun h => h HRR.out.2.2.2), if_pos q2]
        have HR := Lib.hid (head_bad hE (by omega))
        have HGK := HG1
        rw [if_pos q2] at HGK
        clear q2 hE
        go_wp2_with (go_at_call 65; refine (HGK.out _).mono ?_; rintro e w3 ⟨rfl, hb3⟩; have hh3 := Lib.hid (hh.out.on hb3); clear hb3; obtain ⟨c0, c1, c2, f0, f1, f2⟩ := three_cells (old_obj ((Below.refl _ w3).alloc (Nat.le_refl _) (.cells #[.int .i64 (getV r 1 8), .int .i64 (getT r 1 8)] 109)) hh3.out.res))
        refine bodyPost_ret (results_row_two rfl _ _ w.heap.size _ rfl (pfr_load (three_stored (old_obj ((Below.refl _ w3).alloc (Nat.le_refl _) (.cells #[.int .i64 (getV r 1 8), .int .i64 (getT r 1 8)] 109)) hh3.out.res) _ _ _))) rfl ?_
        exact ⟨by rw [HR.out]; rfl, three_below (hh3.out.old.alloc hh3.out.old.size _) (by omega) _ _ _⟩
      have HNQ := q2
      have HGK := HG1
      rw [if_neg q2, (HK.out q2).1, (HK.out q2).2] at HGK
      clear q2
      go_upto_region 13 with (go_at_call 65; refine (HGK.out _).mono ?_; rintro e w3 ⟨rfl, hb3⟩; have hh3 := Lib.hid (hh.out.on hb3); clear hb3)
      have b4 : Below w3.heap.size w3 (w3.alloc (.cells #[.int .i64 (E : Int), .int .i64 9] 109)) := (Below.refl _ w3).alloc (Nat.le_refl _) _
      have hh4 := Lib.hid (hh3.out.on b4)
      obtain ⟨d0, d1, _, _⟩ := two_cells (heap_alloc_new w3 (.cells #[.int .i64 (E : Int), .int .i64 9] 109))
      have hne : w.heap.size + 1 < w3.heap.size := obj_lt hh3.out.arr
      clear b4 hh hh3
      generalize w3.alloc (.cells #[.int .i64 (E : Int), .int .i64 9] 109) = W4 at *
      generalize w3.heap.size = g3 at *
      obtain ⟨c0, c1, c2, f0, f1, f2⟩ := three_cells hh4.out.arr
      have n1 : ¬ (w.heap.size + 1 = g3) := by omega
      have n2 : ¬ (g3 = w.heap.size + 1) := by omega
      go_big_region
      all_goals
        go_wp2
        go_roundw
        case rel => exact Or.inr (Or.inl ⟨by go_num, rfl, Lib.hid (((hh4.out.on ((Below.refl _ _).drew))).put0 _), Lib.hid HNQ⟩)
        case measure => simp [intOf]
    · have HGK := HG2
      go_upto_region 13 with (go_at_call 65; refine (HGK.out _).mono ?_; rintro e w3 ⟨rfl, hb3⟩; have hh3 := Lib.hid (hh.out.on hb3); clear hb3)
      have b4 : Below w3.heap.size w3 (w3.alloc (.cells #[.int .i64 (Q : Int), .int .i64 13] 109)) := (Below.refl _ w3).alloc (Nat.le_refl _) _
      have hh4 := Lib.hid (hh3.out.on b4)
      obtain ⟨d0, d1, _, _⟩ := two_cells (heap_alloc_new w3 (.cells #[.int .i64 (Q : Int), .int .i64 13] 109))
      have hne : w.heap.size + 1 < w3.heap.size := obj_lt hh3.out.arr
      clear b4 hh hh3
      generalize w3.alloc (.cells #[.int .i64 (Q : Int), .int .i64 13] 109) = W4 at *
      generalize w3.heap.size = g3 at *
      obtain ⟨c0, c1, c2, f0, f1, f2⟩ := three_cells hh4.out.arr
      have n1 : ¬ (w.heap.size + 1 = g3) := by omega
      have n2 : ¬ (g3 = w.heap.size + 1) := by omega
      go_big_region
      all_goals
        go_wp2
        go_roundw
        case rel => exact Or.inr (Or.inr (Or.inl ⟨by go_num, rfl, Lib.hid (((hh4.out.on ((Below.refl _ _).drew))).put1 _), hq⟩))
        case measure => simp [intOf]
    · have HGK := HG3
      go_upto_region 13 with (go_at_call 65; refine (HGK.out _).mono ?_; rintro e w3 ⟨rfl, hb3⟩; have hh3 := Lib.hid (hh.out.on hb3); clear hb3)
      have b4 : Below w3.heap.size w3 (w3.alloc (.cells #[.int .i64 (n : Int), .int .i64 17] 109)) := (Below.refl _ w3).alloc (Nat.le_refl _) _
      have hh4 := Lib.hid (hh3.out.on b4)
      obtain ⟨d0, d1, _, _⟩ := two_cells (heap_alloc_new w3 (.cells #[.int .i64 (n : Int), .int .i64 17] 109))
      have hne : w.heap.size + 1 < w3.heap.size := obj_lt hh3.out.arr
      clear b4 hh hh3
      generalize w3.alloc (.cells #[.int .i64 (n : Int), .int .i64 17] 109) = W4 at *
      generalize w3.heap.size = g3 at *
      obtain ⟨c0, c1, c2, f0, f1, f2⟩ := three_cells hh4.out.arr
      have n1 : ¬ (w.heap.size + 1 = g3) := by omega
      have n2 : ¬ (g3 = w.heap.size + 1) := by omega
      go_big_region
      all_goals
        go_wp2
        go_roundw
        case rel => exact Or.inr (Or.inr (Or.inr ⟨by go_num, rfl, Lib.hid (((hh4.out.on ((Below.refl _ _).drew))).put2 _), hq⟩))
        case measure => simp [intOf]
    · obtain ⟨c0, c1, c2, f0, f1, f2⟩ := three_cells hh.out.arr
      obtain ⟨r0, r1, r2, e0, e1, e2⟩ := three_cells hh.out.res
      have HQ2 := hq
      go_upto_region 15 with fail
      go_big_region
      obtain ⟨W5, hW5⟩ : ∃ W5, W5 = (((wr.setCell ⟨w.heap.size, 0, none⟩ (.int .i64 E)).setCell ⟨w.heap.size, 1, none⟩ (.int .i64 Q)).setCell ⟨w.heap.size, 2, none⟩ (.string ⟨#[]⟩)).drew := ⟨_, rfl⟩
      have z5 : W5.heap[w.heap.size]? = some (.cells #[.int .i64 E, .int .i64 Q, .string ⟨#[]⟩] 81 (0, 0)) := by rw [hW5]; exact three_stored hh.out.res _ _ _
      have b5 : Below w.heap.size w W5 := by rw [hW5]; exact (three_below hh.out.old (Nat.le_refl _) _ _ _).drew
      have Z5 := Lib.hid z5
      have B5 := Lib.hid b5
      rw [← hW5]
      clear hW5 z5 b5 c0 c1 c2 f0 f1 f2 r0 r1 r2 e0 e1 e2 hh x0 x1 x2 HG1 HG2 HG3 HK
      obtain ⟨c0, c1, c2, f0, f1, f2⟩ := three_cells Z5.out
      have ho := fun v => poutside10_any (E : Int) (Q : Int) n v
      have hEa : headE r = wrong10 E Q n := by
        obtain ⟨h1, h2, h3⟩ := HV.out
        unfold headE
        rw [if_neg (by have := HRR.out; omega), if_neg (fun h => h HRR.out.2.2.2), if_neg hq.out, h1, h2, h3]
      by_cases q3 : wrong10 E Q n ≠ 0
      · have HR := Lib.hid (head_bad hEa q3)
        have e7 : (wrong10 E Q n != 0) = true := by rw [bne_iff_ne]; exact q3
        clear q3 hEa
        go_wp2_with (go_at_call 72; refine (ho _).mono ?_; rintro e w6 ⟨rfl, rfl⟩)
        refine bodyPost_ret (results_row_two rfl _ _ w.heap.size _ rfl (pfr_load (three_stored Z5.out _ _ _))) rfl ?_
        exact ⟨by rw [HR.out]; rfl, three_below B5.out (Nat.le_refl _) _ _ _⟩
      · have q3 := Decidable.not_not.1 q3
        rw [q3] at ho hEa
        have HR : Hid (headV r = .tuple #[.agg #[.int .i64 E, .int .i64 Q, .string ⟨#[]⟩], .int .i64 n, .int .i64 0]) := Lib.hid (by
          obtain ⟨h1, h2, h3⟩ := HV.out
          unfold headV
          rw [if_pos hEa, h1, h2, h3])
        clear q3 hEa
        go_wp2_with (go_at_call 72; refine (ho _).mono ?_; rintro e w6 ⟨rfl, rfl⟩)
        refine bodyPost_ret (results_row_two rfl _ _ w.heap.size _ rfl (pfr_load (three_stored Z5.out _ _ _))) rfl ?_
        exact ⟨by rw [HR.out]; rfl, three_below B5.out (Nat.le_refl _) _ _ _⟩
end Go.Proofs.YtcbmecpeockdeaaGreatDoor
