/- The document's functions of a store: how many rows, may it be, where a row is, its text; for every store and in every world. -/
import Derived.Test.YteccahggahpeeaaMElt15
import Derived.BigQuiet
import Derived.Laws.StructEq
import Derived.Deep.QuietTactic
namespace Go.Proofs.Yteccahggahpeeaa
open Go.RowKit

theorem take_cl (cs : List Cl15) (k : Nat) (h : k < cs.length) : cs.take (k + 1) = cs.take k ++ [clAt cs k] := by
  rw [List.take_add_one, clAt_get h]; rfl
theorem many_step {cs : List Cl15} {k : Nat} (h : k < cs.length) (t : Int) : manyC (cs.take (k + 1)) t = manyC (cs.take k) t + if (clAt cs k).1 = t then 1 else 0 := by
  unfold manyC
  rw [take_cl cs k h, List.countP_append, List.countP_singleton]
  by_cases e : (clAt cs k).1 = t
  · rw [if_pos e, if_pos (by simpa using e)]
  · rw [if_neg e, if_neg (by simpa using e)]
set_option maxHeartbeats 2000000 in
theorem rmany15_any (n : Nat) (a : Option Addr) (c : Nat) (cs : List Cl15) (t : Int) (w : World) (h : Els clE 0 w.heap.size w a cs) (hn : cs.length ≤ 100000) :
    Calls Try.prog 39 #[docVal n a c cs, .int .i64 t] w fun e w' => e = .returned (.int .i64 (manyC cs t)) ∧ Below w.heap.size w w' := by
  have hb0 := boxD_start w n a c cs
  have HX := Lib.hid (h.step hb0.1)
  obtain ⟨hbl, c0, c1⟩ := hb0
  have HB := Lib.hid hbl
  clear h hbl
  go_enter Try.func39, Try.ntmps39
  go_upto_region 3 with fail
  obtain ⟨V, hV⟩ : ∃ V, V = w.alloc (.cells #[.int .i64 n, .slice a cs.length c] 32) := ⟨_, rfl⟩
  rw [← hV] at c0 c1 HX HB ⊢
  clear hV
  go_loop [5, 6] (fun s5 s6 => ∃ k m : Nat, s6 = .int .i64 k ∧ s5 = .int .i64 m ∧ k ≤ cs.length ∧ m ≤ k ∧ Hid (m = manyC (cs.take k) t)) (fun _ i => cs.length + 1 - (intOf i).toNat)
  case atStart => exact ⟨0, 0, rfl, rfl, by omega, by omega, Lib.hid rfl⟩
  case round =>
    obtain ⟨k, m, rfl, rfl, hk, hm, HM⟩ := hrel
    by_cases hlt : k < cs.length
    · have i1 : (k : Int) < (cs.length : Int) := by omega
      have i3 : (0 : Int) ≤ (k : Int) := by omega
      obtain ⟨b, off, ea, _, x0, x1, x2⟩ := cls_at HX.out hlt
      have HS := Lib.hid (many_step hlt t)
      subst ea
      obtain ⟨u, hu⟩ : ∃ u, (clAt cs k).1 = u := ⟨_, rfl⟩
      rw [hu] at x0 HS
      clear hu x1 x2
      by_cases q : u = t
      · have d1 : (u == t) = true := beq_iff_eq.2 q
        have HM2 : Hid (m + 1 = manyC (cs.take (k + 1)) t) := Lib.hid (by rw [HS.out, if_pos q, HM.out])
        clear q
        go_wp2
        go_round
        case rel => exact ⟨k + 1, m + 1, by go_num, by go_num, by omega, by omega, HM2⟩
        case measure => first | (simp [intOf]; omega) | simp [intOf]
      · have d1 : (u == t) = false := beq_eq_false_iff_ne.2 q
        have HM2 : Hid (m = manyC (cs.take (k + 1)) t) := Lib.hid (by rw [HS.out, if_neg q, HM.out]; rfl)
        clear q
        go_wp2
        go_round
        case rel => exact ⟨k + 1, m, by go_num, rfl, by omega, by omega, HM2⟩
        case measure => first | (simp [intOf]; omega) | simp [intOf]
    · obtain rfl : k = cs.length := by omega
      have HM2 : Hid (m = manyC cs t) := Lib.hid (by have := HM.out; rw [List.take_length] at this; exact this)
      go_wp2
      go_ret
      exact ⟨by rw [← HM2.out]; rfl, HB.out⟩
/-- Where a cell is. -/
def atC (cs : List Cl15) (t id : Int) : Int := match findC cs t id with | some i => i | none => -1
theorem at_hit {cs : List Cl15} {t id : Int} {k : Nat} (hk : k < cs.length) (h0 : ∀ i, i < k → isC t id (clAt cs i) = false) (h1 : isC t id (clAt cs k) = true) : findC cs t id = some k := by
  unfold findC
  rw [List.findIdx?_eq_some_iff_getElem]
  have e : ∀ i, (h : i < cs.length) → clAt cs i = cs[i] := fun i h => by
    have := clAt_get h
    rw [List.getElem?_eq_getElem h] at this
    exact (Option.some.inj this).symm
  exact ⟨hk, by rw [← e k hk]; exact h1, fun j hj => by rw [← e j (by omega), h0 j hj]; simp⟩
theorem at_miss {cs : List Cl15} {t id : Int} (h0 : ∀ i, i < cs.length → isC t id (clAt cs i) = false) : findC cs t id = none := by
  unfold findC
  rw [List.findIdx?_eq_none_iff]
  intro x hx
  obtain ⟨i, hi, e⟩ := List.getElem_of_mem hx
  have := clAt_get hi
  rw [List.getElem?_eq_getElem hi, e] at this
  rw [Option.some.inj this]
  exact h0 i hi
set_option maxHeartbeats 2000000 in
theorem rat15_any (n : Nat) (a : Option Addr) (c : Nat) (cs : List Cl15) (t id : Int) (w : World) (h : Els clE 0 w.heap.size w a cs) (hn : cs.length ≤ 100000) :
    Calls Try.prog 36 #[docVal n a c cs, .int .i64 t, .int .i64 id] w fun e w' => e = .returned (.int .i64 (atC cs t id)) ∧ Below w.heap.size w w' := by
  have hb0 := boxD_start w n a c cs
  have HX := Lib.hid (h.step hb0.1)
  obtain ⟨hbl, c0, c1⟩ := hb0
  have HB := Lib.hid hbl
  clear h hbl
  go_enter Try.func36, Try.ntmps36
  go_upto_region 2 with fail
  obtain ⟨V, hV⟩ : ∃ V, V = w.alloc (.cells #[.int .i64 n, .slice a cs.length c] 32) := ⟨_, rfl⟩
  rw [← hV] at c0 c1 HX HB ⊢
  clear hV
  go_loop [7] (fun s7 => ∃ k : Nat, s7 = .int .i64 k ∧ k ≤ cs.length ∧ Hid (∀ i, i < k → isC t id (clAt cs i) = false)) (fun i => cs.length + 1 - (intOf i).toNat)
  case atStart => exact ⟨0, rfl, by omega, Lib.hid fun i hi => absurd hi (by omega)⟩
  case round =>
    obtain ⟨k, rfl, hk, HN⟩ := hrel
    by_cases hlt : k < cs.length
    · have i1 : (k : Int) < (cs.length : Int) := by omega
      have i3 : (0 : Int) ≤ (k : Int) := by omega
      obtain ⟨b, off, ea, _, x0, x1, x2⟩ := cls_at HX.out hlt
      have HI : Hid (isC t id (clAt cs k) = ((clAt cs k).1 == t && (clAt cs k).2.1 == id)) := Lib.hid rfl
      have HH : Hid (isC t id (clAt cs k) = true → atC cs t id = k) := Lib.hid fun h => by unfold atC; rw [at_hit hlt HN.out h]
      have HG : Hid (isC t id (clAt cs k) = false → ∀ i, i < k + 1 → isC t id (clAt cs i) = false) := Lib.hid fun h i hi => by
        rcases (by omega : i < k ∨ i = k) with q | q
        · exact HN.out i q
        · rw [q]; exact h
      subst ea
      obtain ⟨u, hu⟩ : ∃ u, (clAt cs k).1 = u := ⟨_, rfl⟩
      obtain ⟨v, hv⟩ : ∃ v, (clAt cs k).2.1 = v := ⟨_, rfl⟩
      rw [hu] at x0 HI
      rw [hv] at x1 HI
      clear hu hv x2
      by_cases q1 : u = t
      · have d1 : (u == t) = true := beq_iff_eq.2 q1
        by_cases q2 : v = id
        · have d2 : (v == id) = true := beq_iff_eq.2 q2
          have HR : Hid (atC cs t id = k) := Lib.hid (HH.out (by rw [HI.out, d1, d2]; rfl))
          clear q1 q2
          go_wp2
          go_ret
          exact ⟨by rw [HR.out]; rfl, HB.out⟩
        · have d2 : (v == id) = false := beq_eq_false_iff_ne.2 q2
          have HR := Lib.hid (HG.out (by rw [HI.out, d1, d2]; rfl))
          clear q1 q2
          go_wp2
          go_round
          case rel => exact ⟨k + 1, by go_num, by omega, HR⟩
          case measure => first | (simp [intOf]; omega) | simp [intOf]
      · have d1 : (u == t) = false := beq_eq_false_iff_ne.2 q1
        have HR := Lib.hid (HG.out (by rw [HI.out, d1]; rfl))
        clear q1
        go_wp2
        go_round
        case rel => exact ⟨k + 1, by go_num, by omega, HR⟩
        case measure => first | (simp [intOf]; omega) | simp [intOf]
    · obtain rfl : k = cs.length := by omega
      have HR : Hid (atC cs t id = -1) := Lib.hid (by unfold atC; rw [at_miss HN.out])
      go_wp2
      go_ret
      exact ⟨by rw [HR.out]; rfl, HB.out⟩
end Go.Proofs.Yteccahggahpeeaa
namespace Go.Proofs.Yteccahggahpeeaa
open Go.RowKit

theorem BoxD.below {w W : World} {n : Nat} {a : Option Addr} {c : Nat} {cs : List Cl15} (h : BoxD w W n a c cs) : Below w.heap.size w W := h.1
theorem cell_up15 {w : World} {p : Addr} {v : Value} (o : Obj) (h : w.cell? p = some v) : (w.alloc o).cell? p = some v := (((Below.refl w.heap.size w).alloc (Nat.le_refl _) o).cell (World.block_lt_of_cell? w _ h)).trans h
theorem check_bad {n : Nat} {cs : List Cl15} (h : ¬ fineC n cs) : checkC n cs = 40 := by unfold checkC; rw [if_neg h]
set_option maxRecDepth 100000 in
set_option maxHeartbeats 8000000 in
theorem rcheck15_any (n : Nat) (a : Option Addr) (c : Nat) (cs : List Cl15) (w : World) (h : Els clE 0 w.heap.size w a cs) (hcn : n ≤ 100000) (hn : cs.length ≤ 100000) :
    Calls Try.prog 20 #[docVal n a c cs] w fun e w' => e = .returned (.int .i64 (checkC n cs)) ∧ Below w.heap.size w w' := by
  have hb0 := boxD_start w n a c cs
  have HX := Lib.hid h
  have HB := Lib.hid hb0
  have HM : Hid (∀ (t : Int) (W : World), BoxD w W n a c cs → Calls Try.prog 39 #[docVal n a c cs, .int .i64 t] W fun e w' => e = .returned (.int .i64 (manyC cs t)) ∧ Below W.heap.size W w') := Lib.hid fun t W hW => rmany15_any n a c cs t W (h.step hW.1) hn
  obtain ⟨hbl, c0, c1⟩ := hb0
  clear h hbl
  by_cases h8 : 8 < n
  · have e1 : decide (8 < (n : Int)) = true := decide_eq_true (by omega)
    have e1' : decide (8 < n) = true := decide_eq_true h8
    have HR : Hid (checkC n cs = 40) := Lib.hid (check_bad fun q => by have := q.1; omega)
    clear h8
    go_enter Try.func20, Try.ntmps20
    go_wp2
    go_ret
    exact ⟨by rw [HR.out]; rfl, HB.out.below⟩
  have e1 : decide (8 < (n : Int)) = false := decide_eq_false (by omega)
  have e1' : decide (8 < n) = false := decide_eq_false h8
  have HN8 : Hid (n ≤ 8) := Lib.hid (by omega)
  clear h8
  go_enter Try.func20, Try.ntmps20
  go_upto_region 4 with fail
  go_loopw [3] (fun s3 wr => ∃ k : Nat, s3 = .int .i64 k ∧ k ≤ n ∧ Hid (BoxD w wr n a c cs) ∧ Hid (∀ i, i < k → manyC cs i ≤ 60)) (fun i _ => n + 1 - (intOf i).toNat)
  case atStart => exact ⟨0, rfl, by omega, HB, Lib.hid fun i hi => absurd hi (by omega)⟩
  case round =>
    obtain ⟨k, rfl, hk, HBk, HK⟩ := hrel
    obtain ⟨_, b0, b1⟩ := HBk.out
    by_cases hlt : k < n
    · have i1 : (k : Int) < (n : Int) := by omega
      have hm := HM.out (k : Int) wr HBk.out
      by_cases hq : 60 < manyC cs k
      · have d1 : decide (60 < ((manyC cs k : Nat) : Int)) = true := decide_eq_true (by omega)
        have d1' : decide (60 < manyC cs k) = true := decide_eq_true hq
        have HR : Hid (checkC n cs = 40) := Lib.hid (check_bad fun q => by have := q.2.1 k hlt; omega)
        clear hq
        go_wp2_with (go_at_call 39; refine hm.mono ?_; rintro e w2 ⟨rfl, hb⟩; have B2 := Lib.hid (HBk.out.step hb); clear hb)
        go_ret
        exact ⟨by rw [HR.out]; rfl, B2.out.below⟩
      · have d1 : decide (60 < ((manyC cs k : Nat) : Int)) = false := decide_eq_false (by omega)
        have d1' : decide (60 < manyC cs k) = false := decide_eq_false hq
        have HK2 : Hid (∀ i, i < k + 1 → manyC cs i ≤ 60) := Lib.hid fun i hi => by
          rcases (by omega : i < k ∨ i = k) with q | q
          · exact HK.out i q
          · rw [q]; omega
        clear hq
        go_wp2_with (go_at_call 39; refine hm.mono ?_; rintro e w2 ⟨rfl, hb⟩; have B2 := Lib.hid (HBk.out.step hb); clear hb)
        go_roundw
        case rel => exact ⟨k + 1, by first | rfl | go_num, by omega, B2, HK2⟩
        case measure => first | (simp [intOf]; omega) | simp [intOf]
    · obtain rfl : n = k := by omega
      go_upto_region 9 with fail
      clear b0 b1
      go_loopw [4] (fun s4 wr => ∃ k : Nat, s4 = .int .i64 k ∧ k ≤ cs.length ∧ Hid (BoxD w wr n a c cs) ∧ Hid (∀ i, i < k → goodC cs i)) (fun i _ => cs.length + 1 - (intOf i).toNat)
      case atStart => exact ⟨0, rfl, by omega, HBk, Lib.hid fun i hi => absurd hi (by omega)⟩
      case round =>
        obtain ⟨k, rfl, hk2, HB2, HG⟩ := hrel
        obtain ⟨_, b0, b1⟩ := HB2.out
        by_cases hlt2 : k < cs.length
        · have i1 : (k : Int) < (cs.length : Int) := by omega
          have i3 : (0 : Int) ≤ (k : Int) := by omega
          have hels := HX.out.step HB2.out.1
          obtain ⟨b, off, ea, hbb, x0, x1, x2⟩ := cls_at hels hlt2
          have HR : Hid (¬ goodC cs k → checkC n cs = 40) := Lib.hid fun h => check_bad fun q => h (q.2.2 k hlt2)
          have HGN : Hid (goodC cs k → ∀ i, i < k + 1 → goodC cs i) := Lib.hid fun h i hi => by
            rcases (by omega : i < k ∨ i = k) with q | q
            · exact HG.out i q
            · rw [q]; exact h
          have HGD : Hid (goodC cs k ↔ (1 ≤ (clAt cs k).2.1 ∧ (clAt cs k).2.1 ≤ 999999) ∧ (clAt cs k).2.2.length ≤ 200 ∧ (0 < k → (clAt cs (k - 1)).1 = (clAt cs k).1 → (clAt cs (k - 1)).2.1 < (clAt cs k).2.1)) := Lib.hid Iff.rfl
          have HP : Hid (∀ j, k = j + 1 → wr.cell? ⟨b, off + j * 3, none⟩ = some (.int .i64 (clAt cs j).1) ∧ wr.cell? ⟨b, off + j * 3 + 1, none⟩ = some (.int .i64 (clAt cs j).2.1)) := Lib.hid fun j hj => by
            obtain ⟨b', off', ea', _, y0, y1, _⟩ := cls_at hels (show j < cs.length by omega)
            rw [ea] at ea'
            injection ea' with e1
            injection e1 with e2 e3 _
            subst e2 e3
            exact ⟨y0, y1⟩
          obtain ⟨t0, ht0⟩ : ∃ t0, (clAt cs k).1 = t0 := ⟨_, rfl⟩
          obtain ⟨i0, hi0⟩ : ∃ i0, (clAt cs k).2.1 = i0 := ⟨_, rfl⟩
          obtain ⟨s0, hs0⟩ : ∃ s0, (clAt cs k).2.2 = s0 := ⟨_, rfl⟩
          rw [ht0] at x0 HGD
          rw [hi0] at x1 HGD
          rw [hs0] at x2 HGD
          have hsz : (tx s0).size = s0.length := tx_size s0
          subst ea
          clear hels ht0 hi0 hs0
          by_cases q1 : i0 < 1
          · have d1 : decide (i0 < 1) = true := decide_eq_true q1
            have HRR : Hid (checkC n cs = 40) := Lib.hid (HR.out fun q => by have := HGD.out.1 q; omega)
            clear q1 hsz
            go_upto_region 12 with fail
            go_quiet (fail)
            go_wp2
            go_ret
            exact ⟨by rw [HRR.out]; rfl, drawn_below (HB2.out.below.alloc HB2.out.below.size _) _⟩
          have d1 : decide (i0 < 1) = false := decide_eq_false q1
          by_cases q2 : 999999 < i0
          · have d2 : decide (999999 < i0) = true := decide_eq_true q2
            have HRR : Hid (checkC n cs = 40) := Lib.hid (HR.out fun q => by have := HGD.out.1 q; omega)
            clear q1 q2 hsz
            go_upto_region 12 with fail
            go_quiet (fail)
            go_wp2
            go_ret
            exact ⟨by rw [HRR.out]; rfl, drawn_below (HB2.out.below.alloc HB2.out.below.size _) _⟩
          have d2 : decide (999999 < i0) = false := decide_eq_false q2
          by_cases q3 : 200 < s0.length
          · have d3 : decide (200 < ((tx s0).size : Int)) = true := decide_eq_true (by omega)
            have d3' : decide (200 < (tx s0).size) = true := decide_eq_true (by omega)
            have HRR : Hid (checkC n cs = 40) := Lib.hid (HR.out fun q => by have := HGD.out.1 q; omega)
            clear q1 q2 q3 hsz
            go_upto_region 12 with fail
            go_quiet (fail)
            go_wp2
            go_ret
            exact ⟨by rw [HRR.out]; rfl, drawn_below (HB2.out.below.alloc HB2.out.below.size _) _⟩
          have d3 : decide (200 < ((tx s0).size : Int)) = false := decide_eq_false (by omega)
          have d3' : decide (200 < (tx s0).size) = false := decide_eq_false (by omega)
          by_cases q4 : 0 < k
          · obtain ⟨j, rfl⟩ : ∃ j, k = j + 1 := ⟨k - 1, by omega⟩
            have d4 : decide ((0 : Int) < (j : Int) + 1) = true := decide_eq_true (by omega)
            have d4' : decide (0 < j + 1) = true := decide_eq_true (by omega)
            have i4 : (j : Int) < (cs.length : Int) := by omega
            have i5 : (0 : Int) ≤ (j : Int) := by omega
            have i7 : IntKind.i64.wrap ((j : Int) + 1 - 1) = (j : Int) := by rw [Int.add_sub_cancel]; exact IntWalk.i64_in _ (by omega)
            obtain ⟨y0, y1⟩ := HP.out j rfl
            rw [Nat.add_sub_cancel] at HGD
            obtain ⟨t9, ht9⟩ : ∃ t9, (clAt cs j).1 = t9 := ⟨_, rfl⟩
            obtain ⟨i9, hi9⟩ : ∃ i9, (clAt cs j).2.1 = i9 := ⟨_, rfl⟩
            rw [ht9] at y0 HGD
            rw [hi9] at y1 HGD
            clear ht9 hi9
            by_cases q5 : t9 = t0
            · have d5 : (t9 == t0) = true := beq_iff_eq.2 q5
              by_cases q6 : i0 ≤ i9
              · have d6 : decide (i0 ≤ i9) = true := decide_eq_true q6
                have HRR : Hid (checkC n cs = 40) := Lib.hid (HR.out fun q => by have := (HGD.out.1 q).2.2 (by omega) q5; omega)
                clear q1 q2 q3 q4 q5 q6 hsz
                go_upto_region 12 with fail
                have z0 := cell_up15 (.cells #[.int .i64 t0, .int .i64 i0, .string (tx s0)] 72) y0
                have z1 := cell_up15 (.cells #[.int .i64 t0, .int .i64 i0, .string (tx s0)] 72) y1
                have z2 := cell_up15 (.cells #[.int .i64 t0, .int .i64 i0, .string (tx s0)] 72) b1
                go_quiet (fail)
                go_wp2
                go_ret
                exact ⟨by rw [HRR.out]; rfl, drawn_below (HB2.out.below.alloc HB2.out.below.size _) _⟩
              · have d6 : decide (i0 ≤ i9) = false := decide_eq_false q6
                have HG2 := Lib.hid (HGN.out (HGD.out.2 ⟨by omega, by omega, fun _ _ => by omega⟩))
                clear q1 q2 q3 q4 q5 q6 hsz
                go_upto_region 12 with fail
                have z0 := cell_up15 (.cells #[.int .i64 t0, .int .i64 i0, .string (tx s0)] 72) y0
                have z1 := cell_up15 (.cells #[.int .i64 t0, .int .i64 i0, .string (tx s0)] 72) y1
                have z2 := cell_up15 (.cells #[.int .i64 t0, .int .i64 i0, .string (tx s0)] 72) b1
                go_quiet (fail)
                go_wp2
                go_roundw
                case rel => exact ⟨j + 1 + 1, by first | rfl | go_num, by omega, Lib.hid (HB2.out.step (drawn_below ((Below.refl _ _).alloc (Nat.le_refl _) _) _)), HG2⟩
                case measure => first | (simp [intOf]; omega) | simp [intOf]
            · have d5 : (t9 == t0) = false := beq_eq_false_iff_ne.2 q5
              have HG2 := Lib.hid (HGN.out (HGD.out.2 ⟨by omega, by omega, fun _ e => absurd e q5⟩))
              clear q1 q2 q3 q4 q5 hsz
              go_upto_region 12 with fail
              have z0 := cell_up15 (.cells #[.int .i64 t0, .int .i64 i0, .string (tx s0)] 72) y0
              have z1 := cell_up15 (.cells #[.int .i64 t0, .int .i64 i0, .string (tx s0)] 72) y1
              have z2 := cell_up15 (.cells #[.int .i64 t0, .int .i64 i0, .string (tx s0)] 72) b1
              go_quiet (fail)
              go_wp2
              go_roundw
              case rel => exact ⟨j + 1 + 1, by first | rfl | go_num, by omega, Lib.hid (HB2.out.step (drawn_below ((Below.refl _ _).alloc (Nat.le_refl _) _) _)), HG2⟩
              case measure => first | (simp [intOf]; omega) | simp [intOf]
          · have d4 : decide ((0 : Int) < (k : Int)) = false := decide_eq_false (by omega)
            have d4' : decide (0 < k) = false := decide_eq_false q4
            have HG2 := Lib.hid (HGN.out (HGD.out.2 ⟨by omega, by omega, fun h => absurd h q4⟩))
            clear q1 q2 q3 q4 hsz
            go_upto_region 12 with fail
            go_quiet (fail)
            go_wp2
            go_roundw
            case rel => exact ⟨k + 1, by first | rfl | go_num, by omega, Lib.hid (HB2.out.step (drawn_below ((Below.refl _ _).alloc (Nat.le_refl _) _) _)), HG2⟩
            case measure => first | (simp [intOf]; omega) | simp [intOf]
        · obtain rfl : k = cs.length := by omega
          have HR : Hid (checkC n cs = 0) := Lib.hid (by unfold checkC; rw [if_pos ⟨HN8.out, HK.out, HG.out⟩])
          go_wp2
          go_ret
          exact ⟨by rw [HR.out]; rfl, HB2.out.below⟩
theorem atC_cases (cs : List Cl15) (t id : Int) : (∃ i : Nat, atC cs t id = i ∧ i < cs.length ∧ (clAt cs i).2.2 = textC cs t id ∧ hasC cs t id = true) ∨ (atC cs t id = -1 ∧ hasC cs t id = false) := by
  unfold atC
  cases h : findC cs t id with
  | none => exact Or.inr ⟨rfl, (findC_none h).1⟩
  | some i =>
    obtain ⟨h1, _, h3, h4⟩ := findC_some h
    exact Or.inl ⟨i, rfl, h1, h3, h4⟩
end Go.Proofs.Yteccahggahpeeaa
namespace Go.Proofs.Yteccahggahpeeaa
open Go.RowKit

theorem drew_more15 (w : World) (n m : Nat) : (w.drewN n).drewN m = w.drewN (n + m) := by
  first
  | rfl
  | (simp [World.drewN]; omega)
theorem op_fields : Try.prog.underlying 76 = some (.struct (Try.prog.fieldsOf 76)) := by kernel_rfl
theorem op_plain : Try.prog.stoodInHeld 76 = false := by kernel_rfl
theorem op_guard : Try.prog.eqGuardType Try.prog.depth 76 = false := by kernel_rfl
theorem op_equal (o : Op15) (w : World) : (Op.equalIn 10000 76 (.agg #[.int .i64 o.t, .int .i64 o.k, .int .i64 o.id, .string (tx o.x)]) (.agg #[.int .i64 o.t, .int .i64 o.k, .int .i64 o.id, .string (tx o.x)])).run Try.prog w = .ok true w := by
  have u3 := Try.underlying3
  have u9 := Try.underlying9
  have a3 := Try.isAgg3
  have z3 := Try.sizeOf3
  have a9 := Try.isAgg9
  have z9 := Try.sizeOf9
  rw [show (10000 : Nat) = 9999 + 1 from rfl, run_equalIn_agg w 9999 _ _ _ op_fields op_plain]
  simp only [Program.fieldsOf, Try.underlying76]
  go_simp
theorem cl_fields : Try.prog.underlying 72 = some (.struct (Try.prog.fieldsOf 72)) := by kernel_rfl
theorem cl_plain : Try.prog.stoodInHeld 72 = false := by kernel_rfl
theorem cl_guard : Try.prog.eqGuardType Try.prog.depth 72 = false := by kernel_rfl
theorem cl_equal (c : Cl15) (w : World) : (Op.equalIn 10000 72 (.agg #[.int .i64 c.1, .int .i64 c.2.1, .string (tx c.2.2)]) (.agg #[.int .i64 c.1, .int .i64 c.2.1, .string (tx c.2.2)])).run Try.prog w = .ok true w := by
  have u3 := Try.underlying3
  have u9 := Try.underlying9
  have a3 := Try.isAgg3
  have z3 := Try.sizeOf3
  have a9 := Try.isAgg9
  have z9 := Try.sizeOf9
  rw [show (10000 : Nat) = 9999 + 1 from rfl, run_equalIn_agg w 9999 _ _ _ cl_fields cl_plain]
  simp only [Program.fieldsOf, Try.underlying72]
  go_simp
set_option maxHeartbeats 2000000 in
theorem rsameops_true (a b : Option Addr) (ca cb : Nat) (l : List Op15) (A A' : Nat) (w : World) (hx : Els opE A w.heap.size w a l) (hy : Els opE A' w.heap.size w b l) (hn : l.length ≤ 900000) :
    Calls Try.prog 22 #[.slice a l.length ca, .slice b l.length cb] w fun e w' => e = .returned (.bool true) ∧ Below w.heap.size w w' := by
  have HX := Lib.hid hx
  have HY := Lib.hid hy
  have gd := op_guard
  clear hx hy
  go_enter Try.func22, Try.ntmps22
  go_wp2
  go_loopw [5] (fun s5 wr => ∃ (k : Nat), s5 = .int .i64 k ∧ k ≤ l.length ∧ Hid (Below w.heap.size w wr)) (fun i _ => l.length + 1 - (intOf i).toNat)
  case atStart => exact ⟨0, rfl, by omega, Lib.hid (Below.refl _ _)⟩
  case round =>
    obtain ⟨k, rfl, hk, HB⟩ := hrel
    by_cases hlt : k < l.length
    · have i1 : (k : Int) < (l.length : Int) := by omega
      have i3 : (0 : Int) ≤ (k : Int) := by omega
      obtain ⟨b1, o1, rfl, _, c0, c1, c2, c3⟩ := ops_at (HX.out.below HB.out) hlt
      obtain ⟨b2, o2, rfl, _, d0, d1, d2, d3⟩ := ops_at (HY.out.below HB.out) hlt
      have heq := op_equal (opAt l k)
      go_upto_region 6 with fail
      go_quiet (fail)
      go_wp2
      go_roundw
      case rel => exact ⟨k + 1, by first | rfl | go_num, by omega, Lib.hid (drawn_below HB.out _)⟩
      case measure => first | (simp [intOf]; omega) | simp [intOf]
    · obtain rfl : k = l.length := by omega
      go_wp2
      go_ret
      exact ⟨rfl, HB.out⟩
set_option maxRecDepth 100000 in
set_option maxHeartbeats 4000000 in
theorem rsame15_true (n : Nat) (a b : Option Addr) (ca cb : Nat) (cs : List Cl15) (A A' : Nat) (w : World) (hx : Els clE A w.heap.size w a cs) (hy : Els clE A' w.heap.size w b cs) (hn : cs.length ≤ 900000) :
    Calls Try.prog 40 #[docVal n a ca cs, docVal n b cb cs] w fun e w' => e = .returned (.bool true) ∧ Below w.heap.size w w' := by
  have HX := Lib.hid hx
  have HY := Lib.hid hy
  have gd := cl_guard
  obtain ⟨W0, hW0⟩ : ∃ W0, (w.alloc (.cells #[.int .i64 n, .slice a cs.length ca] 32)).alloc (.cells #[.int .i64 n, .slice b cs.length cb] 32) = W0 := ⟨_, rfl⟩
  have hb0 : Below w.heap.size w W0 := by rw [← hW0]; exact ((Below.refl _ w).alloc (Nat.le_refl _) _).alloc (by simp) _
  have h1 : W0.heap[w.heap.size]? = some (.cells #[.int .i64 n, .slice a cs.length ca] 32 (0, 0)) := by rw [← hW0]; exact heap_alloc2_old w _ _
  have h2 : W0.heap[w.heap.size + 1]? = some (.cells #[.int .i64 n, .slice b cs.length cb] 32 (0, 0)) := by rw [← hW0]; exact heap_alloc2_new w _ _
  have HB0 := Lib.hid hb0
  have H12 := Lib.hid (And.intro h1 h2)
  rw [← hW0] at h1 h2
  have p0 := cell_of (j := 0) h1 rfl
  have p1 := cell_of (j := 1) h1 rfl
  have p2 := cell_of (j := 0) h2 rfl
  have p3 := cell_of (j := 1) h2 rfl
  have HW := Lib.hid hW0
  clear hx hy hb0 h1 h2 hW0
  go_enter Try.func40, Try.ntmps40
  go_upto_region 4 with fail
  rw [HW.out]
  clear HW p0 p1 p2 p3
  go_loopw [5] (fun s5 wr => ∃ (k m : Nat), s5 = .int .i64 k ∧ k ≤ cs.length ∧ Hid (wr = W0.drewN m)) (fun i _ => cs.length + 1 - (intOf i).toNat)
  case atStart => exact ⟨0, 0, rfl, by omega, Lib.hid rfl⟩
  case round =>
    obtain ⟨k, m, rfl, hk, HB⟩ := hrel
    have hbl : Below w.heap.size w wr := by rw [HB.out]; exact drawn_below HB0.out _
    have g1 : wr.heap[w.heap.size]? = some (.cells #[.int .i64 n, .slice a cs.length ca] 32 (0, 0)) := by rw [HB.out]; exact H12.out.1
    have g2 : wr.heap[w.heap.size + 1]? = some (.cells #[.int .i64 n, .slice b cs.length cb] 32 (0, 0)) := by rw [HB.out]; exact H12.out.2
    have e0 := cell_of (j := 0) g1 rfl
    have e1 := cell_of (j := 1) g1 rfl
    have f0 := cell_of (j := 0) g2 rfl
    have f1 := cell_of (j := 1) g2 rfl
    have HBL := Lib.hid hbl
    clear hbl g1 g2
    by_cases hlt : k < cs.length
    · have i1 : (k : Int) < (cs.length : Int) := by omega
      have i3 : (0 : Int) ≤ (k : Int) := by omega
      obtain ⟨b1, o1, ea, _, c0, c1, c2⟩ := cls_at (HX.out.below HBL.out) hlt
      obtain ⟨b2, o2, eb, _, d0, d1, d2⟩ := cls_at (HY.out.below HBL.out) hlt
      have heq := cl_equal (clAt cs k)
      subst ea eb
      go_upto_region 6 with fail
      go_quiet (fail)
      go_wp2
      go_roundw
      case rel => exact ⟨k + 1, _, by first | rfl | go_num, by omega, Lib.hid (by rw [HB.out]; first | rfl | exact drew_more15 _ _ _)⟩
      case measure => first | (simp [intOf]; omega) | simp [intOf]
    · obtain rfl : k = cs.length := by omega
      go_wp2
      go_ret
      exact ⟨rfl, HBL.out⟩
end Go.Proofs.Yteccahggahpeeaa
