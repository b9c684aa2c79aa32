/- The document's facts, fits and Amounts: in every world. -/
import Derived.Test.YtifihejogbcbgaaRefD18
import Derived.Test.YtifihejogbcbgaaWant19
namespace Go.Proofs.Ytifihejogbcbgaa
open Go.RowKit

set_option maxHeartbeats 4000000 in
theorem rfacts19_any (c : Nat) (hc : c < 8) (n : Int) (w : World) : Calls Try.prog 27 #[.int .i64 (c : Int), .int .i64 n] w fun e w' => e = .returned (factVal (cellF c n)) ∧ Below w.heap.size w w' := by
  have hcs : ∃ G B, cellF c n = ⟨G, B, n⟩ ∧ ((c = 0 ∧ G = 0 ∧ B = false) ∨ (c = 1 ∧ G = 0 ∧ B = true) ∨ (c = 2 ∧ G = 1 ∧ B = false) ∨ (c = 3 ∧ G = 1 ∧ B = true) ∨ (c = 4 ∧ G = 2 ∧ B = false) ∨ (c = 5 ∧ G = 2 ∧ B = true) ∨ (c = 6 ∧ G = 3 ∧ B = false) ∨ (c = 7 ∧ G = 3 ∧ B = true)) := by
    refine ⟨_, _, rfl, ?_⟩
    rcases (by omega : c = 0 ∨ c = 1 ∨ c = 2 ∨ c = 3 ∨ c = 4 ∨ c = 5 ∨ c = 6 ∨ c = 7) with rfl | rfl | rfl | rfl | rfl | rfl | rfl | rfl <;> decide
  obtain ⟨G, B, hcf, hcs⟩ := hcs
  have HCF := Lib.hid hcf
  clear hcf hc
  generalize cellF c n = cf at *
  rcases hcs with ⟨rfl, rfl, rfl⟩ | ⟨rfl, rfl, rfl⟩ | ⟨rfl, rfl, rfl⟩ | ⟨rfl, rfl, rfl⟩ | ⟨rfl, rfl, rfl⟩ | ⟨rfl, rfl, rfl⟩ | ⟨rfl, rfl, rfl⟩ | ⟨rfl, rfl, rfl⟩
  all_goals
    go_enter Try.func27, Try.ntmps27
    go_wp2
    refine bodyPost_ret (results_one18 rfl _ _ w.heap.size _ rfl (fact_load18 (heap_alloc_new w _))) rfl ?_
    exact ⟨by rw [HCF.out], lit16 w _⟩
set_option maxRecDepth 100000 in
set_option maxHeartbeats 8000000 in
theorem rfits19_any (a : Option Addr) (cap : Nat) (l : List Row18) (f : Fact18) (w : World) (hx : RowsIn w.heap.size w a l) (hn : l.length ≤ 1000000) :
    Calls Try.prog 26 #[.slice a l.length cap, factVal f] w fun e w' => e = .returned (.bool (fitsB l f)) ∧ Below w.heap.size w w' := by
  obtain ⟨W0, hW0⟩ : ∃ W, W = w.alloc (.cells #[.int .i64 f.g, .bool f.v, .int .i64 f.n] 31) := ⟨_, rfl⟩
  have hb0 : Below w.heap.size w W0 := by rw [hW0]; exact lit16 w _
  have h1 := heap_alloc_new w (.cells #[.int .i64 f.g, .bool f.v, .int .i64 f.n] 31)
  rw [← hW0] at h1
  have HB0 := Lib.hid hb0
  have HX := Lib.hid (rowsIn_step hx hb0)
  have HS : Hid (∀ V, Below W0.heap.size W0 V → V.cell? ⟨w.heap.size, 0, none⟩ = some (.int .i64 f.g) ∧ V.cell? ⟨w.heap.size, 1, none⟩ = some (.bool f.v) ∧ V.cell? ⟨w.heap.size, 2, none⟩ = some (.int .i64 f.n)) := Lib.hid fun V hV => by
    have k1 := old_obj hV h1
    exact ⟨cell_of (j := 0) k1 rfl, cell_of (j := 1) k1 rfl, cell_of (j := 2) k1 rfl⟩
  have HFL : Hid (w.heap.size < W0.heap.size) := Lib.hid (obj_lt h1)
  have HM : Hid (∀ r W, Calls Try.prog 29 #[rowVal r, factVal f] W fun e w' => e = .returned (.bool (matchB r f)) ∧ Below W.heap.size W w') := Lib.hid fun r W => rmatch18_any r f W
  clear hx h1 hb0
  go_enter Try.func26, Try.ntmps26
  go_upto_region 1 with fail
  rw [← hW0]
  clear hW0
  go_wp2
  go_loopw [5] (fun s8 wr => ∃ k : Nat, s8 = .int .i64 k ∧ k ≤ l.length ∧ Hid (Below W0.heap.size W0 wr) ∧ Hid (∀ j, j < k → matchB (rowAt18 l j) f = false)) (fun i _ => l.length - (intOf i).toNat)
  case atStart => exact ⟨0, rfl, Nat.zero_le _, Lib.hid (Below.refl _ _), Lib.hid fun j h => absurd h (by omega)⟩
  case round =>
    obtain ⟨k, rfl, hk, BR, HP⟩ := hrel
    by_cases hlt : k < l.length
    · have i1 : decide ((k : Int) < (l.length : Int)) = true := decide_eq_true (by omega)
      have i1' : decide (k < l.length) = true := decide_eq_true hlt
      have i2 : (k : Int) < (l.length : Int) := by omega
      have i3 : (0 : Int) ≤ (k : Int) := by omega
      have hk1 : k + 1 ≤ l.length := hlt
      obtain ⟨b, off, rfl, hbb, c0, c1, c2, c3, c4⟩ := rows_at18 (rowsIn_step HX.out BR.out) hlt
      obtain ⟨x0, xx1, xx2⟩ := HS.out _ BR.out
      have hfl : w.heap.size < wr.heap.size := Nat.lt_of_lt_of_le HFL.out BR.out.size
      have hm := HM.out (rowAt18 l k)
      have HT : Hid (matchB (rowAt18 l k) f = true → fitsB l f = true) := Lib.hid fun h => fits_at.2 ⟨k, hlt, h⟩
      have HPN : Hid (matchB (rowAt18 l k) f = false → ∀ j, j < k + 1 → matchB (rowAt18 l j) f = false) := Lib.hid fun h j hj => by
        rcases (by omega : j < k ∨ j = k) with q | q
        · exact HP.out j q
        · rw [q]; exact h
      clear hlt
      generalize hmb : matchB (rowAt18 l k) f = mb at *
      generalize hrr : rowAt18 l k = r at *
      have HRR := Lib.hid hrr
      clear hmb hrr
      obtain ⟨rg, rv, rl, rh, rw⟩ := r
      dsimp only at *
      go_upto_region 4 with fail
      go_cut [17] (fun s17 wx => s17 = .bool mb ∧ Below wr.heap.size wr wx)
      case first =>
        go_region_held3 (fun v => (v.cell? ⟨b, off + k * 5, none⟩ = some (.int .i64 rg) ∧ v.cell? ⟨b, off + k * 5 + 1, none⟩ = some (.int .i64 rv) ∧ v.cell? ⟨b, off + k * 5 + 2, none⟩ = some (.int .i64 rl) ∧ v.cell? ⟨b, off + k * 5 + 3, none⟩ = some (.int .i64 rh) ∧ v.cell? ⟨b, off + k * 5 + 4, none⟩ = some (.int .i64 rw)) ∧ v.cell? ⟨w.heap.size, 0, none⟩ = some (.int .i64 f.g) ∧ v.cell? ⟨w.heap.size, 1, none⟩ = some (.bool f.v) ∧ v.cell? ⟨w.heap.size, 2, none⟩ = some (.int .i64 f.n)) (first
          | exact ⟨⟨c0, c1, c2, c3, c4⟩, x0, xx1, xx2⟩
          | exact SX.out
          | go_keep) (first
          | (go_at_call 29; refine (hm _).mono ?_; rintro e w5 ⟨rfl, hb⟩; have SX := Lib.hid (And.intro (And.intro ((hb.cell (p := ⟨b, off + k * 5, none⟩) (World.block_lt_of_cell? wr _ c0)).trans c0) (And.intro ((hb.cell (p := ⟨b, off + k * 5 + 1, none⟩) (World.block_lt_of_cell? wr _ c1)).trans c1) (And.intro ((hb.cell (p := ⟨b, off + k * 5 + 2, none⟩) (World.block_lt_of_cell? wr _ c2)).trans c2) (And.intro ((hb.cell (p := ⟨b, off + k * 5 + 3, none⟩) (World.block_lt_of_cell? wr _ c3)).trans c3) ((hb.cell (p := ⟨b, off + k * 5 + 4, none⟩) (World.block_lt_of_cell? wr _ c4)).trans c4))))) (And.intro ((hb.cell (p := ⟨w.heap.size, 0, none⟩) hfl).trans x0) (And.intro ((hb.cell (p := ⟨w.heap.size, 1, none⟩) hfl).trans xx1) ((hb.cell (p := ⟨w.heap.size, 2, none⟩) hfl).trans xx2)))); have HBX := Lib.hid ((Below.refl _ wr).drew.trans hb); clear hb)
          | fail)
        all_goals
          go_wp2
          go_meet
          exact ⟨rfl, HBX.out⟩
      case rest =>
        obtain ⟨rfl, hbx⟩ := hcut
        have BR2 := Lib.hid (BR.out.trans (hbx.mono BR.out.size))
        clear hbx c0 c1 c2 c3 c4 x0 xx1 xx2
        cases mb with
        | true =>
          have HE := Lib.hid (HT.out rfl)
          clear HPN HT
          go_wp2
          go_ret
          exact ⟨by rw [HE.out]; rfl, HB0.out.trans (BR2.out.mono HB0.out.size)⟩
        | false =>
          have HN := Lib.hid (HPN.out rfl)
          clear HPN HT
          go_wp2
          go_roundw
          case rel => exact ⟨k + 1, by first | rfl | go_num, hk1, BR2, HN⟩
          case measure => first | (simp [intOf]; omega) | simp [intOf]
    · obtain rfl : k = l.length := by omega
      have i1 : decide ((l.length : Int) < (l.length : Int)) = false := decide_eq_false (by omega)
      have HE := Lib.hid (fits_none HP.out)
      go_wp2
      go_ret
      exact ⟨by rw [HE.out]; rfl, HB0.out.trans (BR.out.mono HB0.out.size)⟩
/-- A literal of one number, under way. -/
theorem nums_lit19 (w : World) (x : Int) : Nums16 w (w.alloc (.cells #[.int .i64 x] 3)) (some ⟨w.heap.size, 0, none⟩) 1 [x] :=
  ⟨⟨rfl, Or.inr ⟨w.heap.size, 1, #[.int .i64 x], rfl, Nat.le_refl _, heap_alloc_new w _, Nat.le_refl _, by unfold maxLen; omega, rfl, rfl⟩⟩, lit16 w _⟩
set_option maxHeartbeats 4000000 in
theorem ramounts19_any (a : Option Addr) (cap : Nat) (l : List Row18) (w : World) (hx : RowsIn w.heap.size w a l) (hT : TabOk l) :
    Calls Try.prog 21 #[.slice a l.length cap] w fun e w' => ∃ b c, e = .returned (.slice b (amtL l).length c) ∧ (amtL l).length ≤ c ∧ Ints w'.heap.size w' b (amtL l) ∧ Below w.heap.size w w' := by
  have HX := Lib.hid hx
  have hn : l.length ≤ 20 := hT.2.1
  have HT := Lib.hid hT
  clear hx hT
  have N0 := Lib.hid (nums_lit19 w 0)
  go_enter Try.func21, Try.ntmps21
  go_wp2
  go_loopw [3, 4] (fun s3 s4 wr => ∃ (k : Nat) (a8 : Option Addr) (c8 : Nat) (ys : List Int), s3 = .slice a8 ys.length c8 ∧ s4 = .int .i64 k ∧ k ≤ l.length ∧ Hid (Nums16 w wr a8 c8 ys) ∧ Hid (ys = amtTo l k)) (fun _ i _ => l.length - (intOf i).toNat)
  case atStart => exact ⟨0, some ⟨w.heap.size, 0, none⟩, 1, [0], rfl, rfl, Nat.zero_le _, N0, Lib.hid rfl⟩
  case round =>
    clear N0
    obtain ⟨k, a8, c8, ys, rfl, rfl, hk, HO, HY⟩ := hrel
    by_cases hlt : k < l.length
    · have i1 : decide ((k : Int) < (l.length : Int)) = true := decide_eq_true (by omega)
      have i1' : decide (k < l.length) = true := decide_eq_true hlt
      have i2 : (k : Int) < (l.length : Int) := by omega
      have i3 : (0 : Int) ≤ (k : Int) := by omega
      have hk1 : k + 1 ≤ l.length := hlt
      have hyl : ys.length ≤ 1000 := by have := amt_len l k; rw [← HY.out] at this; omega
      have hr := HT.out.2.2 k hlt
      unfold RowOk at hr
      obtain ⟨b, off, rfl, hbb, c0, c1, c2, c3, c4⟩ := rows_at18 (rowsIn_step HX.out HO.out.below) hlt
      have HROW : Hid (∀ W, Below w.heap.size w W → W.cell? ⟨b, off + k * 5 + 3, none⟩ = some (.int .i64 (rowAt18 l k).hi)) := Lib.hid fun W hW => by
        obtain ⟨b', off', e, _, _, _, _, q3, _⟩ := rows_at18 (rowsIn_step HX.out hW) hlt
        injection e with e
        injection e with e1 e2
        subst e1 e2
        exact q3
      have e1 : IntKind.i64.wrap ((rowAt18 l k).hi + 1) = (rowAt18 l k).hi + 1 := IntWalk.i64_in _ (by omega)
      have hstep : (decide ((rowAt18 l k).hi < 1000000000000) = true ∧ amtTo l (k + 1) = amtTo l k ++ [(rowAt18 l k).lo] ++ [(rowAt18 l k).hi + 1]) ∨ (decide ((rowAt18 l k).hi < 1000000000000) = false ∧ amtTo l (k + 1) = amtTo l k ++ [(rowAt18 l k).lo]) := by
        rw [amtTo]
        by_cases q : (rowAt18 l k).hi < 1000000000000
        · exact Or.inl ⟨decide_eq_true q, if_pos q⟩
        · exact Or.inr ⟨decide_eq_false q, if_neg q⟩
      clear hr hlt
      generalize (rowAt18 l k).lo = lo at *
      generalize (rowAt18 l k).hi = hi at *
      go_upto_region 6 with (at_builtin; refine append_nums rfl _ _ rfl a8 c8 ys rfl HO.out lo rfl (by omega) ?_)
      intro a7 c7 V7 ts hts' hO7
      have HT7 := Lib.hid hts'.out
      have HO7 := Lib.hid hO7
      have c7' := HROW.out _ hO7.below
      have htl : ts.length ≤ 1001 := by rw [HT7.out, List.length_append]; simp; omega
      clear hts' hO7 c0 c1 c2 c3 c4
      go_upto_region 6 with fail
      rcases hstep with ⟨d1, hst⟩ | ⟨d1, hst⟩
      · have HST := Lib.hid hst
        clear hst
        go_wp2_with (at_builtin; refine append_nums rfl _ _ rfl a7 c7 ts rfl HO7.out (hi + 1) rfl (by omega) ?_)
        intro a9 c9 V9 us hus' hO9
        have HU9 : Hid (us = amtTo l (k + 1)) := Lib.hid (by rw [HST.out, hus'.out, HT7.out, HY.out])
        have HO9 := Lib.hid hO9
        clear hus' hO9
        go_wp2
        go_roundw
        case rel => exact ⟨k + 1, a9, c9, us, rfl, by first | rfl | go_num, hk1, HO9, HU9⟩
        case measure => first | (simp [intOf]; omega) | simp [intOf]
      · have HU7 : Hid (ts = amtTo l (k + 1)) := Lib.hid (by rw [hst, HT7.out, HY.out])
        clear hst
        go_wp2
        go_roundw
        case rel => exact ⟨k + 1, a7, c7, ts, rfl, by first | rfl | go_num, hk1, HO7, HU7⟩
        case measure => first | (simp [intOf]; omega) | simp [intOf]
    · obtain rfl : k = l.length := by omega
      have i1 : decide ((l.length : Int) < (l.length : Int)) = false := decide_eq_false (by omega)
      have HR : Hid (ys = amtL l) := Lib.hid HY.out
      go_wp2
      go_ret
      rw [← HR.out]
      exact ⟨a8, c8, rfl, HO.out.ints.1, HO.out.ints.2, HO.out.below⟩
end Go.Proofs.Ytifihejogbcbgaa
