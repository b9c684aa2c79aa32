/- The walk of RuleFirst, from what is wanted of rule's functions. -/
import Derived.Test.YtkefbgjbgblalaaWake18
namespace Go.Proofs.Ytkefbgjbgblalaa
open Go.RowKit

set_option maxRecDepth 100000 in
set_option maxHeartbeats 8000000 in
theorem ruleFirst_from (H : Rule18) (w : World) (a : Option Addr) (cap : Nat) (l : List Row18) (_ : l.length ≤ maxLen) (hx : RowsIn w.heap.size w a l) (hcap : l.length ≤ cap) (f : Fact18) :
    Calls Try.prog 5 #[.slice a l.length cap, factVal f] w fun e w' => e = .returned (.bool true) ∧ Below w.heap.size w w' := by
  obtain ⟨W0, hW0⟩ : ∃ W, W = w.alloc (.cells #[.int .i64 f.g, .bool f.v, .int .i64 f.n] 25) := ⟨_, rfl⟩
  have hb0 : Below w.heap.size w W0 := by rw [hW0]; exact lit16 w _
  have h1 := heap_alloc_new w (.cells #[.int .i64 f.g, .bool f.v, .int .i64 f.n] 25)
  rw [← hW0] at h1
  have HB0 := Lib.hid hb0
  have HAW : Hid (∀ W, Calls Try.prog 14 #[] W fun e w' => e = .returned (.bool true) ∧ Below W.heap.size W w') := Lib.hid fun W => awake18 H W
  by_cases hl : 100 < l.length
  · have e1 : decide (100 < (l.length : Int)) = true := decide_eq_true (by omega)
    have e1' : decide (100 < l.length) = true := decide_eq_true hl
    clear hl hx hcap h1 hb0
    obtain ⟨fg, fv, fn⟩ := f
    dsimp only at *
    go_enter Try.func5, Try.ntmps5
    go_upto_region 1 with fail
    rw [← hW0]
    clear hW0
    go_wp2_with (go_at_call 14; refine (HAW.out _).mono ?_; rintro e w2 ⟨rfl, hb⟩; have HB := Lib.hid (HB0.out.trans (hb.mono HB0.out.size)); clear hb)
    go_ret
    exact ⟨rfl, HB.out⟩
  have e1 : decide (100 < (l.length : Int)) = false := decide_eq_false (by omega)
  have e1' : decide (100 < l.length) = false := decide_eq_false hl
  have hn : l.length ≤ 1000000 := by omega
  have HX := Lib.hid (rowsIn_step hx hb0)
  have HS : Hid (∀ V, Below W0.heap.size W0 V → V.cell? ⟨w.heap.size, 0, none⟩ = some (.int .i64 f.g) ∧ V.cell? ⟨w.heap.size, 1, none⟩ = some (.bool f.v) ∧ V.cell? ⟨w.heap.size, 2, none⟩ = some (.int .i64 f.n)) := Lib.hid fun V hV => by
    have k1 := old_obj hV h1
    exact ⟨cell_of (j := 0) k1 rfl, cell_of (j := 1) k1 rfl, cell_of (j := 2) k1 rfl⟩
  have HFL : Hid (w.heap.size < W0.heap.size) := Lib.hid (obj_lt h1)
  have H3 : Hid (∀ W, Below W0.heap.size W0 W → Calls Try.prog 17 #[.slice a l.length cap] W fun e w' => e = .returned (.int .i64 (tabE l)) ∧ Below W.heap.size W w') := Lib.hid fun W h => H.check a cap l W hcap (rowsIn_step HX.out h) hn
  have H4 : Hid (∀ W, Calls Try.prog 9 #[factVal f] W fun e w' => e = .returned (.int .i64 (factE f)) ∧ Below W.heap.size W w') := Lib.hid fun W => H.fact f W
  obtain ⟨c0, c1, c2⟩ := HS.out W0 (Below.refl _ _)
  by_cases hT : ¬ TabOk l
  · rw [tab_no hT] at H3
    clear hl hx hcap h1 hb0 H hT hn
    obtain ⟨fg, fv, fn⟩ := f
    dsimp only at *
    go_enter Try.func5, Try.ntmps5
    go_upto_region 1 with fail
    rw [← hW0]
    clear hW0
    go_wp2_with (first
      | (go_at_call 17; refine (H3.out _ (Below.refl _ _)).mono ?_; rintro e w1 ⟨rfl, hb⟩; have BX := Lib.hid hb; clear hb)
      | (go_at_call 14; refine (HAW.out _).mono ?_; rintro e w2 ⟨rfl, hb⟩; have BY := Lib.hid (BX.out.trans (hb.mono BX.out.size)); clear hb))
    go_ret
    exact ⟨rfl, HB0.out.trans (BY.out.mono HB0.out.size)⟩
  have hT := Decidable.not_not.1 hT
  rw [tab_yes hT] at H3
  by_cases hF : ¬ FactOk f
  · rw [fact_no hF] at H4
    clear hl hx hcap h1 hb0 H hT hF hn
    obtain ⟨fg, fv, fn⟩ := f
    dsimp only at *
    go_enter Try.func5, Try.ntmps5
    go_upto_region 1 with fail
    rw [← hW0]
    clear hW0
    go_wp2_with (first
      | (go_at_call 17; refine (H3.out _ (Below.refl _ _)).mono ?_; rintro e w1 ⟨rfl, hb⟩; have BX := Lib.hid hb; clear c0 c1 c2; obtain ⟨c0, c1, c2⟩ := HS.out _ hb; clear hb)
      | (go_at_call 9; refine (H4.out _).mono ?_; rintro e w2 ⟨rfl, hb⟩; have BY := Lib.hid (BX.out.trans (hb.mono BX.out.size)); clear hb)
      | (go_at_call 14; refine (HAW.out _).mono ?_; rintro e w3 ⟨rfl, hb⟩; have BZ := Lib.hid (BY.out.trans (hb.mono BY.out.size)); clear hb))
    go_ret
    exact ⟨rfl, HB0.out.trans (BZ.out.mono HB0.out.size)⟩
  have hF := Decidable.not_not.1 hF
  rw [fact_yes hF] at H4
  have H1 : Hid (∀ W, Below W0.heap.size W0 W → Calls Try.prog 15 #[.slice a l.length cap, factVal f] W fun e w' => e = .returned (.tuple #[.int .i64 (decWay l f), .int .i64 (decAt l f), .int .i64 (decE l f)]) ∧ Below W.heap.size W w') := Lib.hid fun W h => H.decide a cap l f W hcap (rowsIn_step HX.out h) hn
  have HM : Hid (∀ r W, Calls Try.prog 12 #[rowVal r, factVal f] W fun e w' => e = .returned (.bool (matchB r f)) ∧ Below W.heap.size W w') := Lib.hid fun r W => H.fits r f W
  have HTF := Lib.hid (And.intro hT hF)
  clear hl hx hcap h1 hb0 H hT hF
  have HD : Hid (∀ i, firstTo l f l.length = some i → decE l f = 0 ∧ decAt l f = i ∧ decWay l f = (rowAt18 l i).way) := Lib.hid fun i h => dec_some HTF.out.1 HTF.out.2 h
  have HDN : Hid (firstTo l f l.length = none → decE l f = 36 ∧ decAt l f = 0 ∧ decWay l f = 0) := Lib.hid fun h => dec_none HTF.out.1 HTF.out.2 h
  generalize decWay l f = x1 at *
  generalize decAt l f = x2 at *
  generalize decE l f = x3 at *
  go_enter Try.func5, Try.ntmps5
  go_upto_region 1 with fail
  rw [← hW0]
  clear hW0
  go_upto_region 3 with (first
    | (go_at_call 17; refine (H3.out _ (Below.refl _ _)).mono ?_; rintro e w1 ⟨rfl, hb⟩; have BX := Lib.hid hb; clear c0 c1 c2; obtain ⟨c0, c1, c2⟩ := HS.out _ hb; clear hb)
    | (go_at_call 9; refine (H4.out _).mono ?_; rintro e w2 ⟨rfl, hb⟩; have BY := Lib.hid (BX.out.trans (hb.mono BX.out.size)); clear hb c0 c1 c2; obtain ⟨c0, c1, c2⟩ := HS.out _ BY.out))
  go_upto_region 4 with (go_at_call 15; refine (H1.out _ BY.out).mono ?_; rintro e w3 ⟨rfl, hb⟩; have BZ := Lib.hid (BY.out.trans (hb.mono BY.out.size)); clear hb)
  clear c0 c1 c2
  go_wp2
  go_loopw [8] (fun s8 wr => ∃ k : Nat, s8 = .int .i64 k ∧ k ≤ l.length ∧ Hid (Below W0.heap.size W0 wr) ∧ Hid (∀ j, j < k → matchB (rowAt18 l j) f = false)) (fun i _ => l.length - (intOf i).toNat)
  case atStart => exact ⟨0, rfl, Nat.zero_le _, BZ, Lib.hid fun j h => absurd h (by omega)⟩
  case round =>
    clear BZ
    obtain ⟨k, rfl, hk, BR, HP⟩ := hrel
    by_cases hlt : k < l.length
    · have i1 : decide ((k : Int) < (l.length : Int)) = true := decide_eq_true (by omega)
      have i1' : decide (k < l.length) = true := decide_eq_true hlt
      have i2 : (k : Int) < (l.length : Int) := by omega
      have i3 : (0 : Int) ≤ (k : Int) := by omega
      have hk1 : k + 1 ≤ l.length := hlt
      obtain ⟨b, off, rfl, hbb, c0, c1, c2, c3, c4⟩ := rows_at18 (rowsIn_step HX.out BR.out) hlt
      obtain ⟨x0, xx1, xx2⟩ := HS.out _ BR.out
      have hfl : w.heap.size < wr.heap.size := Nat.lt_of_lt_of_le HFL.out BR.out.size
      have hm := HM.out (rowAt18 l k)
      have HT : Hid (matchB (rowAt18 l k) f = true → x3 = 0 ∧ x2 = k ∧ x1 = (rowAt18 l k).way) := Lib.hid fun h => HD.out k (first_is hlt h HP.out)
      have HPN : Hid (matchB (rowAt18 l k) f = false → ∀ j, j < k + 1 → matchB (rowAt18 l j) f = false) := Lib.hid fun h j hj => by
        rcases (by omega : j < k ∨ j = k) with q | q
        · exact HP.out j q
        · rw [q]; exact h
      clear hlt
      generalize hmb : matchB (rowAt18 l k) f = mb at *
      generalize hrr : rowAt18 l k = r at *
      have HRR := Lib.hid hrr
      clear hmb hrr
      obtain ⟨rg, rv, rl, rh, rw⟩ := r
      dsimp only at *
      go_upto_region 7 with fail
      go_cut [41] (fun s41 wx => s41 = .bool mb ∧ Below wr.heap.size wr wx)
      case first =>
        go_region_held3 (fun v => (v.cell? ⟨b, off + k * 5, none⟩ = some (.int .i64 rg) ∧ v.cell? ⟨b, off + k * 5 + 1, none⟩ = some (.int .i64 rv) ∧ v.cell? ⟨b, off + k * 5 + 2, none⟩ = some (.int .i64 rl) ∧ v.cell? ⟨b, off + k * 5 + 3, none⟩ = some (.int .i64 rh) ∧ v.cell? ⟨b, off + k * 5 + 4, none⟩ = some (.int .i64 rw)) ∧ v.cell? ⟨w.heap.size, 0, none⟩ = some (.int .i64 f.g) ∧ v.cell? ⟨w.heap.size, 1, none⟩ = some (.bool f.v) ∧ v.cell? ⟨w.heap.size, 2, none⟩ = some (.int .i64 f.n)) (first
          | exact ⟨⟨c0, c1, c2, c3, c4⟩, x0, xx1, xx2⟩
          | exact SX.out
          | go_keep) (first
          | (go_at_call 12; refine (hm _).mono ?_; rintro e w5 ⟨rfl, hb⟩; have SX := Lib.hid (And.intro (And.intro ((hb.cell (p := ⟨b, off + k * 5, none⟩) (World.block_lt_of_cell? wr _ c0)).trans c0) (And.intro ((hb.cell (p := ⟨b, off + k * 5 + 1, none⟩) (World.block_lt_of_cell? wr _ c1)).trans c1) (And.intro ((hb.cell (p := ⟨b, off + k * 5 + 2, none⟩) (World.block_lt_of_cell? wr _ c2)).trans c2) (And.intro ((hb.cell (p := ⟨b, off + k * 5 + 3, none⟩) (World.block_lt_of_cell? wr _ c3)).trans c3) ((hb.cell (p := ⟨b, off + k * 5 + 4, none⟩) (World.block_lt_of_cell? wr _ c4)).trans c4))))) (And.intro ((hb.cell (p := ⟨w.heap.size, 0, none⟩) hfl).trans x0) (And.intro ((hb.cell (p := ⟨w.heap.size, 1, none⟩) hfl).trans xx1) ((hb.cell (p := ⟨w.heap.size, 2, none⟩) hfl).trans xx2)))); have HBX := Lib.hid ((Below.refl _ wr).drew.trans hb); clear hb)
          | fail)
        all_goals
          go_wp2
          go_meet
          exact ⟨rfl, HBX.out⟩
      case rest =>
        obtain ⟨rfl, hbx⟩ := hcut
        have BR2 := Lib.hid (BR.out.trans (hbx.mono BR.out.size))
        have cw := (hbx.cell (p := ⟨b, off + k * 5 + 4, none⟩) (World.block_lt_of_cell? wr _ c4)).trans c4
        clear hbx c0 c1 c2 c3 c4 x0 xx1 xx2
        cases mb with
        | true =>
          obtain ⟨y3, y2, y1⟩ := HT.out rfl
          subst y3 y2 y1
          clear HPN HT HD HDN
          go_wp2_with (go_at_call 14; refine (HAW.out _).mono ?_; rintro e w6 ⟨rfl, hb⟩; have BY := Lib.hid (BR2.out.trans (hb.mono BR2.out.size)); clear hb)
          go_ret
          exact ⟨by first | rfl | simp, HB0.out.trans (BY.out.mono HB0.out.size)⟩
        | false =>
          have HN := Lib.hid (HPN.out rfl)
          clear HPN HT
          go_wp2
          go_roundw
          case rel => exact ⟨k + 1, by first | rfl | go_num, hk1, BR2, HN⟩
          case measure => first | (simp [intOf]; omega) | simp [intOf]
    · obtain rfl : k = l.length := by omega
      have i1 : decide ((l.length : Int) < (l.length : Int)) = false := decide_eq_false (by omega)
      have hnone : firstTo l f l.length = none := by
        cases hq : firstTo l f l.length with
        | none => rfl
        | some i =>
          have h := first_some hq
          have := HP.out i h.1
          rw [h.2.1] at this
          cases this
      obtain ⟨y3, _, y1⟩ := HDN.out hnone
      subst y3 y1
      clear HD HDN hnone
      go_wp2_with (go_at_call 14; refine (HAW.out _).mono ?_; rintro e w6 ⟨rfl, hb⟩; have BY := Lib.hid (BR.out.trans (hb.mono BR.out.size)); clear hb)
      go_ret
      exact ⟨by first | rfl | simp, HB0.out.trans (BY.out.mono HB0.out.size)⟩
end Go.Proofs.Ytkefbgjbgblalaa
