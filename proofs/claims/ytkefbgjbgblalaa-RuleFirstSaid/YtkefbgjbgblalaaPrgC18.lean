/- The program's matching: in every world. -/
import Derived.Test.YtkefbgjbgblalaaPrgB18
import Derived.Test.YtkefbgjbgblalaaRefC18
import Derived.Deep.LoopGhost
namespace Go.Proofs.Ytkefbgjbgblalaa
open Go.RowKit

def mE18 (l : List Row18) (f : Fact18) : Int := if TabOk l then factE f else 36
theorem fact_box18p (w : World) (f : Fact18) : (w.alloc (.cells #[.int .i64 f.g, .bool f.v, .int .i64 f.n] 25)).heap[w.heap.size]? = some (.cells #[.int .i64 f.g, .bool f.v, .int .i64 f.n] 25 (0, 0)) := heap_alloc_new w _
set_option maxHeartbeats 4000000 in
theorem pmatching18_any (a : Option Addr) (cap : Nat) (l : List Row18) (f : Fact18) (w : World) (hx : RowsIn w.heap.size w a l) (hn : l.length ≤ 1000000) :
    Calls Try.prog 25 #[.slice a l.length cap, factVal f] w fun e w' => ∃ b c, e = .returned (.tuple #[.slice b (fitsV l f).length c, .int .i64 (mE18 l f)]) ∧ (fitsV l f).length ≤ c ∧ Ints w'.heap.size w' b (fitsV l f) ∧ Below w.heap.size w w' := by
  obtain ⟨W0, hW0⟩ : ∃ W, W = w.alloc (.cells #[.int .i64 f.g, .bool f.v, .int .i64 f.n] 25) := ⟨_, rfl⟩
  have hb0 : Below w.heap.size w W0 := by rw [hW0]; exact lit16 w _
  have hf0 : W0.heap[w.heap.size]? = some (.cells #[.int .i64 f.g, .bool f.v, .int .i64 f.n] 25 (0, 0)) := by rw [hW0]; exact fact_box18p w f
  have HX := Lib.hid (rowsIn_step hx hb0)
  have HB0 := Lib.hid hb0
  have HF0 := Lib.hid hf0
  have HC : Hid (∀ W, Below W0.heap.size W0 W → Calls Try.prog 17 #[.slice a l.length cap] W fun e w' => e = .returned (.int .i64 (tabE l)) ∧ Below W.heap.size W w') := Lib.hid fun W h => pcheck18_any a cap l W (rowsIn_step HX.out h) hn
  have HG : Hid (∀ W, Calls Try.prog 9 #[factVal f] W fun e w' => e = .returned (.int .i64 (factE f)) ∧ Below W.heap.size W w') := Lib.hid fun W => pfact18_any f W
  have HFB : Hid (∀ W, Below W0.heap.size W0 W → W.cell? ⟨w.heap.size, 0, none⟩ = some (.int .i64 f.g) ∧ W.cell? ⟨w.heap.size, 1, none⟩ = some (.bool f.v) ∧ W.cell? ⟨w.heap.size, 2, none⟩ = some (.int .i64 f.n)) := Lib.hid fun W h => by
    have hfb := old_obj h HF0.out
    exact ⟨cell_of (j := 0) hfb rfl, cell_of (j := 1) hfb rfl, cell_of (j := 2) hfb rfl⟩
  clear hx hb0 hf0
  by_cases hA : ¬ TabOk l
  · have HV : Hid (fitsV l f = [] ∧ mE18 l f = 36) := Lib.hid ⟨if_neg hA, if_neg hA⟩
    rw [tab_no hA] at HC
    rw [HV.out.1, HV.out.2]
    clear hA
    generalize mE18 l f = E at *
    obtain ⟨fg, fv, fn⟩ := f
    dsimp only at *
    go_enter Try.func25, Try.ntmps25
    go_wp2
    rw [← hW0]
    clear hW0
    go_step3
    go_wp2_with (go_at_call 17; refine (HC.out _ (Below.refl _ _)).mono ?_; rintro e w2 ⟨rfl, hb⟩; have HB2 := Lib.hid (HB0.out.trans (hb.mono HB0.out.size)); clear hb)
    rw [Exit.noGoto_ret]
    go_ret2
    exact ⟨none, 0, rfl, Nat.le_refl _, Or.inl rfl, HB2.out⟩
  have hA := Decidable.not_not.1 hA
  rw [tab_yes hA] at HC
  by_cases hF : ¬ FactOk f
  · have HV : Hid (fitsV l f = [] ∧ mE18 l f = 2) := Lib.hid ⟨by rw [fitsV, if_pos hA, fits_fact hF], by rw [mE18, if_pos hA, fact_no hF]⟩
    rw [fact_no hF] at HG
    rw [HV.out.1, HV.out.2]
    clear hA hF
    generalize mE18 l f = E at *
    obtain ⟨fg, fv, fn⟩ := f
    dsimp only at *
    go_enter Try.func25, Try.ntmps25
    go_wp2
    rw [← hW0]
    clear hW0
    go_step3
    go_wp2_with (first
      | (go_at_call 17; refine (HC.out _ (Below.refl _ _)).mono ?_; rintro e w2 ⟨rfl, hb⟩; have HB2 := Lib.hid hb; obtain ⟨x0, x1, x2⟩ := HFB.out _ hb; clear hb)
      | (go_at_call 9; refine (HG.out _).mono ?_; rintro e w3 ⟨rfl, hb⟩; have HB3 := Lib.hid (HB2.out.trans (hb.mono HB2.out.size)); clear hb))
    rw [Exit.noGoto_ret]
    go_ret2
    exact ⟨none, 0, rfl, Nat.le_refl _, Or.inl rfl, HB0.out.trans (HB3.out.mono HB0.out.size)⟩
  have hF := Decidable.not_not.1 hF
  rw [fact_yes hF] at HG
  have HV : Hid (fitsV l f = fitsTo l f l.length ∧ mE18 l f = 0) := Lib.hid ⟨if_pos hA, by rw [mE18, if_pos hA, fact_yes hF]⟩
  have h20 := hA.2.1
  have HP : Hid (∀ j, j < l.length → RowOk (rowAt18 l j)) := Lib.hid hA.2.2
  have HFO := Lib.hid hF
  rw [HV.out.2]
  clear hA hF
  go_enter Try.func25, Try.ntmps25
  go_wp2
  rw [← hW0]
  clear hW0
  go_step3
  go_wp2_with (first
      | (go_at_call 17; refine (HC.out _ (Below.refl _ _)).mono ?_; rintro e w2 ⟨rfl, hb⟩; have HB2 := Lib.hid hb; obtain ⟨x0, x1, x2⟩ := HFB.out _ hb; clear hb)
      | (go_at_call 9; refine (HG.out _).mono ?_; rintro e w3 ⟨rfl, hb⟩; have HB3 := Lib.hid (HB2.out.trans (hb.mono HB2.out.size)); clear hb))
  have H0 := Lib.hid (Nums16.step (Nums16.start W0) HB3.out)
  clear x0 x1 x2 HC HG
  go_step3
  go_wp2
  go_loopg [8, 25] l.length (fun g s8 s25 wr => ∃ (k : Nat) (a8 : Option Addr) (c8 : Nat) (ys : List Int), k + g = l.length ∧ s8 = .slice a8 ys.length c8 ∧ s25 = .int .i64 k ∧ Hid (Nums16 W0 wr a8 c8 ys) ∧ Hid (ys = fitsTo l f k))
  case atStart => exact ⟨0, none, 0, [], by omega, rfl, rfl, H0, Lib.hid rfl⟩
  case round =>
    obtain ⟨k, a8, c8, ys, hkg, rfl, rfl, HO, HY⟩ := hrel
    cases gk with
    | zero =>
      obtain rfl : k = l.length := by omega
      have HR : Hid (ys = fitsV l f) := Lib.hid (by rw [HY.out, HV.out.1])
      go_wp2
      rw [Exit.noGoto_ret]
      go_ret2
      rw [← HR.out]
      exact ⟨a8, c8, rfl, HO.out.ints.1, HO.out.ints.2, HB0.out.trans (HO.out.below.mono HB0.out.size)⟩
    | succ g =>
      have hlt : k < l.length := by omega
      have i2 : (k : Int) < (l.length : Int) := by omega
      have i3 : (0 : Int) ≤ (k : Int) := by omega
      have hyl : ys.length ≤ 1000000 := by have := fits_len l f k; rw [← HY.out] at this; omega
      obtain ⟨b, off, rfl, hbb, c0, c1, c2, c3, c4⟩ := rows_at18 (rowsIn_step HX.out HO.out.below) hlt
      have hmb := match_in (f := f) (HP.out k hlt) HFO.out
      have hhc : hitB (rowAt18 l k) f = (bitB (rowAt18 l k).g f.g && (bitB (rowAt18 l k).v (warN f) && withinB f.n (rowAt18 l k).lo (rowAt18 l k).hi)) := rfl
      have HSTEP : Hid (fitsTo l f (k + 1) = if matchB (rowAt18 l k) f = true then fitsTo l f k ++ [(k : Int)] else fitsTo l f k) := Lib.hid rfl
      rw [hmb, hhc] at HSTEP
      have HAL : Hid (∀ W, Calls Try.prog 28 #[rowVal (rowAt18 l k)] W fun e w' => ∃ b, e = .returned (.slice (some ⟨b, 0, none⟩) 3 3) ∧ Conds18 W w' b (rowAt18 l k)) := Lib.hid fun W => pall18_any _ W
      have HK0 : Hid (∀ W, Calls Try.prog 30 #[rowVal (rowAt18 l k), factVal f] W fun e w' => e = .returned (.bool (bitB (rowAt18 l k).g f.g)) ∧ Below W.heap.size W w') := Lib.hid fun W => pgrade18_any _ f (HP.out k hlt) HFO.out W
      have HK1 : Hid (∀ W, Calls Try.prog 31 #[rowVal (rowAt18 l k), factVal f] W fun e w' => e = .returned (.bool (bitB (rowAt18 l k).v (warN f))) ∧ Below W.heap.size W w') := Lib.hid fun W => pwarr18_any _ f (HP.out k hlt) W
      have HK2 : Hid (∀ W, Calls Try.prog 32 #[rowVal (rowAt18 l k), factVal f] W fun e w' => e = .returned (.bool (withinB f.n (rowAt18 l k).lo (rowAt18 l k).hi)) ∧ Below W.heap.size W w') := Lib.hid fun W => pamount18_any _ f W
      clear hmb hhc
      generalize bitB (rowAt18 l k).g f.g = y0 at *
      generalize bitB (rowAt18 l k).v (warN f) = y1 at *
      generalize withinB f.n (rowAt18 l k).lo (rowAt18 l k).hi = y2 at *
      have HS : Hid (∀ z, Nums16 W0 z a8 c8 ys → Nums16 W0 z a8 c8 ys) := Lib.hid fun _ h => h
      clear hlt
      generalize rowAt18 l k = r at *
      have hq := box_row18 wr r 23
      have HOB : Hid (Nums16 W0 (wr.alloc (.cells #[.int .i64 r.g, .int .i64 r.v, .int .i64 r.lo, .int .i64 r.hi, .int .i64 r.way] 23)) a8 c8 ys) := Lib.hid (HO.out.step (lit16 wr _))
      obtain ⟨rg, rv, rl, rh, rw⟩ := r
      dsimp only at *
      go_upto_region 11 with fail
      obtain ⟨wa, hwa⟩ : ∃ V, V = wr.alloc (.cells #[.int .i64 rg, .int .i64 rv, .int .i64 rl, .int .i64 rh, .int .i64 rw] 23) := ⟨_, rfl⟩
      rw [← hwa] at hq HOB ⊢
      obtain ⟨q0, q1, q2, q3, q4⟩ := hq
      clear hwa HO HS c0 c1 c2 c3 c4
      go_wp2_with (go_at_call 28; refine (HAL.out _).mono ?_; rintro e wc ⟨fb, rfl, hc⟩; have HCO := Lib.hid hc; have HOC := Lib.hid (HOB.out.step hc.below); clear hc q0 q1 q2 q3 q4)
      have hkl : k + 1 + g = l.length := by omega
      have HFW := Lib.hid (And.intro hyl hyl)
      clear HAL hyl
      go_loopg [33] 3 (fun g2 s33 wx => ∃ j : Nat, j + g2 = 3 ∧ s33 = .int .i64 j ∧ Hid (Conds18 wa wx fb ⟨rg, rv, rl, rh, rw⟩) ∧ Hid (Nums16 W0 wx a8 c8 ys) ∧ Hid ((0 < j → y0 = true) ∧ (1 < j → y1 = true) ∧ (2 < j → y2 = true)))
      case atStart => exact ⟨0, rfl, rfl, HCO, HOC, Lib.hid ⟨fun h => absurd h (by omega), fun h => absurd h (by omega), fun h => absurd h (by omega)⟩⟩
      case round =>
        clear HCO HOC
        obtain ⟨j, hj3, rfl, HCO, HOC, HYS⟩ := hrel
        cases gk with
        | zero =>
          obtain rfl : j = 3 := by omega
          have HQ : Hid (ys ++ [(k : Int)] = fitsTo l f (k + 1)) := Lib.hid (by rw [HSTEP.out, HYS.out.1 (by omega), HYS.out.2.1 (by omega), HYS.out.2.2 (by omega), HY.out]; rfl)
          have hyl := HFW.out.1
          go_wp2_with (at_builtin; refine append_nums rfl _ _ rfl a8 c8 ys rfl HOC.out (k : Int) rfl hyl ?_)
          intro a7 c7 V7 ts hts' hO7
          have hts := hts'.out
          clear hts'
          have HO7 := Lib.hid hO7
          rw [← hts] at HQ
          clear hO7 hts
          go_wp2
          go_roundg g
          case rel => exact ⟨k + 1, a7, c7, ts, hkl, rfl, by first | rfl | go_num, HO7, HQ⟩
          case measure => omega
        | succ g3 =>
          rcases (by omega : j = 0 ∨ j = 1 ∨ j = 2) with rfl | rfl | rfl
          · obtain rfl : g3 = 2 := by omega
            obtain ⟨x0, x1, x2⟩ := HFB.out _ HOC.out.below
            have k0 := HCO.out.c0
            clear HK1 HK2
            cases hy : y0 with
            | true =>
              rw [hy] at HK0
              have HCN : Hid ((0 < 1 → y0 = true) ∧ (1 < 1 → y1 = true) ∧ (2 < 1 → y2 = true)) := Lib.hid ⟨fun _ => hy, fun h => absurd h (by omega), fun h => absurd h (by omega)⟩
              clear hy
              go_wp2_with (go_at_call 30; refine (HK0.out _).mono ?_; rintro e w5 ⟨rfl, hb⟩; have HCO2 := Lib.hid (HCO.out.step hb); have HOC2 := Lib.hid (HOC.out.step hb); clear hb)
              go_roundg 2
              case rel => exact ⟨1, rfl, by first | rfl | go_num, HCO2, HOC2, HCN⟩
              case measure => omega
            | false =>
              rw [hy] at HK0
              have HQ : Hid (ys = fitsTo l f (k + 1)) := Lib.hid (by rw [HSTEP.out, hy, HY.out]; rfl)
              clear hy
              go_wp2_with (go_at_call 30; refine (HK0.out _).mono ?_; rintro e w5 ⟨rfl, hb⟩; have HOC2 := Lib.hid (HOC.out.step hb); clear hb)
              go_roundg g
              case rel => exact ⟨k + 1, a8, c8, ys, hkl, rfl, by first | rfl | go_num, HOC2, HQ⟩
              case measure => omega
          · obtain rfl : g3 = 1 := by omega
            obtain ⟨x0, x1, x2⟩ := HFB.out _ HOC.out.below
            have k0 := HCO.out.c1
            clear HK0 HK2
            cases hy : y1 with
            | true =>
              rw [hy] at HK1
              have HCN : Hid ((0 < 2 → y0 = true) ∧ (1 < 2 → y1 = true) ∧ (2 < 2 → y2 = true)) := Lib.hid ⟨fun _ => HYS.out.1 (by omega), fun h => hy, fun h => absurd h (by omega)⟩
              clear hy
              go_wp2_with (go_at_call 31; refine (HK1.out _).mono ?_; rintro e w5 ⟨rfl, hb⟩; have HCO2 := Lib.hid (HCO.out.step hb); have HOC2 := Lib.hid (HOC.out.step hb); clear hb)
              go_roundg 1
              case rel => exact ⟨2, rfl, by first | rfl | go_num, HCO2, HOC2, HCN⟩
              case measure => omega
            | false =>
              rw [hy] at HK1
              have HQ : Hid (ys = fitsTo l f (k + 1)) := Lib.hid (by rw [HSTEP.out, hy, HY.out]; cases y0 <;> rfl)
              clear hy
              go_wp2_with (go_at_call 31; refine (HK1.out _).mono ?_; rintro e w5 ⟨rfl, hb⟩; have HOC2 := Lib.hid (HOC.out.step hb); clear hb)
              go_roundg g
              case rel => exact ⟨k + 1, a8, c8, ys, hkl, rfl, by first | rfl | go_num, HOC2, HQ⟩
              case measure => omega
          · obtain rfl : g3 = 0 := by omega
            obtain ⟨x0, x1, x2⟩ := HFB.out _ HOC.out.below
            have k0 := HCO.out.c2
            clear HK0 HK1
            cases hy : y2 with
            | true =>
              rw [hy] at HK2
              have HCN : Hid ((0 < 3 → y0 = true) ∧ (1 < 3 → y1 = true) ∧ (2 < 3 → y2 = true)) := Lib.hid ⟨fun _ => HYS.out.1 (by omega), fun h => HYS.out.2.1 (by omega), fun h => hy⟩
              clear hy
              go_wp2_with (go_at_call 32; refine (HK2.out _).mono ?_; rintro e w5 ⟨rfl, hb⟩; have HCO2 := Lib.hid (HCO.out.step hb); have HOC2 := Lib.hid (HOC.out.step hb); clear hb)
              go_roundg 0
              case rel => exact ⟨3, rfl, by first | rfl | go_num, HCO2, HOC2, HCN⟩
              case measure => omega
            | false =>
              rw [hy] at HK2
              have HQ : Hid (ys = fitsTo l f (k + 1)) := Lib.hid (by rw [HSTEP.out, hy, HY.out]; cases y0 <;> cases y1 <;> rfl)
              clear hy
              go_wp2_with (go_at_call 32; refine (HK2.out _).mono ?_; rintro e w5 ⟨rfl, hb⟩; have HOC2 := Lib.hid (HOC.out.step hb); clear hb)
              go_roundg g
              case rel => exact ⟨k + 1, a8, c8, ys, hkl, rfl, by first | rfl | go_num, HOC2, HQ⟩
              case measure => omega
end Go.Proofs.Ytkefbgjbgblalaa
