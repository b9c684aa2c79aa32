/- The document's Fits and Decide: for every table and all facts, in every world. -/
import Derived.Test.YtkefbgjbgblalaaRefB18
import Derived.Test.YtkefbgjbgblalaaRf16
import Derived.Deep.RegionHeld3
import Derived.OwnWalk
import Derived.Deep.CutBlock
import Derived.Deep.DeepCutAuto
namespace Go.Proofs.Ytkefbgjbgblalaa
open Go.RowKit

theorem Nums16.step {w W V : World} {a : Option Addr} {c : Nat} {ys : List Int} (h : Nums16 w W a c ys) (hb : Below W.heap.size W V) : Nums16 w V a c ys :=
  ⟨ownk_on h.own hb, h.below.trans (hb.mono h.below.size)⟩
/-- Facts in a box of their own. -/
theorem fact_box18 (w : World) (f : Fact18) : (w.alloc (.cells #[.int .i64 f.g, .bool f.v, .int .i64 f.n] 31)).heap[w.heap.size]? = some (.cells #[.int .i64 f.g, .bool f.v, .int .i64 f.n] 31 (0, 0)) := heap_alloc_new w _
set_option maxHeartbeats 4000000 in
theorem rfits18_any (a : Option Addr) (cap : Nat) (l : List Row18) (f : Fact18) (w : World) (hx : RowsIn w.heap.size w a l) (hn : l.length ≤ 1000000) :
    Calls Try.prog 21 #[.slice a l.length cap, factVal f] w fun e w' => ∃ b c, e = .returned (.slice b (fitsV l f).length c) ∧ (fitsV l f).length ≤ c ∧ Ints w'.heap.size w' b (fitsV l f) ∧ Below w.heap.size w w' := by
  obtain ⟨W0, hW0⟩ : ∃ W, W = w.alloc (.cells #[.int .i64 f.g, .bool f.v, .int .i64 f.n] 31) := ⟨_, rfl⟩
  have hb0 : Below w.heap.size w W0 := by rw [hW0]; exact lit16 w _
  have hf0 : W0.heap[w.heap.size]? = some (.cells #[.int .i64 f.g, .bool f.v, .int .i64 f.n] 31 (0, 0)) := by rw [hW0]; exact fact_box18 w f
  have HX := Lib.hid (rowsIn_step hx hb0)
  have HB0 := Lib.hid hb0
  have HF0 := Lib.hid hf0
  have HC : Hid (∀ W, Below W0.heap.size W0 W → Calls Try.prog 18 #[.slice a l.length cap] W fun e w' => e = .returned (.int .i64 (tabE l)) ∧ Below W.heap.size W w') := Lib.hid fun W h => rcheck18_any a cap l W (rowsIn_step HX.out h) hn
  have HM : Hid (∀ r W, Calls Try.prog 13 #[rowVal r, factVal f] W fun e w' => e = .returned (.bool (matchB r f)) ∧ Below W.heap.size W w') := Lib.hid fun r W => rmatch18_any r f W
  clear hx hb0 hf0
  by_cases hA : ¬ TabOk l
  · have HV : Hid (fitsV l f = []) := Lib.hid (if_neg hA)
    rw [tab_no hA] at HC
    rw [HV.out]
    clear hA
    obtain ⟨fg, fv, fn⟩ := f
    dsimp only at *
    go_enter Try.func21, Try.ntmps21
    go_upto_region 1 with fail
    rw [← hW0]
    clear hW0
    go_wp2
    go_loopw [5, 6] (fun s5 s6 wr => s5 = .slice none 0 0 ∧ s6 = .int .i64 0 ∧ wr = W0) (fun _ _ _ => 0)
    case atStart => exact ⟨rfl, rfl, rfl⟩
    case round =>
      obtain ⟨rfl, rfl, rfl⟩ := hrel
      have hc := HC.out _ (Below.refl _ _)
      rcases Nat.eq_zero_or_pos l.length with h0 | h0
      · have i1 : decide ((0 : Int) < (l.length : Int)) = false := decide_eq_false (by omega)
        have i1' : decide (0 < l.length) = false := decide_eq_false (by omega)
        clear h0
        go_wp2
        go_ret
        exact ⟨none, 0, rfl, Nat.le_refl _, Or.inl rfl, HB0.out⟩
      · have i1 : decide ((0 : Int) < (l.length : Int)) = true := decide_eq_true (by omega)
        have i1' : decide (0 < l.length) = true := decide_eq_true h0
        clear h0
        go_wp2_with (go_at_call 18; refine hc.mono ?_; rintro e w2 ⟨rfl, hb⟩; have HB2 := Lib.hid (HB0.out.trans (hb.mono HB0.out.size)); clear hb)
        go_ret
        exact ⟨none, 0, rfl, Nat.le_refl _, Or.inl rfl, HB2.out⟩
  have hA := Decidable.not_not.1 hA
  have HV : Hid (fitsV l f = fitsTo l f l.length) := Lib.hid (if_pos hA)
  rw [tab_yes hA] at HC
  have h20 := hA.2.1
  clear hA
  go_enter Try.func21, Try.ntmps21
  go_upto_region 1 with fail
  rw [← hW0]
  clear hW0
  go_wp2
  go_loopw [5, 6] (fun s5 s6 wr => ∃ (k : Nat) (a8 : Option Addr) (c8 : Nat) (ys : List Int), s5 = .slice a8 ys.length c8 ∧ s6 = .int .i64 k ∧ k ≤ l.length ∧ Hid (Nums16 W0 wr a8 c8 ys) ∧ Hid (ys = fitsTo l f k)) (fun _ i _ => l.length - (intOf i).toNat)
  case atStart => exact ⟨0, none, 0, [], rfl, rfl, Nat.zero_le _, Lib.hid (Nums16.start W0), Lib.hid rfl⟩
  case round =>
    obtain ⟨k, a8, c8, ys, rfl, rfl, hk, HO, HY⟩ := hrel
    by_cases hlt : k < l.length
    · have i1 : decide ((k : Int) < (l.length : Int)) = true := decide_eq_true (by omega)
      have i1' : decide (k < l.length) = true := decide_eq_true hlt
      have i2 : (k : Int) < (l.length : Int) := by omega
      have i3 : (0 : Int) ≤ (k : Int) := by omega
      have hyl : ys.length ≤ 1000000 := by have := fits_len l f k; rw [← HY.out] at this; omega
      have hk1 : k + 1 ≤ l.length := hlt
      have hc := HC.out wr HO.out.below
      go_upto_region 5 with (go_at_call 18; refine hc.mono ?_; rintro e w2 ⟨rfl, hb⟩; have HO2 := Lib.hid (HO.out.step hb); clear hb)
      obtain ⟨b, off, rfl, hbb, c0, c1, c2, c3, c4⟩ := rows_at18 (rowsIn_step HX.out HO2.out.below) hlt
      have hfb := old_obj HO2.out.below HF0.out
      have x0 := cell_of (j := 0) hfb rfl
      have x1 := cell_of (j := 1) hfb rfl
      have x2 := cell_of (j := 2) hfb rfl
      have hfl := obj_lt hfb
      have hm := HM.out (rowAt18 l k)
      have hstep : fitsTo l f (k + 1) = if matchB (rowAt18 l k) f = true then fitsTo l f k ++ [(k : Int)] else fitsTo l f k := rfl
      have HSTEP := Lib.hid hstep
      clear hstep hlt hfb hc
      generalize rowAt18 l k = r at *
      obtain ⟨rg, rv, rl, rh, rw⟩ := r
      dsimp only at *
      go_cut [23] (fun s23 wx => s23 = .bool (matchB ⟨rg, rv, rl, rh, rw⟩ f) ∧ Below w2.heap.size w2 wx)
      case first =>
        go_region_held3 (fun v => (v.cell? ⟨b, off + k * 5, none⟩ = some (.int .i64 rg) ∧ v.cell? ⟨b, off + k * 5 + 1, none⟩ = some (.int .i64 rv) ∧ v.cell? ⟨b, off + k * 5 + 2, none⟩ = some (.int .i64 rl) ∧ v.cell? ⟨b, off + k * 5 + 3, none⟩ = some (.int .i64 rh) ∧ v.cell? ⟨b, off + k * 5 + 4, none⟩ = some (.int .i64 rw)) ∧ v.cell? ⟨w.heap.size, 0, none⟩ = some (.int .i64 f.g) ∧ v.cell? ⟨w.heap.size, 1, none⟩ = some (.bool f.v) ∧ v.cell? ⟨w.heap.size, 2, none⟩ = some (.int .i64 f.n)) (first
          | exact ⟨⟨c0, c1, c2, c3, c4⟩, x0, x1, x2⟩
          | exact SX.out
          | go_keep) (first
          | (go_at_call 13; refine (hm _).mono ?_; rintro e w5 ⟨rfl, hb⟩; have SX := Lib.hid (And.intro (And.intro ((hb.cell (p := ⟨b, off + k * 5, none⟩) (World.block_lt_of_cell? w2 _ c0)).trans c0) (And.intro ((hb.cell (p := ⟨b, off + k * 5 + 1, none⟩) (World.block_lt_of_cell? w2 _ c1)).trans c1) (And.intro ((hb.cell (p := ⟨b, off + k * 5 + 2, none⟩) (World.block_lt_of_cell? w2 _ c2)).trans c2) (And.intro ((hb.cell (p := ⟨b, off + k * 5 + 3, none⟩) (World.block_lt_of_cell? w2 _ c3)).trans c3) ((hb.cell (p := ⟨b, off + k * 5 + 4, none⟩) (World.block_lt_of_cell? w2 _ c4)).trans c4))))) (And.intro ((hb.cell (p := ⟨w.heap.size, 0, none⟩) hfl).trans x0) (And.intro ((hb.cell (p := ⟨w.heap.size, 1, none⟩) hfl).trans x1) ((hb.cell (p := ⟨w.heap.size, 2, none⟩) hfl).trans x2)))); have HBX := Lib.hid ((Below.refl _ w2).drew.trans hb); clear hb)
          | fail)
        all_goals
          go_wp2
          go_meet
          exact ⟨rfl, HBX.out⟩
      case rest =>
        obtain ⟨rfl, hbx⟩ := hcut
        have HO3 := Lib.hid (HO2.out.step hbx)
        clear hbx c0 c1 c2 c3 c4 x0 x1 x2
        generalize hmb : matchB ⟨rg, rv, rl, rh, rw⟩ f = mb at *
        cases mb with
        | true =>
          have HQ : Hid (ys ++ [(k : Int)] = fitsTo l f (k + 1)) := Lib.hid (by rw [HSTEP.out, if_pos rfl, HY.out])
          go_wp2_with (at_builtin; refine append_nums rfl _ _ rfl a8 c8 ys rfl HO3.out (k : Int) rfl hyl ?_)
          intro a7 c7 V7 ts hts' hO7
          have hts := hts'.out
          clear hts'
          have HO7 := Lib.hid hO7
          rw [← hts] at HQ
          clear hO7 hts
          go_wp2
          go_roundw
          case rel => exact ⟨k + 1, a7, c7, ts, rfl, by first | rfl | go_num, hk1, HO7, HQ⟩
          case measure => first | (simp [intOf]; omega) | simp [intOf]
        | false =>
          have HQ : Hid (ys = fitsTo l f (k + 1)) := Lib.hid (by rw [HSTEP.out, if_neg (by simp), HY.out])
          go_wp2
          go_roundw
          case rel => exact ⟨k + 1, a8, c8, ys, rfl, by first | rfl | go_num, hk1, HO3, HQ⟩
          case measure => first | (simp [intOf]; omega) | simp [intOf]
    · obtain rfl : k = l.length := by omega
      have i1 : decide ((l.length : Int) < (l.length : Int)) = false := decide_eq_false (by omega)
      have HR : Hid (ys = fitsV l f) := Lib.hid (by rw [HY.out, HV.out])
      go_wp2
      go_ret
      rw [← HR.out]
      exact ⟨a8, c8, rfl, HO.out.ints.1, HO.out.ints.2, HB0.out.trans (HO.out.below.mono HB0.out.size)⟩
end Go.Proofs.Ytkefbgjbgblalaa
