/- The walk of PolicyTimes, from what is wanted of policy's functions. -/
import Derived.Test.YtcllgpblebkpdaaWake20
import Derived.Deep.CutBlock
import Derived.Deep.DeepCutAuto
namespace Go.Proofs.Ytcllgpblebkpdaa
open Go.RowKit

set_option maxRecDepth 100000 in
set_option maxHeartbeats 8000000 in
theorem policyTimes_from (H : Policy20) (w : World) (i : Item20) (a : Int) (ha : (Lit.int .i64 a).wf = true) (s t : Int) (hs : (Lit.int .i64 s).wf = true) (ht : (Lit.int .i64 t).wf = true) :
    Calls Try.prog 4 #[itemVal i, .int .i64 a, .agg #[.int .i64 s, .int .i64 t]] w fun e w' => e = .returned (.bool true) ∧ Below w.heap.size w w' := by
  obtain ⟨W0, hW0⟩ : ∃ W, W = (w.alloc (.cells #[.int .i64 i.id, .int .i64 i.ven, .int .i64 i.win, .int .i64 i.war] 23)).alloc (.cells #[.int .i64 s, .int .i64 t] 38) := ⟨_, rfl⟩
  have hb0 : Below w.heap.size w W0 := by rw [hW0]; exact (box20 w _).alloc (box20 w _).size _
  have h0 := heap_alloc2_old w (.cells #[.int .i64 i.id, .int .i64 i.ven, .int .i64 i.win, .int .i64 i.war] 23) (.cells #[.int .i64 s, .int .i64 t] 38)
  have h1 := heap_alloc2_new w (.cells #[.int .i64 i.id, .int .i64 i.ven, .int .i64 i.win, .int .i64 i.war] 23) (.cells #[.int .i64 s, .int .i64 t] 38)
  rw [← hW0] at h0 h1
  obtain ⟨X, hX⟩ : ∃ X, IntKind.i64.wrap (i.win + 1) = X := ⟨_, rfl⟩
  obtain ⟨Y, hY⟩ : ∃ Y, (if i.win < 1000000 then X else i.win) = Y := ⟨_, rfl⟩
  have H1 : Hid (∀ W, Calls Try.prog 14 #[itemVal i, .int .i64 a, .int .i64 t] W fun e w' => e = .returned (.bool (openB i a t)) ∧ Below W.heap.size W w') := Lib.hid fun W => H.isopen i a t W ha ht
  have H2 : Hid (∀ W, Calls Try.prog 14 #[itemVal i, .int .i64 a, .int .i64 s] W fun e w' => e = .returned (.bool (openB i a s)) ∧ Below W.heap.size W w') := Lib.hid fun W => H.isopen i a s W ha hs
  have H3 : Hid (∀ W, Calls Try.prog 14 #[itemVal ⟨i.id, i.ven, Y, i.war⟩, .int .i64 a, .int .i64 s] W fun e w' => e = .returned (.bool (openB ⟨i.id, i.ven, Y, i.war⟩ a s)) ∧ Below W.heap.size W w') := Lib.hid fun W => H.isopen ⟨i.id, i.ven, Y, i.war⟩ a s W ha hs
  have H4 : Hid (∀ W, Calls Try.prog 18 #[] W fun e w' => e = .returned (.bool true) ∧ Below W.heap.size W w') := Lib.hid fun W => awake20 H W
  have cs1 : openB i a t = false ∨ (openB i a t = true ∧ decide (a ≤ s) = false) ∨ (openB i a t = true ∧ decide (a ≤ s) = true ∧ decide (s ≤ t) = false) ∨ (openB i a t = true ∧ decide (a ≤ s) = true ∧ decide (s ≤ t) = true ∧ openB i a s = true) := by
    cases hq : openB i a t with
    | false => exact Or.inl rfl
    | true =>
      by_cases q1 : a ≤ s
      · by_cases q2 : s ≤ t
        · exact Or.inr (Or.inr (Or.inr ⟨rfl, decide_eq_true q1, decide_eq_true q2, open_between hq q1 q2⟩))
        · exact Or.inr (Or.inr (Or.inl ⟨rfl, decide_eq_true q1, decide_eq_false q2⟩))
      · exact Or.inr (Or.inl ⟨rfl, decide_eq_false q1⟩)
  have cs2 : openB i a s = false ∨ (openB i a s = true ∧ openB ⟨i.id, i.ven, Y, i.war⟩ a s = true) := by
    cases hq : openB i a s with
    | false => exact Or.inl rfl
    | true =>
      refine Or.inr ⟨rfl, ?_⟩
      have hok := (of_decide_eq_true hq).1.1
      unfold ItemOk TimeOk at hok
      by_cases q : i.win < 1000000
      · rw [if_pos q] at hY
        have : X = i.win + 1 := by rw [← hX]; exact IntWalk.i64_in _ (by omega)
        exact open_longer hq (by omega) (by omega)
      · rw [if_neg q] at hY
        rw [← hY]
        exact hq
  have cs3 : (decide (i.win < 1000000) = true ∧ Y = X) ∨ (decide (i.win < 1000000) = false ∧ Y = i.win) := by
    by_cases q : i.win < 1000000
    · exact Or.inl ⟨decide_eq_true q, by rw [← hY, if_pos q]⟩
    · exact Or.inr ⟨decide_eq_false q, by rw [← hY, if_neg q]⟩
  clear H ha hs ht hY
  generalize openB ⟨i.id, i.ven, Y, i.war⟩ a s = x3 at *
  generalize openB i a t = x1 at *
  generalize openB i a s = x2 at *
  obtain ⟨ii, iv, iw, ir⟩ := i
  dsimp only at *
  have HS : Hid (∀ V, Below W0.heap.size W0 V → (V.cell? ⟨w.heap.size, 0, none⟩ = some (.int .i64 ii) ∧ V.cell? ⟨w.heap.size, 1, none⟩ = some (.int .i64 iv) ∧ V.cell? ⟨w.heap.size, 2, none⟩ = some (.int .i64 iw) ∧ V.cell? ⟨w.heap.size, 3, none⟩ = some (.int .i64 ir)) ∧ V.cell? ⟨w.heap.size + 1, 0, none⟩ = some (.int .i64 s) ∧ V.cell? ⟨w.heap.size + 1, 1, none⟩ = some (.int .i64 t)) := Lib.hid fun V hV => by
    have k0 := old_obj hV h0
    have k1 := old_obj hV h1
    exact ⟨⟨cell_of (j := 0) k0 rfl, cell_of (j := 1) k0 rfl, cell_of (j := 2) k0 rfl, cell_of (j := 3) k0 rfl⟩, cell_of (j := 0) k1 rfl, cell_of (j := 1) k1 rfl⟩
  have HB0 := Lib.hid hb0
  have BX : Hid (Below W0.heap.size W0 W0) := Lib.hid (Below.refl _ _)
  obtain ⟨⟨c0, c1, c2, c3⟩, u0, u1⟩ := HS.out _ BX.out
  clear h0 h1 hb0
  go_enter Try.func4, Try.ntmps4
  go_upto_region 1 with fail
  rw [← hW0]
  clear hW0
  go_cut [33] (fun s33 wx => s33 = .bool false ∧ Below W0.heap.size W0 wx)
  case first =>
    rcases cs1 with rfl | ⟨rfl, d1⟩ | ⟨rfl, d1, d2⟩ | ⟨rfl, d1, d2, rfl⟩
    all_goals
      go_wp2_with (first
        | (go_at_call 14; have _t := u1; refine (H1.out _).mono ?_; rintro e w2 ⟨rfl, hb⟩; have BX := Lib.hid (BX.out.trans (hb.mono BX.out.size)); clear hb c0 c1 c2 c3 u0 u1; obtain ⟨⟨c0, c1, c2, c3⟩, u0, uu⟩ := HS.out _ BX.out)
        | (go_at_call 14; refine (H2.out _).mono ?_; rintro e w3 ⟨rfl, hb⟩; have BX := Lib.hid (BX.out.trans (hb.mono BX.out.size)); clear hb))
      go_meet
      exact ⟨by first | rfl | simp, BX.out⟩
  case rest =>
    obtain ⟨rfl, hbc⟩ := hcut
    have BC := Lib.hid hbc
    clear hbc c0 c1 c2 c3 u0 u1 cs1 BX
    obtain ⟨⟨c0, c1, c2, c3⟩, u0, u1⟩ := HS.out _ BC.out
    go_upto_region 4 with fail
    clear c0 c1 c2 c3 u0 u1
    have hg := heap_alloc_new wc (.cells #[.int .i64 ii, .int .i64 iv, .int .i64 iw, .int .i64 ir] 23)
    have hbg := BC.out.trans ((box20 wc (.cells #[.int .i64 ii, .int .i64 iv, .int .i64 iw, .int .i64 ir] 23)).mono BC.out.size)
    have hge := BC.out.size
    obtain ⟨V, hV⟩ : ∃ V, V = wc.alloc (.cells #[.int .i64 ii, .int .i64 iv, .int .i64 iw, .int .i64 ir] 23) := ⟨_, rfl⟩
    rw [← hV] at hg hbg ⊢
    clear hV
    generalize wc.heap.size = g at *
    obtain ⟨⟨c0, c1, c2, c3⟩, u0, u1⟩ := HS.out _ hbg
    obtain ⟨f0, f1, f2, f3⟩ := four_frozen20 hg
    have g0 := cell_of (j := 0) hg rfl
    have g1 := cell_of (j := 1) hg rfl
    have g2 := cell_of (j := 2) hg rfl
    have g3 := cell_of (j := 3) hg rfl
    have HG := Lib.hid hg
    have BG := Lib.hid hbg
    have HGE := Lib.hid hge
    clear hg hbg hge
    rcases cs3 with ⟨d1, hyx⟩ | ⟨d1, hyx⟩
    · go_upto_region 6 with fail
      have BW := Lib.hid (BG.out.setCell (p := ⟨g, 2, none⟩) HGE.out (.int .i64 X))
      have HGW := Lib.hid (heap_setCell_same V g 2 _ _ (.int .i64 X) HG.out)
      clear BG HG hX c0 c1 c2 c3 u0 u1 f0 f1 f2 f3 g0 g1 g2 g3
      generalize V.setCell ⟨g, 2, none⟩ (.int .i64 X) = V2 at *
      subst hyx
      have HGX : Hid (V2.heap[g]? = some (.cells #[.int .i64 ii, .int .i64 iv, .int .i64 Y, .int .i64 ir] 23 (0, 0))) := HGW
      clear HGW
      obtain ⟨⟨c0, c1, c2, c3⟩, u0, u1⟩ := HS.out _ BW.out
      rcases cs2 with rfl | ⟨rfl, rfl⟩
      all_goals
        go_wp2_with (first
          | (go_at_call 14; have _t := u1; refine (H2.out _).mono ?_; rintro e w5 ⟨rfl, hb⟩; have BY := Lib.hid (BW.out.trans (hb.mono BW.out.size)); have hgy := old_obj hb HGX.out; have y0 := cell_of (j := 0) hgy rfl; have y1 := cell_of (j := 1) hgy rfl; have y2 := cell_of (j := 2) hgy rfl; have y3 := cell_of (j := 3) hgy rfl; clear hb hgy c0 c1 c2 c3 u0 u1; obtain ⟨⟨_, _, _, _⟩, u0, _⟩ := HS.out _ BY.out)
          | (go_at_call 14; refine (H3.out _).mono ?_; rintro e w6 ⟨rfl, hb⟩; have BY := Lib.hid (BY.out.trans (hb.mono BY.out.size)); clear hb)
          | (go_at_call 18; refine (H4.out _).mono ?_; rintro e w7 ⟨rfl, hb⟩; have BY := Lib.hid (BY.out.trans (hb.mono BY.out.size)); clear hb))
        go_ret
        exact ⟨by first | rfl | simp, HB0.out.trans (BY.out.mono HB0.out.size)⟩
    · go_upto_region 6 with fail
      have BW := BG
      have HGX := HG
      clear BG HG hX c0 c1 c2 c3 u0 u1 f0 f1 f2 f3 g0 g1 g2 g3
      subst hyx
      obtain ⟨⟨c0, c1, c2, c3⟩, u0, u1⟩ := HS.out _ BW.out
      rcases cs2 with rfl | ⟨rfl, rfl⟩
      all_goals
        go_wp2_with (first
          | (go_at_call 14; have _t := u1; refine (H2.out _).mono ?_; rintro e w5 ⟨rfl, hb⟩; have BY := Lib.hid (BW.out.trans (hb.mono BW.out.size)); have hgy := old_obj hb HGX.out; have y0 := cell_of (j := 0) hgy rfl; have y1 := cell_of (j := 1) hgy rfl; have y2 := cell_of (j := 2) hgy rfl; have y3 := cell_of (j := 3) hgy rfl; clear hb hgy c0 c1 c2 c3 u0 u1; obtain ⟨⟨_, _, _, _⟩, u0, _⟩ := HS.out _ BY.out)
          | (go_at_call 14; refine (H3.out _).mono ?_; rintro e w6 ⟨rfl, hb⟩; have BY := Lib.hid (BY.out.trans (hb.mono BY.out.size)); clear hb)
          | (go_at_call 18; refine (H4.out _).mono ?_; rintro e w7 ⟨rfl, hb⟩; have BY := Lib.hid (BY.out.trans (hb.mono BY.out.size)); clear hb))
        go_ret
        exact ⟨by first | rfl | simp, HB0.out.trans (BY.out.mono HB0.out.size)⟩
end Go.Proofs.Ytcllgpblebkpdaa
