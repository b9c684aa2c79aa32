/- The walk of RuleOrder, from what is wanted of rule's functions. -/
import Derived.Test.YtkefbgjbgblalaaWake18
namespace Go.Proofs.Ytkefbgjbgblalaa
open Go.RowKit

theorem sl_row18 : Try.prog.underlying 36 = some (.slice (Try.prog.elem 36)) := by kernel_rfl
theorem sz_row18 (w : World) : (Go.sizeOf (Try.prog.elem 36)).run Try.prog w = .ok 5 w := by
  have e : Try.prog.elem 36 = 23 := by kernel_rfl
  rw [e]
  exact Try.sizeOf23 w
theorem infoRow18 : (Try.prog.info? 23).map (fun i => (i.zero, i.size, i.bytes)) = some (some (.agg #[.int .i64 0, .int .i64 0, .int .i64 0, .int .i64 0, .int .i64 0]), 5, 40) := by kernel_rfl
theorem rows_drop18 {l : List Row18} (p : Nat) : (rowElt.cells l).drop (p * 5) = rowElt.cells (l.drop p) := (rowElt.cells_split18 l p).2
/-- An empty row of the call's own. -/
theorem empty_own18 (w : World) (e : TypeId) : (w.alloc (.cells #[] e)).ownsRow w.heap.size e 5 (.slice (some ⟨w.heap.size, 0, none⟩) 0 0) 0 [] :=
  ⟨rfl, Or.inr ⟨w.heap.size, 0, #[], rfl, Nat.le_refl _, heap_alloc_new w _, Nat.le_refl _, Nat.zero_le _, rfl, rfl⟩⟩
/-- Behind an append. -/
theorem below_app18 {B : Nat} {w w2 w3 : World} {e : TypeId} {v : Value} {n : Nat} {cs : List Value} (h : Below B w w2) (ho : w2.ownsRow B e 5 v n cs) (hB : B ≤ w.heap.size) (hg : w2.grownBy w3 v.ownBlock) : Below B w w3 := by
  refine h.grown hg (Nat.le_trans hB h.size) fun k hk => ?_
  exact (ho.lt k hk).1
set_option maxRecDepth 100000 in
set_option maxHeartbeats 8000000 in
theorem ruleOrder_from (H : Rule18) (w : World) (a : Option Addr) (cap : Nat) (l : List Row18) (_ : l.length ≤ maxLen) (hx : RowsIn w.heap.size w a l) (hcap : l.length ≤ cap) (f : Fact18) (o : Int) :
    Calls Try.prog 6 #[.slice a l.length cap, factVal f, .int .i64 o] w fun e w' => e = .returned (.bool true) ∧ Below w.heap.size w w' := by
  obtain ⟨W0, hW0⟩ : ∃ W, W = w.alloc (.cells #[.int .i64 f.g, .bool f.v, .int .i64 f.n] 25) := ⟨_, rfl⟩
  have hb0 : Below w.heap.size w W0 := by rw [hW0]; exact lit16 w _
  have h1 := heap_alloc_new w (.cells #[.int .i64 f.g, .bool f.v, .int .i64 f.n] 25)
  rw [← hW0] at h1
  have HB0 := Lib.hid hb0
  have HAW : Hid (∀ W, Calls Try.prog 14 #[] W fun e w' => e = .returned (.bool true) ∧ Below W.heap.size W w') := Lib.hid fun W => awake18 H W
  by_cases hl : 100 < l.length
  · have e1 : decide (100 < (l.length : Int)) = true := decide_eq_true (by omega)
    have e1' : decide (100 < l.length) = true := decide_eq_true hl
    clear hl hx hcap h1 hb0
    obtain ⟨fg, fv, fn⟩ := f
    dsimp only at *
    go_enter Try.func6, Try.ntmps6
    go_upto_region 1 with fail
    rw [← hW0]
    clear hW0
    go_wp2_with (go_at_call 14; refine (HAW.out _).mono ?_; rintro e w2 ⟨rfl, hb⟩; have HB := Lib.hid (HB0.out.trans (hb.mono HB0.out.size)); clear hb)
    go_ret
    exact ⟨rfl, HB.out⟩
  have e1 : decide (100 < (l.length : Int)) = false := decide_eq_false (by omega)
  have e1' : decide (100 < l.length) = false := decide_eq_false hl
  have hn : l.length ≤ 1000000 := by omega
  have HX := Lib.hid (rowsIn_step hx hb0)
  have HS : Hid (∀ V, Below W0.heap.size W0 V → V.cell? ⟨w.heap.size, 0, none⟩ = some (.int .i64 f.g) ∧ V.cell? ⟨w.heap.size, 1, none⟩ = some (.bool f.v) ∧ V.cell? ⟨w.heap.size, 2, none⟩ = some (.int .i64 f.n)) := Lib.hid fun V hV => by
    have k1 := old_obj hV h1
    exact ⟨cell_of (j := 0) k1 rfl, cell_of (j := 1) k1 rfl, cell_of (j := 2) k1 rfl⟩
  have H1 : Hid (∀ W, Below W0.heap.size W0 W → Calls Try.prog 15 #[.slice a l.length cap, factVal f] W fun e w' => e = .returned (.tuple #[.int .i64 (decWay l f), .int .i64 (decAt l f), .int .i64 (decE l f)]) ∧ Below W.heap.size W w') := Lib.hid fun W h => H.decide a cap l f W hcap (rowsIn_step HX.out h) hn
  obtain ⟨c0, c1, c2⟩ := HS.out W0 (Below.refl _ _)
  have hlt0 := obj_lt h1
  by_cases hE : decE l f ≠ 0
  · have b0 : (decE l f != 0) = true := by rw [bne_iff_ne]; exact hE
    clear hl hx hcap h1 hb0 hE H
    generalize decWay l f = x1 at *
    generalize decAt l f = x2 at *
    generalize decE l f = x3 at *
    obtain ⟨fg, fv, fn⟩ := f
    dsimp only at *
    go_enter Try.func6, Try.ntmps6
    go_upto_region 1 with fail
    rw [← hW0]
    clear hW0
    go_wp2_with (first
      | (go_at_call 15; refine (H1.out _ (Below.refl _ _)).mono ?_; rintro e w1 ⟨rfl, hb⟩; have BX := Lib.hid hb; clear hb)
      | (go_at_call 14; refine (HAW.out _).mono ?_; rintro e w2 ⟨rfl, hb⟩; have BY := Lib.hid (BX.out.trans (hb.mono BX.out.size)); clear hb))
    go_ret
    exact ⟨rfl, HB0.out.trans (BY.out.mono HB0.out.size)⟩
  have hE := Decidable.not_not.1 hE
  obtain ⟨hT, hF, i, hfi⟩ := dec_zero hE
  have hds := dec_some hT hF hfi
  have hil := (first_some hfi).1
  have hdt := dec_take hT hF hfi
  have HLS : Hid (∀ k, k < l.length → matchB (rowAt18 l k) f = false → decE (l.take k ++ l.drop (k + 1)) f = 0 ∧ decWay (l.take k ++ l.drop (k + 1)) f = (rowAt18 l i).way) := Lib.hid fun k hk hm => dec_less hT hF hfi hk hm
  rw [hds.1, hds.2.1, hds.2.2] at H1
  generalize hway : (rowAt18 l i).way = way at *
  have hlen1 : (l.take (i + 1)).length = i + 1 := by rw [List.length_take]; omega
  have H2 : Hid (∀ W, Below W0.heap.size W0 W → Calls Try.prog 15 #[.slice a (i + 1) cap, factVal f] W fun e w' => e = .returned (.tuple #[.int .i64 way, .int .i64 i, .int .i64 0]) ∧ Below W.heap.size W w') := Lib.hid fun W h => by
    have := H.decide a cap (l.take (i + 1)) f W (by omega) (rows_take18 (rowsIn_step HX.out h) (i + 1)) (by omega)
    rw [hlen1, hdt.1, hdt.2.1, hdt.2.2] at this
    exact this
  have HM : Hid (∀ r W, Calls Try.prog 12 #[rowVal r, factVal f] W fun e w' => e = .returned (.bool (matchB r f)) ∧ Below W.heap.size W w') := Lib.hid fun r W => H.fits r f W
  have H3 : Hid (∀ (k : Nat) (b : Option Addr) (c m : Nat) (W : World), k < l.length → matchB (rowAt18 l k) f = false → m = l.length - 1 → m ≤ c → RowsIn W.heap.size W b (l.take k ++ l.drop (k + 1)) → ∃ y, Calls Try.prog 15 #[.slice b m c, factVal f] W fun e w' => e = .returned (.tuple #[.int .i64 way, .int .i64 y, .int .i64 0]) ∧ Below W.heap.size W w') := Lib.hid fun k b c m W hk hm he hc h => by
    have hlen : (l.take k ++ l.drop (k + 1)).length = m := by rw [List.length_append, List.length_take, List.length_drop]; omega
    have := H.decide b c (l.take k ++ l.drop (k + 1)) f W (by omega) h (by omega)
    have h2 := HLS.out k hk hm
    rw [hlen, h2.1, h2.2] at this
    exact ⟨_, this⟩
  have hto := fun W => rowk_to sl_row18 sz_row18 a l.length cap (i + 1) (by omega) hcap W
  simp only [show ((i + 1 : Nat) : Int) = (i : Int) + 1 from rfl] at hto
  have i9 : IntKind.i64.wrap ((i : Int) + 1) = (i : Int) + 1 := IntWalk.i64_in _ (by omega)
  have d1 : decide ((i : Int) < 0) = false := decide_eq_false (by omega)
  have d2 : decide ((l.length : Int) ≤ (i : Int)) = false := decide_eq_false (by omega)
  have d2' : decide (l.length ≤ i) = false := decide_eq_false (by omega)
  have HI := Lib.hid hil
  have HCAP := Lib.hid hcap
  clear hl hx h1 hb0 H hE hT hF hfi hds hdt hlen1 HLS hway hil hcap
  obtain ⟨fg, fv, fn⟩ := f
  dsimp only at *
  go_enter Try.func6, Try.ntmps6
  go_upto_region 1 with fail
  rw [← hW0]
  clear hW0
  go_upto_region 8 with (go_at_call 15; refine (H1.out _ (Below.refl _ _)).mono ?_; rintro e w1 ⟨rfl, hb⟩; have BX := Lib.hid hb; clear hb)
  clear c0 c1 c2
  obtain ⟨c0, c1, c2⟩ := HS.out _ BX.out
  have BD := Lib.hid (BX.out.trans ((Below.refl w1.heap.size w1).drew.mono BX.out.size))
  have SX := Lib.hid (HS.out _ BD.out)
  go_cut [10, 11, 12] (fun s10 s11 s12 wx => s10 = .int .i64 way ∧ s11 = .int .i64 i ∧ s12 = .int .i64 0 ∧ Below W0.heap.size W0 wx)
  case first =>
    go_region_held3 (fun V => V.cell? ⟨w.heap.size, 0, none⟩ = some (.int .i64 fg) ∧ V.cell? ⟨w.heap.size, 1, none⟩ = some (.bool fv) ∧ V.cell? ⟨w.heap.size, 2, none⟩ = some (.int .i64 fn)) (first
      | exact SX.out
      | assumption) (first
      | (go_at_call 15; refine (H2.out _ BD.out).mono ?_; rintro e w2 ⟨rfl, hb⟩; have BX := Lib.hid (BD.out.trans (hb.mono BD.out.size)); have SX := Lib.hid (HS.out _ BX.out); clear hb)
      | fail)
    all_goals
      go_wp2
      go_meet
      exact ⟨rfl, rfl, rfl, BX.out⟩
  case rest =>
    obtain ⟨rfl, rfl, rfl, hb4⟩ := hcut
    have BC := Lib.hid hb4
    clear hb4 c0 c1 c2 BX BD SX
    go_upto_region 11 with fail
    by_cases ho : ¬ (0 ≤ o ∧ o < l.length)
    · have g12 : decide (o < 0) = true ∨ (decide (o < 0) = false ∧ decide ((l.length : Int) ≤ o) = true) := by
        by_cases q : o < 0
        · exact Or.inl (decide_eq_true q)
        · exact Or.inr ⟨decide_eq_false q, decide_eq_true (by omega)⟩
      clear ho H1 H2 H3 HM hto
      rcases g12 with g1 | ⟨g1, g2⟩
      all_goals
        go_quiet (fail)
        have BN := Lib.hid (drawn_below BC.out nq)
        go_wp2_with (go_at_call 14; refine (HAW.out _).mono ?_; rintro e w5 ⟨rfl, hb⟩; have BY := Lib.hid (BN.out.trans (hb.mono BN.out.size)); clear hb)
        go_ret
        exact ⟨rfl, HB0.out.trans (BY.out.mono HB0.out.size)⟩
    have ho := Decidable.not_not.1 ho
    obtain ⟨k, rfl⟩ : ∃ k : Nat, o = k := ⟨o.toNat, by omega⟩
    have hk : k < l.length := by omega
    have g1 : decide ((k : Int) < 0) = false := decide_eq_false (by omega)
    have g2 : decide ((l.length : Int) ≤ (k : Int)) = false := decide_eq_false (by omega)
    have g2' : decide (l.length ≤ k) = false := decide_eq_false (by omega)
    have i2 : (k : Int) < (l.length : Int) := by omega
    have i3 : (0 : Int) ≤ (k : Int) := by omega
    obtain ⟨b, off, rfl, hbb, c0, c1, c2, c3, c4⟩ := rows_at18 (rowsIn_step HX.out BC.out) hk
    obtain ⟨x0, xx1, xx2⟩ := HS.out _ BC.out
    have hfl : w.heap.size < wc.heap.size := Nat.lt_of_lt_of_le hlt0 BC.out.size
    have hm := HM.out (rowAt18 l k)
    have hd3 := fun b c m W => H3.out k b c m W hk
    have HD3 := Lib.hid hd3
    have HK := Lib.hid hk
    clear ho hk hd3 H1 H2 H3 HM hto d1 d2 d2' i9
    generalize hmb : matchB (rowAt18 l k) ⟨fg, fv, fn⟩ = mb at *
    generalize rowAt18 l k = r at *
    obtain ⟨rg, rv, rl, rh, rw⟩ := r
    dsimp only at *
    go_cut [76] (fun s76 wx => s76 = .bool mb ∧ Below wc.heap.size wc wx)
    case first =>
      go_region_held3 (fun v => (v.cell? ⟨b, off + k * 5, none⟩ = some (.int .i64 rg) ∧ v.cell? ⟨b, off + k * 5 + 1, none⟩ = some (.int .i64 rv) ∧ v.cell? ⟨b, off + k * 5 + 2, none⟩ = some (.int .i64 rl) ∧ v.cell? ⟨b, off + k * 5 + 3, none⟩ = some (.int .i64 rh) ∧ v.cell? ⟨b, off + k * 5 + 4, none⟩ = some (.int .i64 rw)) ∧ v.cell? ⟨w.heap.size, 0, none⟩ = some (.int .i64 fg) ∧ v.cell? ⟨w.heap.size, 1, none⟩ = some (.bool fv) ∧ v.cell? ⟨w.heap.size, 2, none⟩ = some (.int .i64 fn)) (first
        | exact ⟨⟨c0, c1, c2, c3, c4⟩, x0, xx1, xx2⟩
        | exact SX.out
        | go_keep) (first
        | (go_at_call 12; refine (hm _).mono ?_; rintro e w5 ⟨rfl, hb⟩; have SX := Lib.hid (And.intro (And.intro ((hb.cell (p := ⟨b, off + k * 5, none⟩) (World.block_lt_of_cell? wc _ c0)).trans c0) (And.intro ((hb.cell (p := ⟨b, off + k * 5 + 1, none⟩) (World.block_lt_of_cell? wc _ c1)).trans c1) (And.intro ((hb.cell (p := ⟨b, off + k * 5 + 2, none⟩) (World.block_lt_of_cell? wc _ c2)).trans c2) (And.intro ((hb.cell (p := ⟨b, off + k * 5 + 3, none⟩) (World.block_lt_of_cell? wc _ c3)).trans c3) ((hb.cell (p := ⟨b, off + k * 5 + 4, none⟩) (World.block_lt_of_cell? wc _ c4)).trans c4))))) (And.intro ((hb.cell (p := ⟨w.heap.size, 0, none⟩) hfl).trans x0) (And.intro ((hb.cell (p := ⟨w.heap.size, 1, none⟩) hfl).trans xx1) ((hb.cell (p := ⟨w.heap.size, 2, none⟩) hfl).trans xx2)))); have HBX := Lib.hid ((Below.refl _ wc).drew.trans hb); clear hb)
        | fail)
      all_goals
        go_wp2
        go_meet
        exact ⟨by first | rfl | simp, HBX.out⟩
    case rest =>
      obtain ⟨rfl, hbx⟩ := hcut
      have BE := Lib.hid (BC.out.trans (hbx.mono BC.out.size))
      clear hbx c0 c1 c2 c3 c4 x0 xx1 xx2 hm g1 g2 g2'
      cases mb with
      | true =>
        go_wp2_with (go_at_call 14; refine (HAW.out _).mono ?_; rintro e w6 ⟨rfl, hb⟩; have BY := Lib.hid (BE.out.trans (hb.mono BE.out.size)); clear hb)
        go_ret
        exact ⟨rfl, HB0.out.trans (BY.out.mono HB0.out.size)⟩
      | false =>
        have hkk := HK.out
        obtain ⟨a', hfrom, hdrop⟩ := rowk_from sl_row18 sz_row18 (some ⟨b, off, none⟩) l.length cap (k + 1) (by omega) HCAP.out
        have hto2 := fun W => rowk_to sl_row18 sz_row18 (some ⟨b, off, none⟩) l.length cap k (by omega) HCAP.out W
        simp only [show ((k + 1 : Nat) : Int) = (k : Int) + 1 from rfl] at hfrom
        have i8 : IntKind.i64.wrap ((k : Int) + 1) = (k : Int) + 1 := IntWalk.i64_in _ (by omega)
        have HXD := Lib.hid (rowsIn_step HX.out BE.out)
        have HT1 : Hid (∀ V, Below wc.heap.size wc V → Rw 0 wc.heap.size V (some ⟨b, off, none⟩) (rowElt.cells (l.take k))) := Lib.hid fun V hV => rows_take18 (Els.below HXD.out hV) k
        have HD1 : Hid (∀ V, Below wc.heap.size wc V → Rw 0 wc.heap.size V a' (rowElt.cells (l.drop (k + 1)))) := Lib.hid fun V hV => by
          have := hdrop 0 wc.heap.size V (rowElt.cells l) (rowElt.cells_len l) (Els.below HXD.out hV)
          rw [rows_drop18] at this
          exact this
        have HL1 : Hid ((rowElt.cells (l.take k)).length = k * 5) := Lib.hid (by rw [rowElt.cells_len, List.length_take, Nat.min_eq_left (by omega)]; rfl)
        have HL2 : Hid ((rowElt.cells (l.drop (k + 1))).length = (l.length - (k + 1)) * 5) := Lib.hid (by rw [rowElt.cells_len, List.length_drop]; rfl)
        have HSUM : Hid (0 + k + (l.length - (k + 1)) = l.length - 1) := Lib.hid (by omega)
        have hkn : k ≤ 100 ∧ l.length ≤ 100 := by simp at e1'; omega
        have HKN := Lib.hid hkn
        clear hdrop hkk hkn
        go_upto_region 13 with fail
        go_cut [13] (fun s13 wx => ∃ (q : Option Addr) (c : Nat), s13 = .slice q (l.length - 1) c ∧ Hid (l.length - 1 ≤ c ∧ RowsIn wx.heap.size wx q (l.take k ++ l.drop (k + 1)) ∧ Below wc.heap.size wc wx))
        case first =>
          go_region_held3 (fun _ => True) (trivial) (first
            | (refine step_append_rk (w := wc.drew.alloc (.cells #[] 23)) rfl _ _ (by decide) Try.underlying36 infoRow18 rfl rfl wc.heap.size 0 _ [] (rowElt.cells (l.take k)) rfl (empty_own18 wc.drew _) (some ⟨b, off, none⟩) k cap 0 wc.heap.size rfl HL1.out (HT1.out _ ((Below.refl _ wc).drew.alloc (Nat.le_refl _) _)) (rowElt.one_cell _) (by have := HKN.out; omega) (by decide) (by simp) ?_; intro v7 w7 ho7 hg7; have HO7 := Lib.hid ho7; have BA7 := Lib.hid (below_app18 (w := wc) ((Below.refl _ wc).drew.alloc (Nat.le_refl _) (.cells #[] 23)) (empty_own18 wc.drew _) (Nat.le_refl _) hg7); clear ho7 hg7)
            | (refine step_append_rk (w := w7) rfl _ _ (by decide) Try.underlying36 infoRow18 rfl rfl wc.heap.size (0 + k) v7 _ (rowElt.cells (l.drop (k + 1))) rfl HO7.out a' (l.length - (k + 1)) (cap - (k + 1)) 0 wc.heap.size rfl HL2.out (HD1.out _ BA7.out) (rowElt.one_cell _) (by have := HKN.out; omega) (by decide) BA7.out.size ?_; intro v8 w8 ho8 hg8; have HO8 := Lib.hid ho8; have BA8 := Lib.hid (below_app18 (w := wc) BA7.out HO7.out (Nat.le_refl _) hg8); clear ho8 hg8))
          all_goals
            have ho9 := HO8.out
            rw [HSUM.out, List.nil_append, ← rowElt.cells_append] at ho9
            obtain ⟨q, c, rfl, hqc, _, hq⟩ := rk_own ho9
            have HQ := Lib.hid (And.intro hqc (And.intro (Rw.wide hq (Nat.zero_le _) (Nat.le_refl _)) BA8.out))
            clear ho9 hqc hq
            go_wp2
            go_meet
            exact ⟨q, c, rfl, HQ⟩
        case rest =>
          obtain ⟨q, c, rfl, HQ⟩ := hcut
          have BF := Lib.hid (BE.out.trans (HQ.out.2.2.mono BE.out.size))
          obtain ⟨y, hdd⟩ := HD3.out q c (l.length - 1) wc rfl rfl HQ.out.1 HQ.out.2.1
          obtain ⟨x0, xx1, xx2⟩ := HS.out _ BF.out
          clear hto2 hfrom HT1 HD1 HL1 HL2 i8
          go_wp2_with (first
            | (go_at_call 15; refine hdd.mono ?_; rintro e w9 ⟨rfl, hb⟩; have BG := Lib.hid (BF.out.trans (hb.mono BF.out.size)); clear hb)
            | (go_at_call 14; refine (HAW.out _).mono ?_; rintro e w10 ⟨rfl, hb⟩; have BY := Lib.hid (BG.out.trans (hb.mono BG.out.size)); clear hb))
          go_ret
          exact ⟨by first | rfl | simp, HB0.out.trans (BY.out.mono HB0.out.size)⟩
end Go.Proofs.Ytkefbgjbgblalaa
