/- The walk of IndexWhole from what is wanted of the program's index. -/
import Derived.Test.YtnbmccfaomhppaaAdds14
import Derived.Deep.RegionWith
namespace Go.Proofs.Ytnbmccfaomhppaa
open Go.RowKit

/-- Of and under tell of each other. -/
theorem whole_two (P : List Pr) (s : List UInt8) (n : Int) : decide (n ∈ ofP P s) = decide (s ∈ underP P n) := by
  have : (n ∈ ofP P s) ↔ (s ∈ underP P n) := mem_ofP.trans mem_underP.symm
  by_cases h : n ∈ ofP P s
  · rw [decide_eq_true h, decide_eq_true (this.1 h)]
  · rw [decide_eq_false h, decide_eq_false fun q => h (this.2 q)]
/-- How many numbers the first keys have. -/
def sumTo14 (P : List Pr) (K : List (List UInt8)) : Nat → Nat
  | 0 => 0
  | k + 1 => sumTo14 P K k + (ofP P (rowAt K k)).length
theorem sumTo_take {K : List (List UInt8)} {I : List (List Int)} (h : Ix14 K I) : ∀ k, k ≤ K.length → sumTo14 (pairsK K I) K k = sumK (I.take k)
  | 0, _ => by simp [sumTo14, sumK]
  | k + 1, hk => by
    have ih := sumTo_take h k (by omega)
    have hl := h.len
    unfold sumTo14
    rw [ih, h.of (by omega)]
    have hg := numsAt_get I k (by omega)
    unfold sumK
    rw [List.take_add_one, hg]
    simp
theorem whole_sum {K : List (List UInt8)} {I : List (List Int)} (h : fineK K I) : sumTo14 (pairsV K I) K K.length = (pairsV K I).length := by
  have hx := fine_ix h
  rw [(pairs_fine h).1, sumTo_take hx K.length (Nat.le_refl _), List.take_of_length_le (by have := hx.len; omega), len_pairsK hx.len]
theorem mem_more {α : Type} (l : List α) (k : Nat) (x y : α) [Decidable (y ∈ l.take (k + 1))] [Decidable (y ∈ l.take k)] [Decidable (x = y)] (hx : l[k]? = some x) : decide (y ∈ l.take (k + 1)) = (decide (y ∈ l.take k) || decide (x = y)) := by
  have e : l.take (k + 1) = l.take k ++ [x] := by rw [List.take_add_one, hx]; rfl
  have hm : y ∈ l.take (k + 1) ↔ y ∈ l.take k ∨ x = y := by
    rw [e, List.mem_append, List.mem_singleton]
    exact ⟨fun h => h.imp id fun q => q.symm, fun h => h.imp id fun q => q.symm⟩
  by_cases h1 : y ∈ l.take k
  · rw [decide_eq_true h1, decide_eq_true (hm.2 (Or.inl h1))]; rfl
  · by_cases h2 : x = y
    · rw [decide_eq_true h2, decide_eq_true (hm.2 (Or.inr h2)), Bool.or_true]
    · rw [decide_eq_false h1, decide_eq_false h2, decide_eq_false fun q => (hm.1 q).elim h1 h2]; rfl
theorem sumTo_succ (P : List Pr) (K : List (List UInt8)) (k : Nat) : sumTo14 P K (k + 1) = sumTo14 P K k + (ofP P (rowAt K k)).length := rfl
theorem sumTo_le (P : List Pr) (K : List (List UInt8)) (k : Nat) : sumTo14 P K k ≤ k * P.length := by
  induction k with
  | zero => simp [sumTo14]
  | succ k ih =>
    unfold sumTo14
    have := of_len P (rowAt K k)
    rw [Nat.succ_mul]
    omega
set_option maxRecDepth 100000 in
set_option maxHeartbeats 8000000 in
theorem indexWhole_main (H : Index14) (HA : Wakes14) (w : World) (ka : Option Addr) (kc : Nat) (ia : Option Addr) (ic : Nat) (K : List (List UInt8)) (I : List (List Int)) (hx : IxV w ka kc ia ic K I) (s : List UInt8) (n : Int) (hfew : fewX K I = true) (hs : ¬ 100 < (tx s).size) (hok : pairsO K I = true) :
    Calls Try.prog 6 #[ixVal ka kc ia ic K I, .string (tx s), .int .i64 n] w fun e w' => e = .returned (.bool true) ∧ Below w.heap.size w w' := by
  have HW := Lib.hid HA
  have A0 := At14.start hx
  have HF := Lib.hid (few14_any ka kc ia ic K I _ A0.ix)
  rw [hfew] at HF
  have HB := Lib.hid A0
  obtain ⟨_, c0, c1⟩ := A0.box
  clear hx A0
  have e1 : decide (100 < ((tx s).size : Int)) = false := decide_eq_false (by omega)
  have e1' : decide (100 < (tx s).size) = false := decide_eq_false hs
  have hsm := few_small hfew
  have hfine : fineK K I := (of_decide_eq_true hok).1
  have hsum := whole_sum hfine
  have hpl : (pairsV K I).length ≤ 600000 := by
    rw [(pairs_fine hfine).1, len_pairsK hfine.2.1]; exact hsm.2.2
  have HC : Hid (∀ W, At14 w W ka kc ia ic K I → Calls Try.prog 10 #[ixVal ka kc ia ic K I] W fun e w' => e = .returned (.int .i64 (okE (pairsO K I) 0)) ∧ Below W.heap.size W w') := Lib.hid fun W hW => H.check ka kc ia ic K I W hW.ix hsm
  have HN : Hid (∀ W, At14 w W ka kc ia ic K I → Calls Try.prog 13 #[ixVal ka kc ia ic K I] W fun e w' => e = .returned (.int .i64 (okL (pairsO K I) (pairsV K I)).length) ∧ Below W.heap.size W w') := Lib.hid fun W hW => H.count ka kc ia ic K I W hW.ix hsm
  have HO : Hid (∀ W s, At14 w W ka kc ia ic K I → Calls Try.prog 11 #[ixVal ka kc ia ic K I, .string (tx s)] W fun e w' => ∃ a c, e = .returned (.slice a (okL (pairsO K I) (ofP (pairsV K I) s)).length c) ∧ Ints w'.heap.size w' a (okL (pairsO K I) (ofP (pairsV K I) s)) ∧ Below W.heap.size W w') := Lib.hid fun W s hW => H.of ka kc ia ic K I s W hW.ix hsm
  have HU : Hid (∀ W, At14 w W ka kc ia ic K I → Calls Try.prog 12 #[ixVal ka kc ia ic K I, .int .i64 n] W fun e w' => ∃ a c, e = .returned (.slice a (okL (pairsO K I) (underP (pairsV K I) n)).length c) ∧ Txs 0 w'.heap.size w' a (okL (pairsO K I) (underP (pairsV K I) n)) ∧ Below W.heap.size W w') := Lib.hid fun W hW => H.under ka kc ia ic K I n W hW.ix hsm
  have HL := Lib.hid hpl
  have hk100 := (few_sum hfew).1
  have htwo := whole_two (pairsV K I) s n
  rw [hok] at HC HN HO HU
  have o1 : ∀ E, okE true E = E := fun _ => rfl
  have o2 : ∀ {α : Type} (l : List α), okL true l = l := fun _ => rfl
  simp only [o1, o2] at HC HN HO HU
  clear hfew hs hsm hpl H hok o1 o2 hfine
  generalize pairsV K I = P at *
  have LO := of_len P s
  have LU := under_len P n
  go_enter Try.func6, Try.ntmps6
  go_upto_region 3 with (first
    | (go_at_call 7; refine HF.out.mono ?_; rintro e w1 ⟨rfl, hb⟩; have B1 := Lib.hid (HB.out.step hb); obtain ⟨_, f0, f1⟩ := B1.out.box; clear hb)
    | (go_at_call 10; refine (HC.out _ B1.out).mono ?_; rintro e w2 ⟨rfl, hb⟩; have B2 := Lib.hid (B1.out.step hb); obtain ⟨_, g0, g1⟩ := B2.out.box; clear hb))
  go_cut [7, 8] (fun s7 s8 wx => ∃ (oa : Option Addr) (oc : Nat) (ua : Option Addr) (uc : Nat), s7 = .slice oa (ofP P s).length oc ∧ s8 = .slice ua (underP P n).length uc ∧ Hid (At14 w wx ka kc ia ic K I) ∧ Hid (Ints wx.heap.size wx oa (ofP P s)) ∧ Hid (Txs 0 wx.heap.size wx ua (underP P n)))
  case first =>
    have BD := Lib.hid (B2.out.step (Below.refl _ w2).drew)
    go_region_held3 (fun v => v.cell? ⟨w.heap.size, 0, none⟩ = some (.slice ka K.length kc) ∧ v.cell? ⟨w.heap.size, 1, none⟩ = some (.slice ia I.length ic)) (first | assumption | go_keep)
      (first
        | (go_at_call 11; refine (HO.out _ s BD.out).mono ?_; rintro e w3 ⟨oa, oc, rfl, ho, hb⟩; have BO := Lib.hid (BD.out.step hb); have HOo := Lib.hid ho; obtain ⟨_, h0, h1⟩ := BO.out.box; have hS3 := And.intro h0 h1; clear ho hb)
        | (go_at_call 12; refine (HU.out _ BO.out).mono ?_; rintro e w4 ⟨ua, uc, rfl, hu, hb⟩; have BE := Lib.hid (BO.out.step hb); have HOu := Lib.hid (And.intro (HOo.out.step hb) hu); obtain ⟨_, i0, i1⟩ := BE.out.box; have hS4 := And.intro i0 i1; clear hu hb)
        | (go_at_call 12; refine (HU.out _ BD.out).mono ?_; rintro e w3 ⟨ua, uc, rfl, hu, hb⟩; have BO2 := Lib.hid (BD.out.step hb); have HUu := Lib.hid hu; obtain ⟨_, h0, h1⟩ := BO2.out.box; have hS3 := And.intro h0 h1; clear hu hb)
        | (go_at_call 11; refine (HO.out _ s BO2.out).mono ?_; rintro e w4 ⟨oa, oc, rfl, ho, hb⟩; have BE := Lib.hid (BO2.out.step hb); have HOu := Lib.hid (And.intro ho (HUu.out.step hb)); obtain ⟨_, i0, i1⟩ := BE.out.box; have hS4 := And.intro i0 i1; clear ho hb))
    all_goals (
      go_wp2_with fail
      go_meet
      exact ⟨oa, oc, ua, uc, rfl, rfl, BE, Lib.hid HOu.out.1, Lib.hid HOu.out.2⟩)
  case rest =>
    obtain ⟨oa, oc, ua, uc, rfl, rfl, BE, HOo, HUu⟩ := hcut
    have HTwo := Lib.hid htwo
    have HSum := Lib.hid hsum
    have HLO := Lib.hid (And.intro LO LU)
    clear htwo hsum LO LU HU
    obtain ⟨O, hO⟩ : ∃ O, ofP P s = O := ⟨_, rfl⟩
    obtain ⟨U, hU⟩ : ∃ U, underP P n = U := ⟨_, rfl⟩
    rw [hO, hU] at HTwo HLO
    have hOL : O.length ≤ 600000 := Nat.le_trans HLO.out.1 HL.out
    have hUL : U.length ≤ 600000 := Nat.le_trans HLO.out.2 HL.out
    rw [hO] at HOo ⊢
    rw [hU] at HUu ⊢
    clear hO hU
    obtain ⟨_, x0, x1⟩ := BE.out.box
    go_upto_region 6 with fail
    go_loop [9, 11] (fun s9 s11 => ∃ (k : Nat) (B : Bool), s9 = .bool B ∧ s11 = .int .i64 k ∧ k ≤ O.length ∧ Hid (B = decide (n ∈ O.take k))) (fun _ i => O.length + 1 - (intOf i).toNat)
    case atStart => exact ⟨0, false, rfl, rfl, by omega, Lib.hid (by simp)⟩
    case round =>
      obtain ⟨k, B, rfl, rfl, hk, HBd⟩ := hrel
      by_cases hlt : k < O.length
      · have i1 : (k : Int) < (O.length : Int) := by omega
        have i3 : (0 : Int) ≤ (k : Int) := by omega
        obtain ⟨ob, ooff, eo, cO⟩ := ints_at14 HOo.out hlt
        subst eo
        have hg : O[k]? = some (numAt O k) := by
          unfold numAt
          rw [List.getElem?_eq_getElem hlt, List.getD_eq_getElem?_getD, List.getElem?_eq_getElem hlt]
          rfl
        have hm := Lib.hid (mem_more O k (numAt O k) n hg)
        generalize numAt O k = y at *
        have hd := HBd.out.symm
        cases B with
        | true =>
          have HN2 : Hid (decide (n ∈ O.take (k + 1)) = true) := Lib.hid (by rw [hm.out, hd]; rfl)
          clear hd hg
          go_wp2
          go_round
          case rel => exact ⟨k + 1, _, rfl, by first | rfl | go_num, by omega, Lib.hid HN2.out.symm⟩
          case measure => first | (simp [intOf]; omega) | simp [intOf]
        | false =>
          by_cases hy : y = n
          · have d1 : (y == n) = true := by rw [hy]; simp
            have HN2 : Hid (decide (n ∈ O.take (k + 1)) = true) := Lib.hid (by rw [hm.out, hd, decide_eq_true hy]; rfl)
            clear hd hg hy
            go_wp2
            go_round
            case rel => exact ⟨k + 1, _, rfl, by first | rfl | go_num, by omega, Lib.hid HN2.out.symm⟩
            case measure => first | (simp [intOf]; omega) | simp [intOf]
          · have d1 : (y == n) = false := beq_eq_false_iff_ne.2 hy
            have HN2 : Hid (decide (n ∈ O.take (k + 1)) = false) := Lib.hid (by rw [hm.out, hd, decide_eq_false hy]; rfl)
            clear hd hg hy
            go_wp2
            go_round
            case rel => exact ⟨k + 1, _, rfl, by first | rfl | go_num, by omega, Lib.hid HN2.out.symm⟩
            case measure => first | (simp [intOf]; omega) | simp [intOf]
      · obtain rfl : k = O.length := by omega
        have HA1 : Hid (B = decide (n ∈ O)) := Lib.hid (by rw [HBd.out, List.take_length])
        clear HBd
        go_upto_region 10 with fail
        go_loop [10, 12] (fun s9 s11 => ∃ (k : Nat) (B : Bool), s9 = .bool B ∧ s11 = .int .i64 k ∧ k ≤ U.length ∧ Hid (B = decide (s ∈ U.take k))) (fun _ i => U.length + 1 - (intOf i).toNat)
        case atStart => exact ⟨0, false, rfl, rfl, by omega, Lib.hid (by simp)⟩
        case round =>
          obtain ⟨k, B2, rfl, rfl, hk2, HBd2⟩ := hrel
          by_cases hlt2 : k < U.length
          · have i1 : (k : Int) < (U.length : Int) := by omega
            have i3 : (0 : Int) ≤ (k : Int) := by omega
            obtain ⟨ub, uoff, eu, _, cU⟩ : ∃ ub uoff, ua = some ⟨ub, uoff, none⟩ ∧ ub < wc.heap.size ∧ wc.cell? ⟨ub, uoff + k, none⟩ = some (.string (tx (rowAt U k))) := by
              rcases HUu.out with h | ⟨b, off, ha, _, h2, hc⟩
              · exfalso; rw [h] at hlt2; simp at hlt2
              · exact ⟨b, off, ha, h2, hc k hlt2⟩
            subst eu
            have hg := rowAt_get U k hlt2
            have hm := Lib.hid (mem_more U k (rowAt U k) s hg)
            have hq := tx_beq (rowAt U k) s
            generalize rowAt U k = y at *
            have hd := HBd2.out.symm
            cases B2 with
            | true =>
              have HN2 : Hid (decide (s ∈ U.take (k + 1)) = true) := Lib.hid (by rw [hm.out, hd]; rfl)
              clear hd hg hq
              go_wp2
              go_round
              case rel => exact ⟨k + 1, _, rfl, by first | rfl | go_num, by omega, Lib.hid HN2.out.symm⟩
              case measure => first | (simp [intOf]; omega) | simp [intOf]
            | false =>
              by_cases hy : y = s
              · have d1 : ((tx y).toList == (tx s).toList) = true := by rw [hq, hy]; simp
                have HN2 : Hid (decide (s ∈ U.take (k + 1)) = true) := Lib.hid (by rw [hm.out, hd, decide_eq_true hy]; rfl)
                clear hd hg hy hq
                go_wp2
                go_round
                case rel => exact ⟨k + 1, _, rfl, by first | rfl | go_num, by omega, Lib.hid HN2.out.symm⟩
                case measure => first | (simp [intOf]; omega) | simp [intOf]
              · have d1 : ((tx y).toList == (tx s).toList) = false := by rw [hq]; exact beq_eq_false_iff_ne.2 hy
                have HN2 : Hid (decide (s ∈ U.take (k + 1)) = false) := Lib.hid (by rw [hm.out, hd, decide_eq_false hy]; rfl)
                clear hd hg hy hq
                go_wp2
                go_round
                case rel => exact ⟨k + 1, _, rfl, by first | rfl | go_num, by omega, Lib.hid HN2.out.symm⟩
                case measure => first | (simp [intOf]; omega) | simp [intOf]
          · obtain rfl : k = U.length := by omega
            have HA2 : Hid (B2 = B) := Lib.hid (by rw [HBd2.out, List.take_length, HA1.out, HTwo.out])
            clear HBd2
            obtain rfl := HA2.out
            go_upto_region 15 with fail
            clear x0 x1
            go_loopw [13, 14] (fun s13 s14 wr => ∃ k : Nat, s13 = .int .i64 (sumTo14 P K k : Nat) ∧ s14 = .int .i64 k ∧ k ≤ K.length ∧ Hid (At14 w wr ka kc ia ic K I)) (fun _ i _ => K.length + 1 - (intOf i).toNat)
            case atStart => exact ⟨0, rfl, rfl, by omega, BE⟩
            case round =>
              obtain ⟨k, rfl, rfl, hk3, M⟩ := hrel
              obtain ⟨_, x0, x1⟩ := M.out.box
              by_cases hlt3 : k < K.length
              · have i1 : (k : Int) < (K.length : Int) := by omega
                have i3 : (0 : Int) ≤ (k : Int) := by omega
                obtain ⟨kb, koff, ek, _, cK⟩ : ∃ kb koff, ka = some ⟨kb, koff, none⟩ ∧ kb < wr.heap.size ∧ wr.cell? ⟨kb, koff + k, none⟩ = some (.string (tx (rowAt K k))) := by
                  rcases M.out.ix.keys with h | ⟨b, off, ha, _, h2, hc⟩
                  · exfalso; rw [h] at hlt3; simp at hlt3
                  · exact ⟨b, off, ha, h2, hc k hlt3⟩
                subst ek
                have hb1 := sumTo_le P K k
                have hb2 := of_len P (rowAt K k)
                have hb3 : k * P.length ≤ 100 * 600000 := Nat.mul_le_mul (by omega) HL.out
                have hl := HL.out
                have i5 : IntKind.i64.wrap ((sumTo14 P K k : Int) + ((ofP P (rowAt K k)).length : Int)) = (sumTo14 P K k : Int) + ((ofP P (rowAt K k)).length : Int) := IntWalk.i64_in _ (by omega)
                have HS : Hid ((sumTo14 P K (k + 1) : Int) = (sumTo14 P K k : Int) + ((ofP P (rowAt K k)).length : Int)) := Lib.hid (by rw [sumTo_succ, Int.natCast_add])
                have hof := HO.out wr.drew (rowAt K k) (M.out.step (Below.refl _ wr).drew)
                clear hb1 hb2 hb3 hl
                generalize rowAt K k = y at *
                go_upto_region 17 with fail
                go_region_with (go_at_call 11; refine hof.mono ?_; rintro e w5 ⟨qa, qc, rfl, -, hb⟩; have M2 := Lib.hid (M.out.step ((Below.refl _ wr).drew.trans hb)); clear hb)
                all_goals (
                  go_wp2
                  go_roundw
                  case rel => exact ⟨k + 1, by rw [HS.out], by first | rfl | go_num, by omega, M2⟩
                  case measure => first | (simp [intOf]; omega) | simp [intOf])
              · obtain rfl : k = K.length := by omega
                have HE : Hid ((sumTo14 P K K.length : Int) = (P.length : Int)) := Lib.hid (by rw [HSum.out])
                rw [HE.out]
                go_wp2_with (first
                  | (go_at_call 13; refine (HN.out _ M.out).mono ?_; rintro e w6 ⟨rfl, hb⟩; have M2 := Lib.hid (M.out.step hb); clear hb)
                  | (go_at_call 8; refine (HW.out _).mono ?_; rintro e w7 ⟨rfl, hb⟩; have B7 := Lib.hid (M2.out.below.trans (hb.mono M2.out.below.size)); clear hb))
                go_ret
                exact ⟨by simp, B7.out⟩
set_option maxHeartbeats 4000000 in
theorem indexWhole_all (H : Index14) (HA : Wakes14) (w : World) (ka : Option Addr) (kc : Nat) (ia : Option Addr) (ic : Nat) (K : List (List UInt8)) (I : List (List Int)) (hx : IxV w ka kc ia ic K I) (s : List UInt8) (n : Int) :
    Calls Try.prog 6 #[ixVal ka kc ia ic K I, .string (tx s), .int .i64 n] w fun e w' => e = .returned (.bool true) ∧ Below w.heap.size w w' := by
  have HW := Lib.hid HA
  have A0 := At14.start hx
  have HF := Lib.hid (few14_any ka kc ia ic K I _ A0.ix)
  have HB := Lib.hid A0
  obtain ⟨_, c0, c1⟩ := A0.box
  clear A0
  by_cases hfew : ¬ fewX K I = true
  · rw [Bool.not_eq_true] at hfew
    rw [hfew] at HF
    clear hfew hx
    go_enter Try.func6, Try.ntmps6
    go_wp2_with (first
      | (go_at_call 7; refine HF.out.mono ?_; rintro e w1 ⟨rfl, hb⟩; have B1 := Lib.hid (HB.out.step hb); obtain ⟨_, f0, f1⟩ := B1.out.box; clear hb)
      | (go_at_call 8; refine (HW.out _).mono ?_; rintro e w2 ⟨rfl, hb⟩; have B2 := Lib.hid (B1.out.below.trans (hb.mono B1.out.below.size)); clear hb))
    go_ret
    exact ⟨rfl, B2.out⟩
  have hfew := Decidable.not_not.1 hfew
  rw [hfew] at HF
  by_cases hs : 100 < (tx s).size
  · have e1 : decide (100 < ((tx s).size : Int)) = true := decide_eq_true (by omega)
    have e1' : decide (100 < (tx s).size) = true := decide_eq_true hs
    clear hfew hs hx
    go_enter Try.func6, Try.ntmps6
    go_wp2_with (first
      | (go_at_call 7; refine HF.out.mono ?_; rintro e w1 ⟨rfl, hb⟩; have B1 := Lib.hid (HB.out.step hb); obtain ⟨_, f0, f1⟩ := B1.out.box; clear hb)
      | (go_at_call 8; refine (HW.out _).mono ?_; rintro e w2 ⟨rfl, hb⟩; have B2 := Lib.hid (B1.out.below.trans (hb.mono B1.out.below.size)); clear hb))
    go_ret
    exact ⟨rfl, B2.out⟩
  by_cases hok : ¬ pairsO K I = true
  · have hsm := few_small hfew
    rw [Bool.not_eq_true] at hok
    have HC : Hid (∀ W, At14 w W ka kc ia ic K I → Calls Try.prog 10 #[ixVal ka kc ia ic K I] W fun e w' => e = .returned (.int .i64 40) ∧ Below W.heap.size W w') := Lib.hid fun W hW => by
      have := H.check ka kc ia ic K I W hW.ix hsm
      rw [hok] at this
      exact this
    have e1 : decide (100 < ((tx s).size : Int)) = false := decide_eq_false (by omega)
    have e1' : decide (100 < (tx s).size) = false := decide_eq_false hs
    clear hfew hs hx hok hsm
    go_enter Try.func6, Try.ntmps6
    go_wp2_with (first
      | (go_at_call 7; refine HF.out.mono ?_; rintro e w1 ⟨rfl, hb⟩; have B1 := Lib.hid (HB.out.step hb); obtain ⟨_, f0, f1⟩ := B1.out.box; clear hb)
      | (go_at_call 10; refine (HC.out _ B1.out).mono ?_; rintro e w2 ⟨rfl, hb⟩; have B2 := Lib.hid (B1.out.step hb); clear hb)
      | (go_at_call 8; refine (HW.out _).mono ?_; rintro e w3 ⟨rfl, hb⟩; have B3 := Lib.hid (B2.out.below.trans (hb.mono B2.out.below.size)); clear hb))
    go_ret
    exact ⟨rfl, B3.out⟩
  exact indexWhole_main H HA w ka kc ia ic K I hx s n hfew hs (Decidable.not_not.1 hok)
end Go.Proofs.Ytnbmccfaomhppaa
