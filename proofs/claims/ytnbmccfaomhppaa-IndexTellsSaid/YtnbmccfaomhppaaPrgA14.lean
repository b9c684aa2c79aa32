/- The program's Check of an index, for every index and in every world. -/
import Derived.Test.YtnbmccfaomhppaaRow
import Derived.Test.YtnbmccfaomhppaaWant14
namespace Go.Proofs.Ytnbmccfaomhppaa
open Go.RowKit

theorem sum_step {I : List (List Int)} {i : Nat} (h : i < I.length) : sumK (I.take (i + 1)) = sumK (I.take i) + (numsAt I i).length := by
  induction i generalizing I with
  | zero =>
    match I, h with
    | l :: I, _ => simp [sumK, numsAt]
  | succ i ih =>
    match I, h with
    | l :: I, h =>
      have := ih (I := I) (by simpa using h)
      unfold sumK at this ⊢
      rw [List.take_succ_cons, List.take_succ_cons, List.map_cons, List.map_cons, List.sum_cons, List.sum_cons, this]
      show _ = _ + (numsAt I i).length
      omega
theorem ok_bad {K : List (List UInt8)} {I : List (List Int)} (h : ¬ fineK K I ∨ 2000 < sumK I) (E : Int) : okE (pairsO K I) E = 40 := by
  have : pairsO K I = false := by
    unfold pairsO
    exact decide_eq_false fun q => by
      rcases h with h | h
      · exact h q.1
      · omega
  unfold okE
  rw [this]
  rfl
theorem ok_good {K : List (List UInt8)} {I : List (List Int)} (h : fineK K I) (hs : sumK I ≤ 2000) (E : Int) : okE (pairsO K I) E = E := by
  have : pairsO K I = true := by
    rw [(pairs_fine h).2]
    exact decide_eq_true hs
  unfold okE
  rw [this]
  rfl
set_option maxHeartbeats 4000000 in
theorem pcheck14_any (ka : Option Addr) (kc : Nat) (ia : Option Addr) (ic : Nat) (K : List (List UInt8)) (I : List (List Int)) (w : World) (hx : IxV w ka kc ia ic K I) (hs : Small14 K I) :
    Calls Try.prog 10 #[ixVal ka kc ia ic K I] w fun e w' => e = .returned (.int .i64 (okE (pairsO K I) 0)) ∧ Below w.heap.size w w' := by
  have A0 := At14.start hx
  have hrow := row_any ka kc (K.map tx) _ (by simp; have := hs.1; omega) (texts_txs A0.ix.keys)
  rw [List.length_map] at hrow
  have HB := Lib.hid A0
  obtain ⟨_, c0, c1⟩ := A0.box
  have HS := Lib.hid hs
  clear hx hs A0
  by_cases hr : ¬ rowOf (K.map tx) = 0
  · have d1 : (rowOf (K.map tx) != 0) = true := by rw [bne_iff_ne]; exact hr
    have HV := Lib.hid (ok_bad (K := K) (I := I) (Or.inl fun h => hr h.1) 0)
    clear hr
    go_enter Try.func10, Try.ntmps10
    go_wp2_with (go_at_call 25; refine hrow.mono ?_; rintro e w1 ⟨rfl, hb⟩; have B1 := Lib.hid (HB.out.step hb); obtain ⟨_, f0, f1⟩ := B1.out.box; clear hb)
    go_ret
    exact ⟨by rw [HV.out]; rfl, B1.out.below⟩
  have hr := Decidable.not_not.1 hr
  have d1 : (rowOf (K.map tx) != 0) = false := by rw [hr]; rfl
  by_cases hlen : ¬ K.length = I.length
  · have d2 : ((I.length : Int) != (K.length : Int)) = true := by rw [bne_iff_ne]; omega
    have HV := Lib.hid (ok_bad (K := K) (I := I) (Or.inl fun h => hlen h.2.1) 0)
    clear hr hlen
    go_enter Try.func10, Try.ntmps10
    go_wp2_with (go_at_call 25; refine hrow.mono ?_; rintro e w1 ⟨rfl, hb⟩; have B1 := Lib.hid (HB.out.step hb); obtain ⟨_, f0, f1⟩ := B1.out.box; clear hb)
    go_ret
    exact ⟨by rw [HV.out]; rfl, B1.out.below⟩
  have hlen := Decidable.not_not.1 hlen
  have d2 : ((I.length : Int) != (K.length : Int)) = false := by rw [hlen]; simp
  have HR := Lib.hid hr
  have HN := Lib.hid hlen
  clear hr hlen
  go_enter Try.func10, Try.ntmps10
  go_upto_region 5 with (go_at_call 25; refine hrow.mono ?_; rintro e w1 ⟨rfl, hb⟩; have B1 := Lib.hid (HB.out.step hb); obtain ⟨_, f0, f1⟩ := B1.out.box; clear hb hrow)
  go_loopw [3, 22] (fun s3 s22 wr => ∃ (i : Nat) (R : Int), s3 = .int .i64 R ∧ s22 = .int .i64 i ∧ i ≤ I.length ∧ Hid (R = 2000 - (sumK (I.take i) : Nat)) ∧ Hid (sumK (I.take i) ≤ 2000) ∧ Hid (At14 w wr ka kc ia ic K I) ∧ Hid (∀ j, j < i → numsAt I j ≠ [] ∧ risingE (numsAt I j) = 0)) (fun _ i _ => I.length + 1 - (intOf i).toNat)
  case atStart => exact ⟨0, 2000, rfl, rfl, by omega, Lib.hid (by simp [sumK]), Lib.hid (by simp [sumK]), B1, Lib.hid fun j hj => absurd hj (by omega)⟩
  case round =>
    obtain ⟨i, R, rfl, rfl, hi, HRR, HRL, HA, HG⟩ := hrel
    by_cases hlt : i < I.length
    · have i1 : (i : Int) < (I.length : Int) := by omega
      have i3 : (0 : Int) ≤ (i : Int) := by omega
      obtain ⟨ib, ioff, ei, hib, aj, cj, cI, _, hnt⟩ := HA.out.ix.ids.at hlt
      have hil := HS.out.2.1
      have hLb := Nat.le_trans (sum_mem (numsAt_mem hlt)) HS.out.2.2
      have hstep := sum_step hlt
      have hbad2 : 2000 < sumK (I.take (i + 1)) → 2000 < sumK I := fun h => Nat.lt_of_lt_of_le h (sum_take I (i + 1))
      have hbadN : numsAt I i = [] → ¬ fineK K I := fun h0 h => (h.2.2 i hlt).1 h0
      have hbadE : ¬ risingE (numsAt I i) = 0 → ¬ fineK K I := fun hE h => hE (h.2.2 i hlt).2
      have hgood : numsAt I i ≠ [] → risingE (numsAt I i) = 0 → ∀ j, j < i + 1 → numsAt I j ≠ [] ∧ risingE (numsAt I j) = 0 := fun h0 hE j hj => by
        rcases (by omega : j < i ∨ j = i) with h | h
        · exact HG.out j h
        · rw [h]; exact ⟨h0, hE⟩
      obtain ⟨L, hL⟩ : ∃ L, numsAt I i = L := ⟨_, rfl⟩
      rw [hL] at cI hnt hLb hbadN hbadE hgood hstep
      have hris := prising_any aj cj L _ wr hnt (by omega)
      have iw : IntKind.i64.wrap (R - (L.length : Int)) = R - (L.length : Int) := IntWalk.i64_in _ (by have := HRR.out; have := HRL.out; omega)
      have hval : R - (L.length : Int) = 2000 - (sumK (I.take (i + 1)) : Nat) := by have := HRR.out; omega
      subst ei
      by_cases h0 : L = []
      · have e0 : (L.length : Int) = 0 := by rw [h0]; rfl
        have d3 : ((L.length : Int) == 0) = true := by rw [e0]; rfl
        have HV := Lib.hid (ok_bad (K := K) (I := I) (Or.inl (hbadN h0)) 0)
        clear h0 hris e0 hval hstep hbad2 hbadN hbadE hgood hnt hL
        go_wp2
        go_ret
        exact ⟨by rw [HV.out]; rfl, HA.out.below⟩
      have hpos : 0 < L.length := List.length_pos_iff.2 h0
      have d3 : ((L.length : Int) == 0) = false := by rw [beq_eq_false_iff_ne]; omega
      by_cases hneg : R - (L.length : Int) < 0
      · have d4 : decide (R - (L.length : Int) < 0) = true := decide_eq_true hneg
        have HV := Lib.hid (ok_bad (K := K) (I := I) (Or.inr (hbad2 (by omega))) 0)
        clear h0 hris hpos hneg hval hstep hbad2 hbadN hbadE hgood hnt hL
        go_wp2
        go_ret
        exact ⟨by rw [HV.out]; rfl, HA.out.below⟩
      have d4 : decide (R - (L.length : Int) < 0) = false := decide_eq_false hneg
      by_cases hE : ¬ risingE L = 0
      · have d5 : (risingE L != 0) = true := by rw [bne_iff_ne]; exact hE
        have HV := Lib.hid (ok_bad (K := K) (I := I) (Or.inl (hbadE hE)) 0)
        clear h0 hE hpos hneg hval hstep hbad2 hbadN hbadE hgood hnt hL
        go_wp2_with (go_at_call 26; refine hris.mono ?_; rintro e w2 ⟨rfl, q, rfl⟩)
        go_ret
        exact ⟨by rw [HV.out]; rfl, drawn_below HA.out.below _⟩
      have hE := Decidable.not_not.1 hE
      have d5 : (risingE L != 0) = false := by rw [hE]; rfl
      have HG2 := Lib.hid (hgood h0 hE)
      have HR2 := Lib.hid hval
      have HL2 : Hid (sumK (I.take (i + 1)) ≤ 2000) := Lib.hid (by omega)
      clear h0 hE hpos hneg hval hstep hbad2 hbadN hbadE hgood hnt hL
      go_wp2_with (go_at_call 26; refine hris.mono ?_; rintro e w2 ⟨rfl, q, rfl⟩)
      go_roundw
      case rel => exact ⟨i + 1, _, rfl, by first | rfl | go_num, by omega, HR2, HL2, Lib.hid (HA.out.step (drawn_below (Below.refl _ _) _)), HG2⟩
      case measure => first | (simp [intOf]; omega) | simp [intOf]
    · obtain rfl : i = I.length := by omega
      have HV : Hid (okE (pairsO K I) 0 = 0) := Lib.hid (ok_good ⟨HR.out, HN.out, HG.out⟩ (by have := HRL.out; rw [List.take_length] at this; exact this) 0)
      go_wp2
      go_ret
      exact ⟨by rw [HV.out]; rfl, HA.out.below⟩
end Go.Proofs.Ytnbmccfaomhppaa
