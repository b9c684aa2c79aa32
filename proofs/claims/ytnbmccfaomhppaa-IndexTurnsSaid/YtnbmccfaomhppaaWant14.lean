/- What the walks want of the program's index; and the walk of IndexTells from it. -/
import Derived.Test.YtnbmccfaomhppaaIxarg14
namespace Go.Proofs.Ytnbmccfaomhppaa
open Go.RowKit

/-- Bounds within which an index is asked. -/
def Small14 (K : List (List UInt8)) (I : List (List Int)) : Prop := K.length ≤ 5000 ∧ I.length ≤ 5000 ∧ sumK I ≤ 600000
def okE (ok : Bool) (E : Int) : Int := if ok = true then E else 40
def okL {α : Type} (ok : Bool) (l : List α) : List α := if ok = true then l else []
/-- What a call that makes an index tells: an index of just these pairs, or what is wrong. -/
def IxOut (w : World) (e : Ending) (w' : World) (E : Int) (l : List Pr) : Prop :=
  ∃ ka kc ia ic K I, e = .returned (.tuple #[ixVal ka kc ia ic K I, .int .i64 E]) ∧ IxV w' ka kc ia ic K I ∧ Lists w.heap.size w'.heap.size w' ia I ∧ Small14 K I ∧ (E = 0 → pairsO K I = true ∧ pairsV K I = l) ∧ (E ≠ 0 → K = []) ∧ Below w.heap.size w w'
structure Index14 : Prop where
  check : ∀ ka kc ia ic K I w, IxV w ka kc ia ic K I → Small14 K I → Calls Try.prog 10 #[ixVal ka kc ia ic K I] w fun e w' => e = .returned (.int .i64 (okE (pairsO K I) 0)) ∧ Below w.heap.size w w'
  count : ∀ ka kc ia ic K I w, IxV w ka kc ia ic K I → Small14 K I → Calls Try.prog 13 #[ixVal ka kc ia ic K I] w fun e w' => e = .returned (.int .i64 (okL (pairsO K I) (pairsV K I)).length) ∧ Below w.heap.size w w'
  of : ∀ ka kc ia ic K I s w, IxV w ka kc ia ic K I → Small14 K I → Calls Try.prog 11 #[ixVal ka kc ia ic K I, .string (tx s)] w fun e w' => ∃ a c, e = .returned (.slice a (okL (pairsO K I) (ofP (pairsV K I) s)).length c) ∧ Ints w'.heap.size w' a (okL (pairsO K I) (ofP (pairsV K I) s)) ∧ Below w.heap.size w w'
  under : ∀ ka kc ia ic K I n w, IxV w ka kc ia ic K I → Small14 K I → Calls Try.prog 12 #[ixVal ka kc ia ic K I, .int .i64 n] w fun e w' => ∃ a c, e = .returned (.slice a (okL (pairsO K I) (underP (pairsV K I) n)).length c) ∧ Txs 0 w'.heap.size w' a (okL (pairsO K I) (underP (pairsV K I) n)) ∧ Below w.heap.size w w'
  add : ∀ ka kc ia ic K I s b bc ns w, IxV w ka kc ia ic K I → Small14 K I → Ints w.heap.size w b ns → ns.length ≤ 1000 → Calls Try.prog 18 #[ixVal ka kc ia ic K I, .string (tx s), .slice b ns.length bc] w fun e w' => IxOut w e w' (okE (pairsO K I) (addsX s (pairsV K I) ns)) (addsL s (pairsV K I) ns)
  drop : ∀ ka kc ia ic K I s n w, IxV w ka kc ia ic K I → Small14 K I → Calls Try.prog 19 #[ixVal ka kc ia ic K I, .string (tx s), .int .i64 n] w fun e w' => IxOut w e w' (okE (pairsO K I) (dropE (pairsV K I) (s, n))) (dropP (pairsV K I) (s, n))
def Wakes14 : Prop := ∀ w, Calls Try.prog 8 #[] w fun e w' => e = .returned (.bool true) ∧ Below w.heap.size w w'
theorem few_small {K : List (List UInt8)} {I : List (List Int)} (h : fewX K I = true) : Small14 K I := by
  have := few_sum h
  exact ⟨by omega, by omega, by omega⟩
/-- Where a law's walk is: its index lies boxed, and its slices are there. -/
structure At14 (w W : World) (ka : Option Addr) (kc : Nat) (ia : Option Addr) (ic : Nat) (K : List (List UInt8)) (I : List (List Int)) : Prop where
  box : BoxI w W ka kc ia ic K I
  ix : IxV W ka kc ia ic K I
theorem At14.start {w : World} {ka : Option Addr} {kc : Nat} {ia : Option Addr} {ic : Nat} {K : List (List UInt8)} {I : List (List Int)} (h : IxV w ka kc ia ic K I) : At14 w (w.alloc (.cells #[.slice ka K.length kc, .slice ia I.length ic] 25)) ka kc ia ic K I :=
  ⟨boxI_start w ka kc ia ic K I, h.step (boxI_start w ka kc ia ic K I).1⟩
theorem At14.step {w W V : World} {ka : Option Addr} {kc : Nat} {ia : Option Addr} {ic : Nat} {K : List (List UInt8)} {I : List (List Int)} (h : At14 w W ka kc ia ic K I) (hb : Below W.heap.size W V) : At14 w V ka kc ia ic K I := ⟨h.box.step hb, h.ix.step hb⟩
theorem At14.below {w W : World} {ka : Option Addr} {kc : Nat} {ia : Option Addr} {ic : Nat} {K : List (List UInt8)} {I : List (List Int)} (h : At14 w W ka kc ia ic K I) : Below w.heap.size w W := h.box.1
theorem Prs.step {w w' : World} {a : Option Addr} {l : List Pr} (h : Prs 0 w.heap.size w a l) (hb : Below w.heap.size w w') : Prs 0 w'.heap.size w' a l := Rw.step h hb
theorem tells14_ints {w : World} (a b : Option Addr) (c d : Nat) (l : List Int) (hl : l.length ≤ 900000) (ha : Ints w.heap.size w a l) (hb : Ints w.heap.size w b l) :
    Calls Try.prog 14 #[.slice a l.length c, .slice b l.length d] w fun e w' => e = .returned (.bool true) ∧ Below w.heap.size w w' := by
  have := same_any a b c d l l w (by omega) ha hb
  rw [decide_eq_true rfl] at this
  exact this
set_option maxHeartbeats 4000000 in
theorem indexTells_main (H : Index14) (HA : Wakes14) (w : World) (ka : Option Addr) (kc : Nat) (ia : Option Addr) (ic : Nat) (K : List (List UInt8)) (I : List (List Int)) (hx : IxV w ka kc ia ic K I) (s : List UInt8) (n : Int) :
    Calls Try.prog 3 #[ixVal ka kc ia ic K I, .string (tx s), .int .i64 n] w fun e w' => e = .returned (.bool true) ∧ Below w.heap.size w w' := by
  have HW := Lib.hid HA
  have A0 := At14.start hx
  have HF := Lib.hid (few14_any ka kc ia ic K I _ A0.ix)
  have HB := Lib.hid A0
  obtain ⟨_, c0, c1⟩ := A0.box
  clear hx A0
  by_cases hfew : ¬ fewX K I = true
  · rw [Bool.not_eq_true] at hfew
    rw [hfew] at HF
    clear hfew
    go_enter Try.func3, Try.ntmps3
    go_wp2_with (first
      | (go_at_call 7; refine HF.out.mono ?_; rintro e w1 ⟨rfl, hb⟩; have B1 := Lib.hid (HB.out.step hb); clear hb)
      | (go_at_call 8; refine (HW.out _).mono ?_; rintro e w2 ⟨rfl, hb⟩; have B2 := Lib.hid (B1.out.below.trans (hb.mono B1.out.below.size)); clear hb))
    go_ret
    exact ⟨rfl, B2.out⟩
  have hfew := Decidable.not_not.1 hfew
  rw [hfew] at HF
  by_cases hs : 100 < (tx s).size
  · have e1 : decide (100 < ((tx s).size : Int)) = true := decide_eq_true (by omega)
    have e1' : decide (100 < (tx s).size) = true := decide_eq_true hs
    clear hfew hs
    go_enter Try.func3, Try.ntmps3
    go_wp2_with (first
      | (go_at_call 7; refine HF.out.mono ?_; rintro e w1 ⟨rfl, hb⟩; have B1 := Lib.hid (HB.out.step hb); clear hb)
      | (go_at_call 8; refine (HW.out _).mono ?_; rintro e w2 ⟨rfl, hb⟩; have B2 := Lib.hid (B1.out.below.trans (hb.mono B1.out.below.size)); clear hb))
    go_ret
    exact ⟨rfl, B2.out⟩
  have e1 : decide (100 < ((tx s).size : Int)) = false := decide_eq_false (by omega)
  have e1' : decide (100 < (tx s).size) = false := decide_eq_false hs
  have hsm := few_small hfew
  have HP : Hid (∀ W, At14 w W ka kc ia ic K I → Calls Try.prog 9 #[.slice ka K.length kc, .slice ia I.length ic] W fun e w' => ∃ a' c', e = .returned (.tuple #[.slice a' (pairsV K I).length c', .bool (pairsO K I)]) ∧ (pairsV K I).length ≤ c' ∧ Prs 0 w'.heap.size w' a' (pairsV K I) ∧ Below W.heap.size W w') := Lib.hid fun W hW => rpairs_any ka kc K ia ic I 0 W hW.ix.keys hW.ix.ids (by have := hsm.1; omega) hsm.2.2
  have HC : Hid (∀ W, At14 w W ka kc ia ic K I → Calls Try.prog 10 #[ixVal ka kc ia ic K I] W fun e w' => e = .returned (.int .i64 (okE (pairsO K I) 0)) ∧ Below W.heap.size W w') := Lib.hid fun W hW => H.check ka kc ia ic K I W hW.ix hsm
  have HN : Hid (∀ W, At14 w W ka kc ia ic K I → Calls Try.prog 13 #[ixVal ka kc ia ic K I] W fun e w' => e = .returned (.int .i64 (okL (pairsO K I) (pairsV K I)).length) ∧ Below W.heap.size W w') := Lib.hid fun W hW => H.count ka kc ia ic K I W hW.ix hsm
  have HO : Hid (∀ W, At14 w W ka kc ia ic K I → Calls Try.prog 11 #[ixVal ka kc ia ic K I, .string (tx s)] W fun e w' => ∃ a c, e = .returned (.slice a (okL (pairsO K I) (ofP (pairsV K I) s)).length c) ∧ Ints w'.heap.size w' a (okL (pairsO K I) (ofP (pairsV K I) s)) ∧ Below W.heap.size W w') := Lib.hid fun W hW => H.of ka kc ia ic K I s W hW.ix hsm
  have HU : Hid (∀ W, At14 w W ka kc ia ic K I → Calls Try.prog 12 #[ixVal ka kc ia ic K I, .int .i64 n] W fun e w' => ∃ a c, e = .returned (.slice a (okL (pairsO K I) (underP (pairsV K I) n)).length c) ∧ Txs 0 w'.heap.size w' a (okL (pairsO K I) (underP (pairsV K I) n)) ∧ Below W.heap.size W w') := Lib.hid fun W hW => H.under ka kc ia ic K I n W hW.ix hsm
  have hpl : (pairsV K I).length ≤ 600000 := by
    by_cases h : fineK K I
    · rw [(pairs_fine h).1, len_pairsK h.2.1]; exact hsm.2.2
    · rw [(pairs_bad h).1]; simp
  have HL := Lib.hid hpl
  clear hfew hs hsm hpl H
  generalize pairsV K I = P at *
  cases hok : pairsO K I with
  | false =>
    rw [hok] at HP HC HN HO HU
    unfold okE at HC
    unfold okL at HN HO HU
    simp only [Bool.false_eq_true, if_false, List.length_nil] at HC HN HO HU
    clear hok
    go_enter Try.func3, Try.ntmps3
    go_wp2_with (first
      | (go_at_call 7; refine HF.out.mono ?_; rintro e w1 ⟨rfl, hb⟩; have B1 := Lib.hid (HB.out.step hb); obtain ⟨_, f0, f1⟩ := B1.out.box; clear hb)
      | (go_at_call 9; refine (HP.out _ B1.out).mono ?_; rintro e w2 ⟨pa, pc, rfl, _, hp, hb⟩; have B2 := Lib.hid (B1.out.step hb); obtain ⟨_, g0, g1⟩ := B2.out.box; clear hb hp)
      | (go_at_call 10; refine (HC.out _ B2.out).mono ?_; rintro e w3 ⟨rfl, hb⟩; have B3 := Lib.hid (B2.out.step hb); obtain ⟨_, h0, h1⟩ := B3.out.box; clear hb)
      | (go_at_call 11; refine (HO.out _ B3.out).mono ?_; rintro e w4 ⟨oa, oc, rfl, _, hb⟩; have B4 := Lib.hid (B3.out.step hb); obtain ⟨_, i0, i1⟩ := B4.out.box; clear hb)
      | (go_at_call 12; refine (HU.out _ B4.out).mono ?_; rintro e w5 ⟨ua, uc, rfl, _, hb⟩; have B5 := Lib.hid (B4.out.step hb); obtain ⟨_, j0, j1⟩ := B5.out.box; clear hb)
      | (go_at_call 13; refine (HN.out _ B5.out).mono ?_; rintro e w6 ⟨rfl, hb⟩; have B6 := Lib.hid (B5.out.step hb); clear hb)
      | (go_at_call 8; refine (HW.out _).mono ?_; rintro e w7 ⟨rfl, hb⟩; have B7 := Lib.hid (B6.out.below.trans (hb.mono B6.out.below.size)); clear hb))
    go_ret
    exact ⟨rfl, B7.out⟩
  | true =>
    rw [hok] at HP HC HN HO HU
    unfold okE at HC
    unfold okL at HN HO HU
    simp only [if_true] at HC HN HO HU
    have RO : Hid (∀ (W : World) (a : Option Addr) (c : Nat), Prs 0 W.heap.size W a P → Calls Try.prog 15 #[.slice a P.length c, .string (tx s)] W fun e w' => ∃ a' c', e = .returned (.slice a' (ofP P s).length c') ∧ Ints w'.heap.size w' a' (ofP P s) ∧ Below W.heap.size W w') := Lib.hid fun W a c h => rof14_any a c P s 0 W h (by have := HL.out; omega)
    have RU : Hid (∀ (W : World) (a : Option Addr) (c : Nat), Prs 0 W.heap.size W a P → Calls Try.prog 17 #[.slice a P.length c, .int .i64 n] W fun e w' => Tells13 W e w' (underP P n)) := Lib.hid fun W a c h => runder14_any a c P n 0 W h (by have := HL.out; omega)
    have LO := of_len P s
    have LU := under_len P n
    have HLO : Hid ((ofP P s).length ≤ 900000 ∧ (underP P n).length ≤ 900000) := Lib.hid ⟨by have := HL.out; omega, by have := HL.out; omega⟩
    clear hok LO LU
    generalize ofP P s = O at *
    generalize underP P n = U at *
    go_enter Try.func3, Try.ntmps3
    go_wp2_with (first
      | (go_at_call 7; refine HF.out.mono ?_; rintro e w1 ⟨rfl, hb⟩; have B1 := Lib.hid (HB.out.step hb); obtain ⟨_, f0, f1⟩ := B1.out.box; clear hb)
      | (go_at_call 9; refine (HP.out _ B1.out).mono ?_; rintro e w2 ⟨pa, pc, rfl, _, hp, hb⟩; have B2 := Lib.hid (B1.out.step hb); have P2 := Lib.hid hp; obtain ⟨_, g0, g1⟩ := B2.out.box; clear hb hp)
      | (go_at_call 10; refine (HC.out _ B2.out).mono ?_; rintro e w3 ⟨rfl, hb⟩; have B3 := Lib.hid (B2.out.step hb); have P3 := Lib.hid (P2.out.step hb); obtain ⟨_, h0, h1⟩ := B3.out.box; clear hb)
      | (go_at_call 11; refine (HO.out _ B3.out).mono ?_; rintro e w4 ⟨oa, oc, rfl, ho, hb⟩; have B4 := Lib.hid (B3.out.step hb); have P4 := Lib.hid (P3.out.step hb); have O4 := Lib.hid ho; obtain ⟨_, i0, i1⟩ := B4.out.box; clear hb ho)
      | (go_at_call 15; refine (RO.out _ _ _ P4.out).mono ?_; rintro e w5 ⟨ra, rc, rfl, ho, hb⟩; have B5 := Lib.hid (B4.out.step hb); have P5 := Lib.hid (P4.out.step hb); have O5 := Lib.hid (And.intro (O4.out.step hb) ho); obtain ⟨_, j0, j1⟩ := B5.out.box; clear hb ho)
      | (go_at_call 14; refine (tells14_ints oa ra _ _ O HLO.out.1 O5.out.1 O5.out.2).mono ?_; rintro e w6 ⟨rfl, hb⟩; have B6 := Lib.hid (B5.out.step hb); have P6 := Lib.hid (P5.out.step hb); obtain ⟨_, k0, k1⟩ := B6.out.box; clear hb)
      | (go_at_call 12; refine (HU.out _ B6.out).mono ?_; rintro e w7 ⟨ua, uc, rfl, hu, hb⟩; have B7 := Lib.hid (B6.out.step hb); have P7 := Lib.hid (P6.out.step hb); have U7 := Lib.hid hu; obtain ⟨_, l0, l1⟩ := B7.out.box; clear hb hu)
      | (go_at_call 17; refine (RU.out _ _ _ P7.out).mono ?_; rintro e w8 ⟨va, vc, rfl, _, hu, hb⟩; have B8 := Lib.hid (B7.out.step hb); have U8 := Lib.hid (And.intro (U7.out.step hb) hu.open); obtain ⟨_, m0, m1⟩ := B8.out.box; clear hb hu)
      | (go_at_call 16; refine (same_txs ua va 0 0 _ _ _ _ U (by have := HLO.out.2; omega) _ U8.out.1 U8.out.2).mono ?_; rintro e w9 ⟨rfl, hb⟩; have B9 := Lib.hid (B8.out.step hb); obtain ⟨_, n0, n1⟩ := B9.out.box; clear hb)
      | (go_at_call 13; refine (HN.out _ B9.out).mono ?_; rintro e w10 ⟨rfl, hb⟩; have B10 := Lib.hid (B9.out.step hb); clear hb)
      | (go_at_call 8; refine (HW.out _).mono ?_; rintro e w11 ⟨rfl, hb⟩; have B11 := Lib.hid (B10.out.below.trans (hb.mono B10.out.below.size)); clear hb))
    go_ret
    exact ⟨by simp, B11.out⟩
end Go.Proofs.Ytnbmccfaomhppaa
