/- The walk of RowsLists. -/
import Derived.Test.YtnamoinedajoaaaFew13
namespace Go.Proofs.Ytnamoinedajoaaa
open Go.RowKit

theorem withL_len {α : Type} (l : List α) (p : Int) (v : α) : (withL l p v).length ≤ l.length + 1 := by
  unfold withL
  split
  · rw [with_len _ _ _ (by omega)]; omega
  · simp
theorem setL_len {α : Type} (l : List α) (p : Int) (v : α) : (setL l p v).length ≤ l.length := by
  unfold setL
  split
  · rw [List.length_set]; omega
  · simp
theorem lessL_len {α : Type} (l : List α) (p : Int) : (lessL l p).length ≤ l.length := by
  unfold lessL less13
  split
  · rw [List.length_append, List.length_take, List.length_drop]; omega
  · simp
theorem last_le {α : Type} (l : List α) (p : Int) : (last13 l p).length ≤ l.length := by
  unfold last13
  rw [List.length_drop]; omega
/-- Two lists of the same texts, as any world from here on has them. -/
def Pair13 (w : World) (W : World) (a b : Option Addr) (ys : List (List UInt8)) : Prop := Below w.heap.size w W ∧ Txs 0 W.heap.size W a ys ∧ Txs 0 W.heap.size W b ys
theorem sames_any (w W : World) (a b : Option Addr) (c d : Nat) (ys : List (List UInt8)) (hy : ys.length ≤ 1000) (hB : Below w.heap.size w W) (ha : Txs 0 W.heap.size W a ys) (hb : Txs 0 W.heap.size W b ys) :
    Calls Try.prog 19 #[.slice a ys.length c, .slice b ys.length d] W fun e w' => e = .returned (.bool true) ∧ Below W.heap.size W w' ∧ Below w.heap.size w w' := by
  refine (same_txs a b 0 0 _ _ c d ys (by omega) W ha hb).mono ?_
  rintro e w' ⟨rfl, h⟩
  exact ⟨rfl, h, hB.trans (h.mono hB.size)⟩
theorem gives_from {w W : World} {e : Ending} {w' : World} {ys : List (List UInt8)} {E : Int} (hB : Below w.heap.size w W) (h : Gives13 W e w' ys E) : ∃ a c, e = .returned (.tuple #[.slice a ys.length c, .int .i64 E]) ∧ ys.length ≤ c ∧ Txs 0 w'.heap.size w' a ys ∧ Below W.heap.size W w' ∧ Below w.heap.size w w' := by
  obtain ⟨a, c, rfl, hc, hT, hb⟩ := h
  exact ⟨a, c, rfl, hc, hT.open, hb, hB.trans (hb.mono hB.size)⟩
theorem tells_from {w W : World} {e : Ending} {w' : World} {ys : List (List UInt8)} (hB : Below w.heap.size w W) (h : Tells13 W e w' ys) : ∃ a c, e = .returned (.slice a ys.length c) ∧ ys.length ≤ c ∧ Txs 0 w'.heap.size w' a ys ∧ Below W.heap.size W w' ∧ Below w.heap.size w w' := by
  obtain ⟨a, c, rfl, hc, hT, hb⟩ := h
  exact ⟨a, c, rfl, hc, hT.open, hb, hB.trans (hb.mono hB.size)⟩
theorem awake_from {w W : World} (hB : Below w.heap.size w W) : Calls Try.prog 7 #[] W fun e w' => e = .returned (.bool true) ∧ Below w.heap.size w w' := by
  refine (awake13 W).mono ?_
  rintro e w' ⟨rfl, h⟩
  exact ⟨rfl, hB.trans (h.mono hB.size)⟩
set_option maxHeartbeats 4000000 in
theorem rowsLists_walk (w : World) (a : Option Addr) (cap : Nat) (xs : List (List UInt8)) (_ : xs.length ≤ maxLen) (hx : Txs 0 w.heap.size w a xs) (hcap : xs.length ≤ cap) (p : Int) (_ : (Lit.int .i64 p).wf = true) (s : ByteArray) (_ : s.size ≤ maxLen) :
    Calls Try.prog 4 #[.slice a xs.length cap, .int .i64 p, .string s] w fun e w' => e = .returned (.bool true) ∧ Below w.heap.size w w' := by
  have HF := Lib.hid (few13_any a cap xs 0 _ w hx)
  have HA := Lib.hid (awake13 w)
  by_cases hfew : few13B xs = true
  case neg =>
    rw [Bool.not_eq_true] at hfew
    rw [hfew] at HF
    clear hx hfew
    go_enter Try.func4, Try.ntmps4
    go_wp2_with (first
      | (go_at_call 12; refine HF.out.mono ?_; rintro e w1 ⟨rfl, rfl⟩)
      | (go_at_call 7; refine HA.out.mono ?_; rintro e w2 ⟨rfl, hb⟩; have HB := Lib.hid hb; clear hb))
    go_ret
    exact ⟨rfl, HB.out⟩
  rw [hfew] at HF
  have hlen := few_len hfew
  by_cases hs : 200 < s.size
  · have e1 : decide (200 < (s.size : Int)) = true := decide_eq_true (by omega)
    have e1' : decide (200 < s.size) = true := decide_eq_true hs
    clear hx hfew hs
    go_enter Try.func4, Try.ntmps4
    go_wp2_with (first
      | (go_at_call 12; refine HF.out.mono ?_; rintro e w1 ⟨rfl, rfl⟩)
      | (go_at_call 7; refine HA.out.mono ?_; rintro e w2 ⟨rfl, hb⟩; have HB := Lib.hid hb; clear hb))
    go_ret
    exact ⟨rfl, HB.out⟩
  · have e1 : decide (200 < (s.size : Int)) = false := decide_eq_false (by omega)
    have e1' : decide (200 < s.size) = false := decide_eq_false hs
    obtain ⟨v, rfl⟩ : ∃ v, s = tx v := ⟨s.data.toList, tx_of rfl⟩
    have HX : Hid (∀ W, Below w.heap.size w W → Txs 0 W.heap.size W a xs) := Lib.hid fun W hW => hx.step hW
    have P1 : Hid (∀ W, Below w.heap.size w W → Calls Try.prog 13 #[.slice a xs.length cap, .int .i64 p, .string (tx v)] W fun e w' => Gives13 W e w' (withL xs p v) (withE xs.length p)) := Lib.hid fun W hW => qwith_any a cap xs p v 0 W hcap (HX.out W hW) (by omega)
    have P2 : Hid (∀ W, Below w.heap.size w W → Calls Try.prog 14 #[.slice a xs.length cap, .int .i64 p, .string (tx v)] W fun e w' => Gives13 W e w' (withL xs p v) (withE xs.length p)) := Lib.hid fun W hW => rwith_any a cap xs p v 0 W (HX.out W hW) (by omega)
    have P3 : Hid (∀ W, Below w.heap.size w W → Calls Try.prog 15 #[.slice a xs.length cap, .int .i64 p, .string (tx v)] W fun e w' => Gives13 W e w' (setL xs p v) (hasE xs.length p)) := Lib.hid fun W hW => qset_any a cap xs p v 0 W hcap (HX.out W hW) (by omega)
    have P4 : Hid (∀ W, Below w.heap.size w W → Calls Try.prog 16 #[.slice a xs.length cap, .int .i64 p, .string (tx v)] W fun e w' => Gives13 W e w' (setL xs p v) (hasE xs.length p)) := Lib.hid fun W hW => rset_any a cap xs p v 0 W (HX.out W hW) (by omega)
    have P5 : Hid (∀ W, Below w.heap.size w W → Calls Try.prog 17 #[.slice a xs.length cap, .int .i64 p] W fun e w' => Gives13 W e w' (lessL xs p) (hasE xs.length p)) := Lib.hid fun W hW => qless_any a cap xs p 0 W hcap (HX.out W hW) (by omega)
    have P6 : Hid (∀ W, Below w.heap.size w W → Calls Try.prog 18 #[.slice a xs.length cap, .int .i64 p] W fun e w' => Gives13 W e w' (lessL xs p) (hasE xs.length p)) := Lib.hid fun W hW => rless_any a cap xs p 0 W (HX.out W hW) (by omega)
    have P7 : Hid (∀ W, Below w.heap.size w W → Calls Try.prog 20 #[.slice a xs.length cap, .int .i64 p] W fun e w' => Tells13 W e w' (last13 xs p)) := Lib.hid fun W hW => plast_any a cap xs p 0 W hcap (HX.out W hW) (by omega)
    have P8 : Hid (∀ W, Below w.heap.size w W → Calls Try.prog 21 #[.slice a xs.length cap, .int .i64 p] W fun e w' => Tells13 W e w' (last13 xs p)) := Lib.hid fun W hW => rlast_any a cap xs p 0 W (HX.out W hW) (by omega)
    have y1 := withL_len xs p v
    have y2 := setL_len xs p v
    have y3 := lessL_len xs p
    have y4 := last_le xs p
    clear hx hfew hs HA
    generalize withL xs p v = L1 at *
    generalize setL xs p v = L2 at *
    generalize lessL xs p = L3 at *
    generalize last13 xs p = L4 at *
    generalize withE xs.length p = E1 at *
    generalize hasE xs.length p = E2 at *
    generalize tx v = s at *
    have HY : Hid (L1.length ≤ 1000 ∧ L2.length ≤ 1000 ∧ L3.length ≤ 1000 ∧ L4.length ≤ 1000) := Lib.hid ⟨by omega, by omega, by omega, by omega⟩
    clear y1 y2 y3 y4 hlen HX hcap
    go_enter Try.func4, Try.ntmps4
    go_upto_region 4 with (first
      | (go_at_call 12; refine HF.out.mono ?_; rintro e w0 ⟨rfl, rfl⟩)
      | (go_at_call 13; refine (P1.out _ (Below.refl _ _)).mono ?_; intro e w1 h; obtain ⟨a1, c1, rfl, _, hT, _, hb⟩ := gives_from (Below.refl _ _) h; have T1 := Lib.hid hT; have B1 := Lib.hid hb; clear hT hb h P1))
    go_upto_region 5 with (go_at_call 14; refine (P2.out _ B1.out).mono ?_; intro e w2 h; obtain ⟨a2, c2, rfl, _, hT, hs, hb⟩ := gives_from B1.out h; have U1 := Lib.hid (T1.out.step hs); have T2 := Lib.hid hT; have B2 := Lib.hid hb; clear hT hb hs h P2 T1 B1)
    go_upto_region 6 with (go_at_call 15; refine (P3.out _ B2.out).mono ?_; intro e w3 h; obtain ⟨a3, c3, rfl, _, hT, hs, hb⟩ := gives_from B2.out h; have V1 := Lib.hid (And.intro (U1.out.step hs) (T2.out.step hs)); have T3 := Lib.hid hT; have B3 := Lib.hid hb; clear hT hb hs h P3 U1 T2 B2)
    go_upto_region 7 with (go_at_call 16; refine (P4.out _ B3.out).mono ?_; intro e w4 h; obtain ⟨a4, c4, rfl, _, hT, hs, hb⟩ := gives_from B3.out h; have V2 := Lib.hid (And.intro (V1.out.1.step hs) (V1.out.2.step hs)); have V3 := Lib.hid (And.intro (T3.out.step hs) hT); have B4 := Lib.hid hb; clear hT hb hs h P4 V1 T3 B3)
    go_upto_region 8 with (go_at_call 17; refine (P5.out _ B4.out).mono ?_; intro e w5 h; obtain ⟨a5, c5, rfl, _, hT, hs, hb⟩ := gives_from B4.out h; have W2 := Lib.hid (And.intro (V2.out.1.step hs) (V2.out.2.step hs)); have W3 := Lib.hid (And.intro (V3.out.1.step hs) (V3.out.2.step hs)); have T5 := Lib.hid hT; have B5 := Lib.hid hb; clear hT hb hs h P5 V2 V3 B4)
    go_upto_region 9 with (go_at_call 18; refine (P6.out _ B5.out).mono ?_; intro e w6 h; obtain ⟨a6, c6, rfl, _, hT, hs, hb⟩ := gives_from B5.out h; have X2 := Lib.hid (And.intro (W2.out.1.step hs) (W2.out.2.step hs)); have X3 := Lib.hid (And.intro (W3.out.1.step hs) (W3.out.2.step hs)); have X4 := Lib.hid (And.intro (T5.out.step hs) hT); have B6 := Lib.hid hb; clear hT hb hs h P6 W2 W3 T5 B5)
    go_wp2_with (first
      | (go_at_call 19; refine (sames_any w _ a1 a2 _ _ L1 HY.out.1 B6.out X2.out.1 X2.out.2).mono ?_; rintro e w7 ⟨rfl, hs, hb⟩; have Y3 := Lib.hid (And.intro (X3.out.1.step hs) (X3.out.2.step hs)); have Y4 := Lib.hid (And.intro (X4.out.1.step hs) (X4.out.2.step hs)); have B7 := Lib.hid hb; clear hb hs X2 X3 X4 B6)
      | (go_at_call 19; refine (sames_any w _ a3 a4 _ _ L2 HY.out.2.1 B7.out Y3.out.1 Y3.out.2).mono ?_; rintro e w8 ⟨rfl, hs, hb⟩; have Z4 := Lib.hid (And.intro (Y4.out.1.step hs) (Y4.out.2.step hs)); have B8 := Lib.hid hb; clear hb hs Y3 Y4 B7)
      | (go_at_call 19; refine (sames_any w _ a5 a6 _ _ L3 HY.out.2.2.1 B8.out Z4.out.1 Z4.out.2).mono ?_; rintro e w9 ⟨rfl, hs, hb⟩; have B9 := Lib.hid hb; clear hb hs Z4 B8)
      | (go_at_call 20; refine (P7.out _ B9.out).mono ?_; intro e w10 h; obtain ⟨a10, c10, rfl, _, hT, hs, hb⟩ := tells_from B9.out h; have T10 := Lib.hid hT; have B10 := Lib.hid hb; clear hT hb hs h P7 B9)
      | (go_at_call 21; refine (P8.out _ B10.out).mono ?_; intro e w11 h; obtain ⟨a11, c11, rfl, _, hT, hs, hb⟩ := tells_from B10.out h; have T11 := Lib.hid (And.intro (T10.out.step hs) hT); have B11 := Lib.hid hb; clear hT hb hs h P8 B10 T10)
      | (go_at_call 19; refine (sames_any w _ a10 a11 _ _ L4 HY.out.2.2.2 B11.out T11.out.1 T11.out.2).mono ?_; rintro e w12 ⟨rfl, hs, hb⟩; have B12 := Lib.hid hb; clear hb hs T11 B11)
      | (go_at_call 7; refine (awake_from B12.out).mono ?_; rintro e w13 ⟨rfl, hb⟩; have B13 := Lib.hid hb; clear hb))
    go_ret
    exact ⟨by simp, B13.out⟩
end Go.Proofs.Ytnamoinedajoaaa
