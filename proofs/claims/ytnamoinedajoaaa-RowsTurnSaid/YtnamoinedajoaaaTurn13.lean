/- The walk of RowsTurn. (Written by gen_turn13.py.) -/
import Derived.Test.YtnamoinedajoaaaLists13
namespace Go.Proofs.Ytnamoinedajoaaa
open Go.RowKit

theorem txs_at {A B : Nat} {w : World} {a : Option Addr} {xs : List (List UInt8)} (h : Txs A B w a xs) {k : Nat} (hk : k < xs.length) : ∃ b off, a = some ⟨b, off, none⟩ ∧ b < B ∧ w.cell? ⟨b, off + k, none⟩ = some (.string (tx (rowAt xs k))) := by
  rcases h with h | ⟨b, off, ha, _, hb, hc⟩
  · subst h; simp at hk
  · exact ⟨b, off, ha, hb, hc k hk⟩
theorem rowAt_some {xs : List (List UInt8)} {k : Nat} {v : List UInt8} (h : xs[k]? = some v) : rowAt xs k = v := by
  unfold rowAt
  rw [List.getD_eq_getElem?_getD, h]
  rfl
/-- With one more at a place, and without it again. -/
theorem turn_with {xs : List (List UInt8)} {q : Nat} (hq : q ≤ xs.length) (v : List UInt8) : (with13 xs q v).length = xs.length + 1 ∧ rowAt (with13 xs q v) q = v ∧ lessL (with13 xs q v) (q : Int) = xs ∧ hasE (with13 xs q v).length (q : Int) = 0 := by
  have h1 := with_len xs q v hq
  have h2 := less_ok (l := with13 xs q v) (p := q) (by omega)
  exact ⟨h1, rowAt_some (with_at xs q v hq), by rw [h2.1, with_less xs q v hq], h2.2⟩
theorem turn_set {xs : List (List UInt8)} {q : Nat} (hq : q < xs.length) (v : List UInt8) : (xs.set q v).length = xs.length ∧ rowAt (xs.set q v) q = v ∧ setL (xs.set q v) (q : Int) (rowAt xs q) = xs ∧ hasE (xs.set q v).length (q : Int) = 0 := by
  have h0 : (xs.set q v).length = xs.length := List.length_set
  have h2 := set_ok (l := xs.set q v) (p := q) (by omega) (rowAt xs q)
  refine ⟨h0, rowAt_some (by rw [List.getElem?_set_self hq]), by rw [h2.1, set_back xs q v _ (rowAt_get xs q hq)], h2.2⟩
theorem turn_last (xs : List (List UInt8)) (p : Int) : (last13 xs p).length ≤ xs.length ∧ xs.drop (xs.length - (last13 xs p).length) = last13 xs p := ⟨(last_len xs p).1, (last_len xs p).2.symm⟩

/-- What the law begins with. -/
structure Turn13 (w V : World) (a g0 : Option Addr) (xs : List (List UInt8)) : Prop where
  below : Below w.heap.size w V
  arg : Txs 0 V.heap.size V a xs
  was : Txs 0 V.heap.size V g0 xs
theorem Turn13.step {w V V' : World} {a g0 : Option Addr} {xs : List (List UInt8)} (h : Turn13 w V a g0 xs) (hb : Below V.heap.size V V') : Turn13 w V' a g0 xs :=
  ⟨h.below.trans (hb.mono h.below.size), h.arg.step hb, h.was.step hb⟩
theorem gives_on {w w' : World} {e : Ending} {ys : List (List UInt8)} {E : Int} {n : Nat} (hn : ys.length = n) (h : Gives13 w e w' ys E) : ∃ a c, e = .returned (.tuple #[.slice a n c, .int .i64 E]) ∧ n ≤ c ∧ Txs 0 w'.heap.size w' a ys ∧ Below w.heap.size w w' := by
  obtain ⟨a, c, rfl, hc, hT, hb⟩ := h
  subst hn
  exact ⟨a, c, rfl, hc, hT.open, hb⟩
theorem sames_on (W : World) (a b : Option Addr) (c d n : Nat) (ys : List (List UInt8)) (hn : ys.length = n) (hy : n ≤ 1000) (ha : Txs 0 W.heap.size W a ys) (hb : Txs 0 W.heap.size W b ys) :
    Calls Try.prog 19 #[.slice a n c, .slice b n d] W fun e w' => e = .returned (.bool true) ∧ Below W.heap.size W w' := by
  subst hn
  exact same_txs a b 0 0 _ _ c d ys (by omega) W ha hb
set_option maxHeartbeats 4000000 in
theorem turn_outside (w : World) (a : Option Addr) (cap : Nat) (xs : List (List UInt8)) (hx : Txs 0 w.heap.size w a xs) (hcap : xs.length ≤ cap) (p : Int) (hp : ¬ (0 ≤ p ∧ p ≤ xs.length)) (v : List UInt8) (hfew : few13B xs = true) (hs : ¬ 200 < (tx v).size) :
    Calls Try.prog 5 #[.slice a xs.length cap, .int .i64 p, .string (tx v)] w fun e w' => e = .returned (.bool true) ∧ Below w.heap.size w w' := by
  have hp2 : ¬ (0 ≤ p ∧ p < xs.length) := by omega
  have HF := Lib.hid (few13_any a cap xs 0 _ w hx)
  rw [hfew] at HF
  have hlen := few_len hfew
  have e1 : decide (200 < ((tx v).size : Int)) = false := decide_eq_false (by omega)
  have e1' : decide (200 < (tx v).size) = false := decide_eq_false hs
  have HC := Lib.hid hcap
  have i0 : IntKind.i64.wrap ((xs.length : Int) + 1) = (xs.length : Int) + 1 := IntWalk.i64_in _ (by omega)
  obtain ⟨l1, l2⟩ := turn_last xs p
  obtain ⟨d, hd⟩ : ∃ d, xs.length - (last13 xs p).length = d := ⟨_, rfl⟩
  rw [hd] at l2
  obtain ⟨ac, hcut, hac⟩ := row_from sl_tx sz_tx a xs.length cap d (by omega) hcap
  rw [show xs.length - d = (last13 xs p).length by omega] at hcut
  have i8 : IntKind.i64.wrap ((xs.length : Int) - ((last13 xs p).length : Int)) = (d : Int) := by rw [IntWalk.i64_in _ (by omega)]; omega
  have i9 : decide (((last13 xs p).length : Int) ≤ (xs.length : Int)) = true := decide_eq_true (by omega)
  have i9' : decide ((last13 xs p).length ≤ xs.length) = true := decide_eq_true l1
  have HCUT : Hid (∀ W, Txs 0 W.heap.size W a xs → Txs 0 W.heap.size W ac (last13 xs p)) := Lib.hid fun W hT => txs_rw.2 (by
    have := hac 0 W.heap.size W (txCells xs) (txCells_len xs) (txs_rw.1 hT)
    unfold txCells at this
    rw [← List.map_drop, l2] at this
    exact this)
  have PL : Hid (∀ W, Txs 0 W.heap.size W a xs → Calls Try.prog 20 #[.slice a xs.length cap, .int .i64 p] W fun e w' => ∃ a' c', e = .returned (.slice a' (last13 xs p).length c') ∧ Txs 0 w'.heap.size w' a' (last13 xs p) ∧ Below W.heap.size W w') := Lib.hid fun W hT => by
    refine (plast_any a cap xs p 0 W hcap hT (by omega)).mono ?_
    rintro e w' ⟨a', c', rfl, _, hT', hb⟩
    exact ⟨a', c', rfl, hT'.open, hb⟩
  have PW : Hid (∀ W, Txs 0 W.heap.size W a xs → Calls Try.prog 13 #[.slice a xs.length cap, .int .i64 p, .string (tx v)] W fun e w' => ∃ a' c', e = .returned (.tuple #[.slice a' 0 c', .int .i64 2]) ∧ Below W.heap.size W w') := Lib.hid fun W hT => by
    refine (qwith_any a cap xs p v 0 W hcap hT (by omega)).mono ?_
    rintro e w' h
    rw [(with_no hp v).1, (with_no hp v).2] at h
    obtain ⟨a', c', rfl, _, _, hb⟩ := h
    exact ⟨a', c', rfl, hb⟩
  have PS : Hid (∀ W, Txs 0 W.heap.size W a xs → Calls Try.prog 15 #[.slice a xs.length cap, .int .i64 p, .string (tx v)] W fun e w' => ∃ a' c', e = .returned (.tuple #[.slice a' 0 c', .int .i64 2]) ∧ Below W.heap.size W w') := Lib.hid fun W hT => by
    refine (qset_any a cap xs p v 0 W hcap hT (by omega)).mono ?_
    rintro e w' h
    rw [(set_no hp2 v).1, (set_no hp2 v).2] at h
    obtain ⟨a', c', rfl, _, _, hb⟩ := h
    exact ⟨a', c', rfl, hb⟩
  clear hp hp2
  have HX := Lib.hid hx
  have HN := Lib.hid hlen
  clear hx hcap hfew hs hac hd
  generalize last13 xs p = L at *
  have HL := Lib.hid l1
  clear l1 l2 hlen
  go_enter Try.func5, Try.ntmps5
  go_upto_region 3 with (go_at_call 12; refine HF.out.mono ?_; rintro e w0 ⟨rfl, rfl⟩)
  go_wp2_with (at_builtin; refine append_all rfl _ _ rfl w.heap.size rfl rfl a cap 0 w.heap.size xs rfl HX.out (Nat.le_refl _) (by have := HN.out; omega) ?_)
  intro g0 c0 V HO
  have T0 : Hid (Turn13 w V a g0 xs) := Lib.hid ⟨HO.out.below, HX.out.step HO.out.below, HO.out.txs.2.open⟩
  go_upto_region 9 with (go_at_call 13; refine (PW.out _ T0.out.arg).mono ?_; rintro e w1 ⟨a1, c1, rfl, hb⟩; have U1 := Lib.hid (T0.out.step hb); clear hb)
  go_upto_region 14 with (go_at_call 15; refine (PS.out _ U1.out.arg).mono ?_; rintro e w2 ⟨a2, c2, rfl, hb⟩; have U4 := Lib.hid (U1.out.step hb); clear hb)
  go_upto_region 15 with (go_at_call 20; refine (PL.out _ U4.out.arg).mono ?_; rintro e k1 ⟨a8, c8, rfl, hT, hb⟩; have S1 := Lib.hid (U4.out.step hb); have K1 := Lib.hid hT; clear hT hb)
  go_wp2_with (first
    | (go_at_call 19; refine (sames_on _ a g0 _ _ _ xs rfl (by have := HN.out; omega) S1.out.arg S1.out.was).mono ?_; rintro e k2 ⟨rfl, hb⟩; have S2 := Lib.hid (S1.out.step hb); have K2 := Lib.hid (K1.out.step hb); clear hb S1 K1)
    | (go_at_call 19; refine (sames_on _ a8 ac _ _ _ L rfl (by have := HN.out; have := HL.out; omega) K2.out (HCUT.out _ S2.out.arg)).mono ?_; rintro e k3 ⟨rfl, hb⟩; have S3 := Lib.hid (S2.out.step hb); clear hb S2 K2)
    | (go_at_call 7; refine (awake_from S3.out.below).mono ?_; rintro e k4 ⟨rfl, hb⟩; have KB := Lib.hid hb; clear hb))
  go_ret
  exact ⟨rfl, KB.out⟩
set_option maxHeartbeats 4000000 in
theorem turn_end (w : World) (a : Option Addr) (cap : Nat) (xs : List (List UInt8)) (hx : Txs 0 w.heap.size w a xs) (hcap : xs.length ≤ cap) (q : Nat) (hq : q ≤ xs.length) (hq0 : ¬ q < xs.length) (v : List UInt8) (hfew : few13B xs = true) (hs : ¬ 200 < (tx v).size) :
    Calls Try.prog 5 #[.slice a xs.length cap, .int .i64 (q : Int), .string (tx v)] w fun e w' => e = .returned (.bool true) ∧ Below w.heap.size w w' := by
  have hp2 : ¬ (0 ≤ (q : Int) ∧ (q : Int) < xs.length) := by omega
  have HF := Lib.hid (few13_any a cap xs 0 _ w hx)
  rw [hfew] at HF
  have hlen := few_len hfew
  have e1 : decide (200 < ((tx v).size : Int)) = false := decide_eq_false (by omega)
  have e1' : decide (200 < (tx v).size) = false := decide_eq_false hs
  have HC := Lib.hid hcap
  have i0 : IntKind.i64.wrap ((xs.length : Int) + 1) = (xs.length : Int) + 1 := IntWalk.i64_in _ (by omega)
  obtain ⟨l1, l2⟩ := turn_last xs (q : Int)
  obtain ⟨d, hd⟩ : ∃ d, xs.length - (last13 xs (q : Int)).length = d := ⟨_, rfl⟩
  rw [hd] at l2
  obtain ⟨ac, hcut, hac⟩ := row_from sl_tx sz_tx a xs.length cap d (by omega) hcap
  rw [show xs.length - d = (last13 xs (q : Int)).length by omega] at hcut
  have i8 : IntKind.i64.wrap ((xs.length : Int) - ((last13 xs (q : Int)).length : Int)) = (d : Int) := by rw [IntWalk.i64_in _ (by omega)]; omega
  have i9 : decide (((last13 xs (q : Int)).length : Int) ≤ (xs.length : Int)) = true := decide_eq_true (by omega)
  have i9' : decide ((last13 xs (q : Int)).length ≤ xs.length) = true := decide_eq_true l1
  have HCUT : Hid (∀ W, Txs 0 W.heap.size W a xs → Txs 0 W.heap.size W ac (last13 xs (q : Int))) := Lib.hid fun W hT => txs_rw.2 (by
    have := hac 0 W.heap.size W (txCells xs) (txCells_len xs) (txs_rw.1 hT)
    unfold txCells at this
    rw [← List.map_drop, l2] at this
    exact this)
  have PL : Hid (∀ W, Txs 0 W.heap.size W a xs → Calls Try.prog 20 #[.slice a xs.length cap, .int .i64 (q : Int)] W fun e w' => ∃ a' c', e = .returned (.slice a' (last13 xs (q : Int)).length c') ∧ Txs 0 w'.heap.size w' a' (last13 xs (q : Int)) ∧ Below W.heap.size W w') := Lib.hid fun W hT => by
    refine (plast_any a cap xs (q : Int) 0 W hcap hT (by omega)).mono ?_
    rintro e w' ⟨a', c', rfl, _, hT', hb⟩
    exact ⟨a', c', rfl, hT'.open, hb⟩
  obtain ⟨m1, m2, m3, m4⟩ := turn_with hq v
  have hwo := with_ok hq v
  have PW : Hid (∀ W, Txs 0 W.heap.size W a xs → Calls Try.prog 13 #[.slice a xs.length cap, .int .i64 (q : Int), .string (tx v)] W fun e w' => ∃ a' c', e = .returned (.tuple #[.slice a' (xs.length + 1) c', .int .i64 0]) ∧ xs.length + 1 ≤ c' ∧ Txs 0 w'.heap.size w' a' (with13 xs q v) ∧ Below W.heap.size W w') := Lib.hid fun W hT => by
    refine (qwith_any a cap xs (q : Int) v 0 W hcap hT (by omega)).mono ?_
    intro e w' h
    rw [hwo.1, hwo.2] at h
    exact gives_on m1 h
  have PD : Hid (∀ (W : World) (a' : Option Addr) (c' : Nat), xs.length + 1 ≤ c' → Txs 0 W.heap.size W a' (with13 xs q v) → Calls Try.prog 17 #[.slice a' (xs.length + 1) c', .int .i64 (q : Int)] W fun e w' => ∃ a2 c2, e = .returned (.tuple #[.slice a2 xs.length c2, .int .i64 0]) ∧ xs.length ≤ c2 ∧ Txs 0 w'.heap.size w' a2 xs ∧ Below W.heap.size W w') := Lib.hid fun W a' c' hc hT => by
    have := qless_any a' c' (with13 xs q v) (q : Int) 0 W (by omega) hT (by omega)
    rw [m3, m4, m1] at this
    exact this.mono fun e w' h => gives_on rfl h
  have PA : Hid (∀ (W : World) (a' : Option Addr), Txs 0 W.heap.size W a' (with13 xs q v) → ∃ b off, a' = some ⟨b, off, none⟩ ∧ b < W.heap.size ∧ W.cell? ⟨b, off + q, none⟩ = some (.string (tx v))) := Lib.hid fun W a' hT => by
    have := txs_at hT (k := q) (by omega)
    rw [m2] at this
    exact this
  have j1 : (q : Int) < (xs.length : Int) + 1 := by omega
  have j2 : (0 : Int) ≤ (q : Int) := by omega
  have PS : Hid (∀ W, Txs 0 W.heap.size W a xs → Calls Try.prog 15 #[.slice a xs.length cap, .int .i64 (q : Int), .string (tx v)] W fun e w' => ∃ a' c', e = .returned (.tuple #[.slice a' 0 c', .int .i64 2]) ∧ Below W.heap.size W w') := Lib.hid fun W hT => by
    refine (qset_any a cap xs (q : Int) v 0 W hcap hT (by omega)).mono ?_
    rintro e w' h
    rw [(set_no hp2 v).1, (set_no hp2 v).2] at h
    obtain ⟨a', c', rfl, _, _, hb⟩ := h
    exact ⟨a', c', rfl, hb⟩
  clear hp2 hwo m1 m2 m3 m4 hq hq0
  have HX := Lib.hid hx
  have HN := Lib.hid hlen
  clear hx hcap hfew hs hac hd
  generalize last13 xs (q : Int) = L at *
  have HL := Lib.hid l1
  clear l1 l2 hlen
  go_enter Try.func5, Try.ntmps5
  go_upto_region 3 with (go_at_call 12; refine HF.out.mono ?_; rintro e w0 ⟨rfl, rfl⟩)
  go_wp2_with (at_builtin; refine append_all rfl _ _ rfl w.heap.size rfl rfl a cap 0 w.heap.size xs rfl HX.out (Nat.le_refl _) (by have := HN.out; omega) ?_)
  intro g0 c0 V HO
  have T0 : Hid (Turn13 w V a g0 xs) := Lib.hid ⟨HO.out.below, HX.out.step HO.out.below, HO.out.txs.2.open⟩
  go_upto_region 6 with (go_at_call 13; refine (PW.out _ T0.out.arg).mono ?_; rintro e w1 ⟨a1, c1, rfl, hc, hT, hb⟩; have U1 := Lib.hid (T0.out.step hb); have M1 := Lib.hid (And.intro hc hT); clear hc hT hb)
  go_upto_region 7 with (go_at_call 17; refine (PD.out _ _ _ M1.out.1 M1.out.2).mono ?_; rintro e w2 ⟨a2, c2, rfl, _, hT, hb⟩; have U2 := Lib.hid (U1.out.step hb); have M2 := Lib.hid (M1.out.2.step hb); have N2 := Lib.hid hT; clear hT hb)
  obtain ⟨b1, o1, ea1, _, cm⟩ := PA.out _ _ M2.out
  subst ea1
  go_upto_region 9 with (go_at_call 19; refine (sames_on _ a2 a _ _ _ xs rfl (by have := HN.out; omega) N2.out U2.out.arg).mono ?_; rintro e w3 ⟨rfl, hb⟩; have U3 := Lib.hid (U2.out.step hb); clear hb)
  go_upto_region 14 with (go_at_call 15; refine (PS.out _ U3.out.arg).mono ?_; rintro e w4 ⟨a4, c4, rfl, hb⟩; have U4 := Lib.hid (U3.out.step hb); clear hb)
  go_upto_region 15 with (go_at_call 20; refine (PL.out _ U4.out.arg).mono ?_; rintro e k1 ⟨a8, c8, rfl, hT, hb⟩; have S1 := Lib.hid (U4.out.step hb); have K1 := Lib.hid hT; clear hT hb)
  go_wp2_with (first
    | (go_at_call 19; refine (sames_on _ a g0 _ _ _ xs rfl (by have := HN.out; omega) S1.out.arg S1.out.was).mono ?_; rintro e k2 ⟨rfl, hb⟩; have S2 := Lib.hid (S1.out.step hb); have K2 := Lib.hid (K1.out.step hb); clear hb S1 K1)
    | (go_at_call 19; refine (sames_on _ a8 ac _ _ _ L rfl (by have := HN.out; have := HL.out; omega) K2.out (HCUT.out _ S2.out.arg)).mono ?_; rintro e k3 ⟨rfl, hb⟩; have S3 := Lib.hid (S2.out.step hb); clear hb S2 K2)
    | (go_at_call 7; refine (awake_from S3.out.below).mono ?_; rintro e k4 ⟨rfl, hb⟩; have KB := Lib.hid hb; clear hb))
  go_ret
  exact ⟨rfl, KB.out⟩
set_option maxHeartbeats 4000000 in
theorem turn_within (w : World) (a : Option Addr) (cap : Nat) (xs : List (List UInt8)) (hx : Txs 0 w.heap.size w a xs) (hcap : xs.length ≤ cap) (q : Nat) (hq2 : q < xs.length) (v : List UInt8) (hfew : few13B xs = true) (hs : ¬ 200 < (tx v).size) :
    Calls Try.prog 5 #[.slice a xs.length cap, .int .i64 (q : Int), .string (tx v)] w fun e w' => e = .returned (.bool true) ∧ Below w.heap.size w w' := by
  have hq : q ≤ xs.length := by omega
  have HF := Lib.hid (few13_any a cap xs 0 _ w hx)
  rw [hfew] at HF
  have hlen := few_len hfew
  have e1 : decide (200 < ((tx v).size : Int)) = false := decide_eq_false (by omega)
  have e1' : decide (200 < (tx v).size) = false := decide_eq_false hs
  have HC := Lib.hid hcap
  have i0 : IntKind.i64.wrap ((xs.length : Int) + 1) = (xs.length : Int) + 1 := IntWalk.i64_in _ (by omega)
  obtain ⟨l1, l2⟩ := turn_last xs (q : Int)
  obtain ⟨d, hd⟩ : ∃ d, xs.length - (last13 xs (q : Int)).length = d := ⟨_, rfl⟩
  rw [hd] at l2
  obtain ⟨ac, hcut, hac⟩ := row_from sl_tx sz_tx a xs.length cap d (by omega) hcap
  rw [show xs.length - d = (last13 xs (q : Int)).length by omega] at hcut
  have i8 : IntKind.i64.wrap ((xs.length : Int) - ((last13 xs (q : Int)).length : Int)) = (d : Int) := by rw [IntWalk.i64_in _ (by omega)]; omega
  have i9 : decide (((last13 xs (q : Int)).length : Int) ≤ (xs.length : Int)) = true := decide_eq_true (by omega)
  have i9' : decide ((last13 xs (q : Int)).length ≤ xs.length) = true := decide_eq_true l1
  have HCUT : Hid (∀ W, Txs 0 W.heap.size W a xs → Txs 0 W.heap.size W ac (last13 xs (q : Int))) := Lib.hid fun W hT => txs_rw.2 (by
    have := hac 0 W.heap.size W (txCells xs) (txCells_len xs) (txs_rw.1 hT)
    unfold txCells at this
    rw [← List.map_drop, l2] at this
    exact this)
  have PL : Hid (∀ W, Txs 0 W.heap.size W a xs → Calls Try.prog 20 #[.slice a xs.length cap, .int .i64 (q : Int)] W fun e w' => ∃ a' c', e = .returned (.slice a' (last13 xs (q : Int)).length c') ∧ Txs 0 w'.heap.size w' a' (last13 xs (q : Int)) ∧ Below W.heap.size W w') := Lib.hid fun W hT => by
    refine (plast_any a cap xs (q : Int) 0 W hcap hT (by omega)).mono ?_
    rintro e w' ⟨a', c', rfl, _, hT', hb⟩
    exact ⟨a', c', rfl, hT'.open, hb⟩
  obtain ⟨m1, m2, m3, m4⟩ := turn_with hq v
  have hwo := with_ok hq v
  have PW : Hid (∀ W, Txs 0 W.heap.size W a xs → Calls Try.prog 13 #[.slice a xs.length cap, .int .i64 (q : Int), .string (tx v)] W fun e w' => ∃ a' c', e = .returned (.tuple #[.slice a' (xs.length + 1) c', .int .i64 0]) ∧ xs.length + 1 ≤ c' ∧ Txs 0 w'.heap.size w' a' (with13 xs q v) ∧ Below W.heap.size W w') := Lib.hid fun W hT => by
    refine (qwith_any a cap xs (q : Int) v 0 W hcap hT (by omega)).mono ?_
    intro e w' h
    rw [hwo.1, hwo.2] at h
    exact gives_on m1 h
  have PD : Hid (∀ (W : World) (a' : Option Addr) (c' : Nat), xs.length + 1 ≤ c' → Txs 0 W.heap.size W a' (with13 xs q v) → Calls Try.prog 17 #[.slice a' (xs.length + 1) c', .int .i64 (q : Int)] W fun e w' => ∃ a2 c2, e = .returned (.tuple #[.slice a2 xs.length c2, .int .i64 0]) ∧ xs.length ≤ c2 ∧ Txs 0 w'.heap.size w' a2 xs ∧ Below W.heap.size W w') := Lib.hid fun W a' c' hc hT => by
    have := qless_any a' c' (with13 xs q v) (q : Int) 0 W (by omega) hT (by omega)
    rw [m3, m4, m1] at this
    exact this.mono fun e w' h => gives_on rfl h
  have PA : Hid (∀ (W : World) (a' : Option Addr), Txs 0 W.heap.size W a' (with13 xs q v) → ∃ b off, a' = some ⟨b, off, none⟩ ∧ b < W.heap.size ∧ W.cell? ⟨b, off + q, none⟩ = some (.string (tx v))) := Lib.hid fun W a' hT => by
    have := txs_at hT (k := q) (by omega)
    rw [m2] at this
    exact this
  have j1 : (q : Int) < (xs.length : Int) + 1 := by omega
  have j2 : (0 : Int) ≤ (q : Int) := by omega
  obtain ⟨n1, n2, n3, n4⟩ := turn_set hq2 v
  have hso := set_ok hq2 v
  have PS : Hid (∀ W, Txs 0 W.heap.size W a xs → Calls Try.prog 15 #[.slice a xs.length cap, .int .i64 (q : Int), .string (tx v)] W fun e w' => ∃ a' c', e = .returned (.tuple #[.slice a' xs.length c', .int .i64 0]) ∧ xs.length ≤ c' ∧ Txs 0 w'.heap.size w' a' (xs.set q v) ∧ Below W.heap.size W w') := Lib.hid fun W hT => by
    refine (qset_any a cap xs (q : Int) v 0 W hcap hT (by omega)).mono ?_
    intro e w' h
    rw [hso.1, hso.2] at h
    exact gives_on n1 h
  have PB : Hid (∀ (W : World) (a' : Option Addr) (c' : Nat), xs.length ≤ c' → Txs 0 W.heap.size W a' (xs.set q v) → Calls Try.prog 15 #[.slice a' xs.length c', .int .i64 (q : Int), .string (tx (rowAt xs q))] W fun e w' => ∃ a2 c2, e = .returned (.tuple #[.slice a2 xs.length c2, .int .i64 0]) ∧ xs.length ≤ c2 ∧ Txs 0 w'.heap.size w' a2 xs ∧ Below W.heap.size W w') := Lib.hid fun W a' c' hc hT => by
    have := qset_any a' c' (xs.set q v) (q : Int) (rowAt xs q) 0 W (by omega) hT (by omega)
    rw [n3, n4, n1] at this
    exact this.mono fun e w' h => gives_on rfl h
  have PE : Hid (∀ (W : World) (a' : Option Addr), Txs 0 W.heap.size W a' (xs.set q v) → ∃ b off, a' = some ⟨b, off, none⟩ ∧ b < W.heap.size ∧ W.cell? ⟨b, off + q, none⟩ = some (.string (tx v))) := Lib.hid fun W a' hT => by
    have := txs_at hT (k := q) (by omega)
    rw [n2] at this
    exact this
  have j3 : (q : Int) < (xs.length : Int) := by omega
  have HQ2 := Lib.hid hq2
  clear hwo hso m1 m2 m3 m4 n1 n2 n3 n4 hq hq2
  have HX := Lib.hid hx
  have HN := Lib.hid hlen
  clear hx hcap hfew hs hac hd
  generalize last13 xs (q : Int) = L at *
  have HL := Lib.hid l1
  clear l1 l2 hlen
  go_enter Try.func5, Try.ntmps5
  go_upto_region 3 with (go_at_call 12; refine HF.out.mono ?_; rintro e w0 ⟨rfl, rfl⟩)
  go_wp2_with (at_builtin; refine append_all rfl _ _ rfl w.heap.size rfl rfl a cap 0 w.heap.size xs rfl HX.out (Nat.le_refl _) (by have := HN.out; omega) ?_)
  intro g0 c0 V HO
  have T0 : Hid (Turn13 w V a g0 xs) := Lib.hid ⟨HO.out.below, HX.out.step HO.out.below, HO.out.txs.2.open⟩
  go_upto_region 6 with (go_at_call 13; refine (PW.out _ T0.out.arg).mono ?_; rintro e w1 ⟨a1, c1, rfl, hc, hT, hb⟩; have U1 := Lib.hid (T0.out.step hb); have M1 := Lib.hid (And.intro hc hT); clear hc hT hb)
  go_upto_region 7 with (go_at_call 17; refine (PD.out _ _ _ M1.out.1 M1.out.2).mono ?_; rintro e w2 ⟨a2, c2, rfl, _, hT, hb⟩; have U2 := Lib.hid (U1.out.step hb); have M2 := Lib.hid (M1.out.2.step hb); have N2 := Lib.hid hT; clear hT hb)
  obtain ⟨b1, o1, ea1, _, cm⟩ := PA.out _ _ M2.out
  subst ea1
  go_upto_region 9 with (go_at_call 19; refine (sames_on _ a2 a _ _ _ xs rfl (by have := HN.out; omega) N2.out U2.out.arg).mono ?_; rintro e w3 ⟨rfl, hb⟩; have U3 := Lib.hid (U2.out.step hb); clear hb)
  go_upto_region 11 with (go_at_call 15; refine (PS.out _ U3.out.arg).mono ?_; rintro e w4 ⟨a4, c4, rfl, hc, hT, hb⟩; have U4 := Lib.hid (U3.out.step hb); have M4 := Lib.hid (And.intro hc hT); clear hc hT hb PS)
  obtain ⟨bw, ow, ew, _, cw⟩ := txs_at U4.out.was HQ2.out
  subst ew
  go_upto_region 12 with (go_at_call 15; refine (PB.out _ _ _ M4.out.1 M4.out.2).mono ?_; rintro e w5 ⟨a5, c5, rfl, _, hT, hb⟩; have U5 := Lib.hid (U4.out.step hb); have M5 := Lib.hid (M4.out.2.step hb); have N5 := Lib.hid hT; clear hT hb)
  obtain ⟨b4, o4, ea4, _, cs⟩ := PE.out _ _ M5.out
  subst ea4
  go_upto_region 14 with (go_at_call 19; refine (sames_on _ a5 (some ⟨bw, ow, none⟩) _ _ _ xs rfl (by have := HN.out; omega) N5.out U5.out.was).mono ?_; rintro e w6 ⟨rfl, hb⟩; have U6 := Lib.hid (U5.out.step hb); clear hb)
  go_upto_region 15 with (go_at_call 20; refine (PL.out _ U6.out.arg).mono ?_; rintro e k1 ⟨a8, c8, rfl, hT, hb⟩; have S1 := Lib.hid (U6.out.step hb); have K1 := Lib.hid hT; clear hT hb)
  go_wp2_with (first
    | (go_at_call 19; refine (sames_on _ a (some ⟨bw, ow, none⟩) _ _ _ xs rfl (by have := HN.out; omega) S1.out.arg S1.out.was).mono ?_; rintro e k2 ⟨rfl, hb⟩; have S2 := Lib.hid (S1.out.step hb); have K2 := Lib.hid (K1.out.step hb); clear hb S1 K1)
    | (go_at_call 19; refine (sames_on _ a8 ac _ _ _ L rfl (by have := HN.out; have := HL.out; omega) K2.out (HCUT.out _ S2.out.arg)).mono ?_; rintro e k3 ⟨rfl, hb⟩; have S3 := Lib.hid (S2.out.step hb); clear hb S2 K2)
    | (go_at_call 7; refine (awake_from S3.out.below).mono ?_; rintro e k4 ⟨rfl, hb⟩; have KB := Lib.hid hb; clear hb))
  go_ret
  exact ⟨rfl, KB.out⟩
set_option maxHeartbeats 2000000 in
theorem rowsTurn_walk (w : World) (a : Option Addr) (cap : Nat) (xs : List (List UInt8)) (_ : xs.length ≤ maxLen) (hx : Txs 0 w.heap.size w a xs) (hcap : xs.length ≤ cap) (p : Int) (_ : (Lit.int .i64 p).wf = true) (s : ByteArray) (_ : s.size ≤ maxLen) :
    Calls Try.prog 5 #[.slice a xs.length cap, .int .i64 p, .string s] w fun e w' => e = .returned (.bool true) ∧ Below w.heap.size w w' := by
  have HF := Lib.hid (few13_any a cap xs 0 _ w hx)
  have HA := Lib.hid (awake13 w)
  by_cases hfew : few13B xs = true
  case neg =>
    rw [Bool.not_eq_true] at hfew
    rw [hfew] at HF
    clear hx hfew
    go_enter Try.func5, Try.ntmps5
    go_wp2_with (first
      | (go_at_call 12; refine HF.out.mono ?_; rintro e w1 ⟨rfl, rfl⟩)
      | (go_at_call 7; refine HA.out.mono ?_; rintro e w2 ⟨rfl, hb⟩; have HB := Lib.hid hb; clear hb))
    go_ret
    exact ⟨rfl, HB.out⟩
  by_cases hs : 200 < s.size
  · rw [hfew] at HF
    have e1 : decide (200 < (s.size : Int)) = true := decide_eq_true (by omega)
    have e1' : decide (200 < s.size) = true := decide_eq_true hs
    clear hx hfew hs
    go_enter Try.func5, Try.ntmps5
    go_wp2_with (first
      | (go_at_call 12; refine HF.out.mono ?_; rintro e w1 ⟨rfl, rfl⟩)
      | (go_at_call 7; refine HA.out.mono ?_; rintro e w2 ⟨rfl, hb⟩; have HB := Lib.hid hb; clear hb))
    go_ret
    exact ⟨rfl, HB.out⟩
  · obtain ⟨v, rfl⟩ : ∃ v, s = tx v := ⟨s.data.toList, tx_of rfl⟩
    by_cases hp : 0 ≤ p ∧ p ≤ xs.length
    · obtain ⟨q, rfl⟩ : ∃ q : Nat, p = q := ⟨p.toNat, by omega⟩
      by_cases hq : q < xs.length
      · exact turn_within w a cap xs hx hcap q hq v hfew hs
      · exact turn_end w a cap xs hx hcap q (by omega) hq v hfew hs
    · exact turn_outside w a cap xs hx hcap p hp v hfew hs
end Go.Proofs.Ytnamoinedajoaaa
