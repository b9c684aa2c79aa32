/- The document's own Of, Under, Drop and Same of pairs, for every list of pairs and in every world. -/
import Derived.Test.YtnbmccfaomhppaaMInts
import Derived.Test.YtnbmccfaomhppaaPrs14
import Derived.Laws.StructEq
import Derived.Deep.QuietTactic
import Derived.BigQuiet
namespace Go.Proofs.Ytnbmccfaomhppaa
open Go.RowKit

theorem tx_beq (a b : List UInt8) : ((tx a).toList == (tx b).toList) = (a == b) := by rw [ByteArray.toList_eq, ByteArray.toList_eq, tx_list, tx_list]
theorem pr_take (l : List Pr) (k : Nat) (hk : k < l.length) : l.take (k + 1) = l.take k ++ [prAt l k] := by
  rw [List.take_add_one, prAt_get l k hk]
  rfl
theorem of_step {l : List Pr} {k : Nat} (hk : k < l.length) (s : List UInt8) : ofP (l.take (k + 1)) s = if (prAt l k).1 = s then ofP (l.take k) s ++ [(prAt l k).2] else ofP (l.take k) s := by
  rw [pr_take l k hk]
  unfold ofP
  rw [List.filter_append, List.map_append]
  split
  · rename_i h
    rw [List.filter_cons, if_pos (by rw [h]; simp)]
    rfl
  · rename_i h
    rw [List.filter_cons, if_neg (by simpa using h)]
    simp
theorem under_step {l : List Pr} {k : Nat} (hk : k < l.length) (n : Int) : underP (l.take (k + 1)) n = if (prAt l k).2 = n then underP (l.take k) n ++ [(prAt l k).1] else underP (l.take k) n := by
  rw [pr_take l k hk]
  unfold underP
  rw [List.filter_append, List.map_append]
  split
  · rename_i h
    rw [List.filter_cons, if_pos (by rw [h]; simp)]
    rfl
  · rename_i h
    rw [List.filter_cons, if_neg (by simpa using h)]
    simp
theorem drop_step {l : List Pr} {k : Nat} (hk : k < l.length) (p : Pr) : dropP (l.take (k + 1)) p = if prAt l k = p then dropP (l.take k) p else dropP (l.take k) p ++ [prAt l k] := by
  rw [pr_take l k hk]
  unfold dropP
  rw [List.filter_append]
  split
  · rename_i h
    rw [List.filter_cons, if_neg (by rw [h]; simp)]
    simp
  · rename_i h
    rw [List.filter_cons, if_pos (by simpa using h)]
    rfl
theorem of_len (l : List Pr) (s : List UInt8) : (ofP l s).length ≤ l.length := by unfold ofP; rw [List.length_map]; exact List.length_filter_le _ _
theorem under_len (l : List Pr) (n : Int) : (underP l n).length ≤ l.length := by unfold underP; rw [List.length_map]; exact List.length_filter_le _ _
theorem drop_len (l : List Pr) (p : Pr) : (dropP l p).length ≤ l.length := List.length_filter_le _ _
/-- As it is told: the list with one less, and what is wrong. -/
def dropV (l : List Pr) (p : Pr) : List Pr := if p ∈ l then dropP l p else []
def dropE (l : List Pr) (p : Pr) : Int := if p ∈ l then 0 else 31
theorem dropV_in {l : List Pr} {p : Pr} (h : p ∈ l) : dropV l p = dropP l p ∧ dropE l p = 0 := by
  unfold dropV dropE
  rw [if_pos h, if_pos h]
  exact ⟨rfl, rfl⟩
theorem dropV_out {l : List Pr} {p : Pr} (h : p ∉ l) : dropV l p = [] ∧ dropE l p = 31 := by
  unfold dropV dropE
  rw [if_neg h, if_neg h]
  exact ⟨rfl, rfl⟩
/-- Numbers of the call's own, under way. -/
structure OutI (w W : World) (a : Option Addr) (c : Nat) (ys : List Int) : Prop where
  own : W.ownsRow w.heap.size 3 1 (.slice a ys.length c) ys.length (intCells ys)
  below : Below w.heap.size w W
theorem OutI.start (w : World) : OutI w w none 0 [] := ⟨World.ownsRow_nil _ _ _ _, Below.refl _ _⟩
theorem OutI.ints {w W : World} {a : Option Addr} {c : Nat} {ys : List Int} (h : OutI w W a c ys) : Ints W.heap.size W a ys := by
  obtain ⟨a', c', hv, hi⟩ := ints_own h.own
  injection hv with h1 _ _
  subst h1
  exact hi
theorem append_outI {ops : Array Oper} {rest : List Oper} {o : Oper} {a : Act} {Q : Exit → Act → World → Prop} {w V : World} (hgd : o.guard = none) (s x : Operand)
    (ho : o.op = .call { callee := .builtin .append, args := #[s, x], argTypes := #[33, 33] })
    (a0 : Option Addr) (c0 : Nat) (ys : List Int) (hs : a.eval s = .slice a0 ys.length c0) (hO : OutI w V a0 c0 ys) (t : Int)
    (hx : a.eval x = .slice (some ⟨V.heap.size, 0, none⟩) 1 1) (hk : ys.length ≤ 1000000)
    (h : ∀ a' c' V' zs, Hid (zs = ys ++ [t]) → OutI w V' a' c' zs → wpList Try.prog ops Q rest (a.put o.dst (.slice a' zs.length c')) V') :
    wpList Try.prog ops Q (o :: rest) a (V.alloc (.cells #[.int .i64 t] 3)) := by
  refine append_int hgd s x ho w.heap.size ys.length _ (intCells ys) hs hO.own t hx (by omega) hO.below.size ?_
  intro v' w4 ho4 hg4
  rw [intCells_more] at ho4
  have ho5 : w4.ownsRow w.heap.size 3 1 v' (ys ++ [t]).length (intCells (ys ++ [t])) := by rw [List.length_append]; exact ho4
  obtain ⟨a', c', hv, _⟩ := ints_own ho5
  subst hv
  refine h a' c' w4 _ (Lib.hid rfl) ⟨ho5, hO.below.trans ?_⟩
  refine ((Below.refl w.heap.size V).alloc hO.below.size (.cells #[.int .i64 t] 3)).grown hg4 (by have := hO.below.size; simp; omega) fun k hk => ?_
  exact (hO.own.lt k hk).1
set_option maxHeartbeats 2000000 in
theorem rof14_any (a : Option Addr) (cap : Nat) (l : List Pr) (s : List UInt8) (A : Nat) (w : World) (hx : Prs A w.heap.size w a l) (hn : l.length ≤ 900000) :
    Calls Try.prog 15 #[.slice a l.length cap, .string (tx s)] w fun e w' => ∃ a' c', e = .returned (.slice a' (ofP l s).length c') ∧ Ints w'.heap.size w' a' (ofP l s) ∧ Below w.heap.size w w' := by
  have HX := Lib.hid hx
  clear hx
  go_enter Try.func15, Try.ntmps15
  go_wp2
  go_loopw [5, 6] (fun s5 s6 wr => ∃ (k : Nat) (a8 : Option Addr) (c8 : Nat) (ys : List Int), s5 = .slice a8 ys.length c8 ∧ s6 = .int .i64 k ∧ k ≤ l.length ∧ Hid (OutI w wr a8 c8 ys) ∧ Hid (ys = ofP (l.take k) s)) (fun _ i _ => l.length + 1 - (intOf i).toNat)
  case atStart => exact ⟨0, none, 0, [], rfl, rfl, by omega, Lib.hid (OutI.start w), Lib.hid rfl⟩
  case round =>
    obtain ⟨k, a8, c8, ys, rfl, rfl, hk, HO, HY⟩ := hrel
    by_cases hlt : k < l.length
    · have i1 : (k : Int) < (l.length : Int) := by omega
      have i3 : (0 : Int) ≤ (k : Int) := by omega
      have hyl : ys.length ≤ 1000000 := by
        rw [HY.out]
        have := of_len (l.take k) s
        rw [List.length_take] at this
        omega
      obtain ⟨b, off, rfl, hb, c0, c1⟩ := Prs.at (HX.out.below HO.out.below) hlt
      have hst := of_step hlt s
      have hq := tx_beq (prAt l k).1 s
      by_cases he : (prAt l k).1 = s
      · have d1 : ((tx (prAt l k).1).toList == (tx s).toList) = true := by rw [hq, he]; simp
        have HN : Hid (ys ++ [(prAt l k).2] = ofP (l.take (k + 1)) s) := Lib.hid (by rw [hst, if_pos he, HY.out])
        clear he hst hq
        go_wp2_with (at_builtin; refine append_outI rfl _ _ rfl a8 c8 ys rfl HO.out (prAt l k).2 rfl hyl ?_)
        intro a7 c7 V7 ts hts' hO7
        have hts := hts'.out
        clear hts'
        have HO7 := Lib.hid hO7
        rw [← hts] at HN
        clear hO7 hts
        go_wp2
        go_roundw
        case rel => exact ⟨k + 1, a7, c7, ts, rfl, by first | rfl | go_num, by omega, HO7, HN⟩
        case measure => first | (simp [intOf]; omega) | simp [intOf]
      · have d1 : ((tx (prAt l k).1).toList == (tx s).toList) = false := by rw [hq]; exact beq_eq_false_iff_ne.2 he
        have HN : Hid (ys = ofP (l.take (k + 1)) s) := Lib.hid (by rw [hst, if_neg he, HY.out])
        clear he hst hq
        go_wp2
        go_roundw
        case rel => exact ⟨k + 1, a8, c8, ys, rfl, by first | rfl | go_num, by omega, HO, HN⟩
        case measure => first | (simp [intOf]; omega) | simp [intOf]
    · obtain rfl : k = l.length := by omega
      have HN : Hid (ys = ofP l s) := Lib.hid (by rw [HY.out, List.take_length])
      go_wp2
      go_ret
      rw [← HN.out]
      exact ⟨a8, c8, rfl, HO.out.ints, HO.out.below⟩
set_option maxHeartbeats 2000000 in
theorem runder14_any (a : Option Addr) (cap : Nat) (l : List Pr) (n : Int) (A : Nat) (w : World) (hx : Prs A w.heap.size w a l) (hn : l.length ≤ 900000) :
    Calls Try.prog 17 #[.slice a l.length cap, .int .i64 n] w fun e w' => Tells13 w e w' (underP l n) := by
  have HX := Lib.hid hx
  clear hx
  go_enter Try.func17, Try.ntmps17
  go_wp2
  go_loopw [5, 6] (fun s5 s6 wr => ∃ (k : Nat) (a8 : Option Addr) (c8 : Nat) (ys : List (List UInt8)), s5 = .slice a8 ys.length c8 ∧ s6 = .int .i64 k ∧ k ≤ l.length ∧ Hid (Out13 w wr a8 c8 ys) ∧ Hid (ys = underP (l.take k) n)) (fun _ i _ => l.length + 1 - (intOf i).toNat)
  case atStart => exact ⟨0, none, 0, [], rfl, rfl, by omega, Lib.hid (Out13.start w), Lib.hid rfl⟩
  case round =>
    obtain ⟨k, a8, c8, ys, rfl, rfl, hk, HO, HY⟩ := hrel
    by_cases hlt : k < l.length
    · have i1 : (k : Int) < (l.length : Int) := by omega
      have i3 : (0 : Int) ≤ (k : Int) := by omega
      have hyl : ys.length ≤ 1000000 := by
        rw [HY.out]
        have := under_len (l.take k) n
        rw [List.length_take] at this
        omega
      obtain ⟨b, off, rfl, hb, c0, c1⟩ := Prs.at (HX.out.below HO.out.below) hlt
      have hst := under_step hlt n
      by_cases he : (prAt l k).2 = n
      · have d1 : ((prAt l k).2 == n) = true := by rw [he]; simp
        have HN : Hid (ys ++ [(prAt l k).1] = underP (l.take (k + 1)) n) := Lib.hid (by rw [hst, if_pos he, HY.out])
        clear he hst
        go_wp2_with (at_builtin; refine append_out rfl _ _ rfl a8 c8 ys rfl HO.out (prAt l k).1 _ rfl rfl hyl ?_)
        intro a7 c7 V7 ts hts' hO7
        have hts := hts'.out
        clear hts'
        have HO7 := Lib.hid hO7
        rw [← hts] at HN
        clear hO7 hts
        go_wp2
        go_roundw
        case rel => exact ⟨k + 1, a7, c7, ts, rfl, by first | rfl | go_num, by omega, HO7, HN⟩
        case measure => first | (simp [intOf]; omega) | simp [intOf]
      · have d1 : ((prAt l k).2 == n) = false := beq_eq_false_iff_ne.2 he
        have HN : Hid (ys = underP (l.take (k + 1)) n) := Lib.hid (by rw [hst, if_neg he, HY.out])
        clear he hst
        go_wp2
        go_roundw
        case rel => exact ⟨k + 1, a8, c8, ys, rfl, by first | rfl | go_num, by omega, HO, HN⟩
        case measure => first | (simp [intOf]; omega) | simp [intOf]
    · obtain rfl : k = l.length := by omega
      have HN : Hid (ys = underP l n) := Lib.hid (by rw [HY.out, List.take_length])
      have h := HO.out.txs
      go_wp2
      go_ret
      rw [← HN.out]
      exact ⟨a8, c8, rfl, h.1, h.2, HO.out.below⟩
set_option maxHeartbeats 2000000 in
theorem rdrop14_any (a : Option Addr) (cap : Nat) (l : List Pr) (s : List UInt8) (n : Int) (A : Nat) (w : World) (hx : Prs A w.heap.size w a l) (hn : l.length ≤ 900000) :
    Calls Try.prog 22 #[.slice a l.length cap, .string (tx s), .int .i64 n] w fun e w' => ∃ a' c', e = .returned (.tuple #[.slice a' (dropV l (s, n)).length c', .int .i64 (dropE l (s, n))]) ∧ Prs 0 w'.heap.size w' a' (dropV l (s, n)) ∧ Below w.heap.size w w' := by
  have HX := Lib.hid hx
  clear hx
  go_enter Try.func22, Try.ntmps22
  go_wp2
  go_loopw [8, 9] (fun s5 s6 wr => ∃ (k : Nat) (a8 : Option Addr) (c8 : Nat) (ys : List Pr), s5 = .slice a8 ys.length c8 ∧ s6 = .int .i64 k ∧ k ≤ l.length ∧ Hid (OutP w wr a8 c8 ys) ∧ Hid (ys = dropP (l.take k) (s, n))) (fun _ i _ => l.length + 1 - (intOf i).toNat)
  case atStart => exact ⟨0, none, 0, [], rfl, rfl, by omega, Lib.hid (OutP.start w), Lib.hid rfl⟩
  case round =>
    obtain ⟨k, a8, c8, ys, rfl, rfl, hk, HO, HY⟩ := hrel
    have hyl : ys.length ≤ 900000 := by
      rw [HY.out]
      have := drop_len (l.take k) (s, n)
      rw [List.length_take] at this
      omega
    by_cases hlt : k < l.length
    · have i1 : (k : Int) < (l.length : Int) := by omega
      have i3 : (0 : Int) ≤ (k : Int) := by omega
      obtain ⟨b, off, rfl, hb, c0, c1⟩ := Prs.at (HX.out.below HO.out.below) hlt
      have hst := drop_step hlt (s, n)
      have hq := tx_beq (prAt l k).1 s
      by_cases he : prAt l k = (s, n)
      · have d1 : ((tx (prAt l k).1).toList == (tx s).toList) = true := by rw [hq, he]; simp
        have d2 : ((prAt l k).2 != n) = false := by unfold bne; rw [he]; simp
        have HN : Hid (ys = dropP (l.take (k + 1)) (s, n)) := Lib.hid (by rw [hst, if_pos he, HY.out])
        clear he hst hq
        go_wp2
        go_roundw
        case rel => exact ⟨k + 1, a8, c8, ys, rfl, by first | rfl | go_num, by omega, HO, HN⟩
        case measure => first | (simp [intOf]; omega) | simp [intOf]
      · have HN : Hid (ys ++ [prAt l k] = dropP (l.take (k + 1)) (s, n)) := Lib.hid (by rw [hst, if_neg he, HY.out])
        by_cases h1 : (prAt l k).1 = s
        · have d1 : ((tx (prAt l k).1).toList == (tx s).toList) = true := by rw [hq, h1]; simp
          have d2 : ((prAt l k).2 != n) = true := by rw [bne_iff_ne]; exact fun h2 => he (Prod.ext h1 h2)
          clear he hst hq h1
          go_wp2_with (at_builtin; refine append_pr rfl _ _ rfl a8 c8 ys rfl HO.out (prAt l k) _ rfl rfl hyl ?_)
          intro a7 c7 V7 ts hts' hO7
          have hts := hts'.out
          clear hts'
          have HO7 := Lib.hid hO7
          rw [← hts] at HN
          clear hO7 hts
          go_wp2
          go_roundw
          case rel => exact ⟨k + 1, a7, c7, ts, rfl, by first | rfl | go_num, by omega, HO7, HN⟩
          case measure => first | (simp [intOf]; omega) | simp [intOf]
        · have d1 : ((tx (prAt l k).1).toList == (tx s).toList) = false := by rw [hq]; exact beq_eq_false_iff_ne.2 h1
          clear he hst hq h1
          go_wp2_with (at_builtin; refine append_pr rfl _ _ rfl a8 c8 ys rfl HO.out (prAt l k) _ rfl rfl hyl ?_)
          intro a7 c7 V7 ts hts' hO7
          have hts := hts'.out
          clear hts'
          have HO7 := Lib.hid hO7
          rw [← hts] at HN
          clear hO7 hts
          go_wp2
          go_roundw
          case rel => exact ⟨k + 1, a7, c7, ts, rfl, by first | rfl | go_num, by omega, HO7, HN⟩
          case measure => first | (simp [intOf]; omega) | simp [intOf]
    · obtain rfl : k = l.length := by omega
      have hN : ys = dropP l (s, n) := by rw [HY.out, List.take_length]
      have hl := len_dropP (l := l) (p := (s, n))
      by_cases hm : (s, n) ∈ l
      · have d1 : ((ys.length : Int) == (l.length : Int)) = false := by
          rw [beq_eq_false_iff_ne, hN]
          intro e
          exact (hl.1 (by omega)) hm
        have HV := Lib.hid (dropV_in hm)
        have h := HO.out.prs
        have HN := Lib.hid hN
        clear hN hl hm
        go_wp2
        go_ret2
        rw [HV.out.1, HV.out.2, ← HN.out]
        exact ⟨a8, c8, rfl, h.2.wide (Nat.zero_le _) (Nat.le_refl _), HO.out.below⟩
      · have d1 : ((ys.length : Int) == (l.length : Int)) = true := by
          rw [hN, hl.2 hm]; simp
        have HV := Lib.hid (dropV_out hm)
        clear hN hl hm
        go_wp2
        go_ret2
        rw [HV.out.1, HV.out.2]
        exact ⟨none, 0, rfl, Or.inl rfl, HO.out.below⟩
end Go.Proofs.Ytnbmccfaomhppaa
namespace Go.Proofs.Ytnbmccfaomhppaa
open Go.RowKit

theorem pr_fields : Try.prog.underlying 53 = some (.struct (Try.prog.fieldsOf 53)) := by kernel_rfl
theorem pr_plain : Try.prog.stoodInHeld 53 = false := by kernel_rfl
theorem pr_guard : Try.prog.eqGuardType Try.prog.depth 53 = false := by kernel_rfl
theorem pr_equal (p q : Pr) (w : World) : (Op.equalIn 10000 53 (.agg #[.string (tx p.1), .int .i64 p.2]) (.agg #[.string (tx q.1), .int .i64 q.2])).run Try.prog w = .ok (decide (p = q)) w := by
  have u3 := Try.underlying3
  have u9 := Try.underlying9
  have a3 := Try.isAgg3
  have z3 := Try.sizeOf3
  have a9 := Try.isAgg9
  have z9 := Try.sizeOf9
  rw [show (10000 : Nat) = 9999 + 1 from rfl, run_equalIn_agg w 9999 _ _ _ pr_fields pr_plain]
  simp only [Program.fieldsOf, Try.underlying53]
  go_simp
  have e := tx_beq p.1 q.1
  by_cases h1 : p.1 = q.1 <;> by_cases h2 : p.2 = q.2
  · have : p = q := Prod.ext h1 h2
    subst this
    simp
  · have h3 : ¬ p = q := fun h => h2 (by rw [h])
    simp [h1, h2, h3]
  · have h3 : ¬ p = q := fun h => h1 (by rw [h])
    have e2 : ((tx p.1).toList == (tx q.1).toList) = false := by rw [e]; exact beq_eq_false_iff_ne.2 h1
    simp [beq_eq_false_iff_ne.1 e2, h3]
  · have h3 : ¬ p = q := fun h => h1 (by rw [h])
    have e2 : ((tx p.1).toList == (tx q.1).toList) = false := by rw [e]; exact beq_eq_false_iff_ne.2 h1
    simp [beq_eq_false_iff_ne.1 e2, h3]
/-- A pair that came in by value lies in a block of its own. -/
def Boxed14 (w W : World) (p : Pr) : Prop := Below w.heap.size w W ∧ W.cell? ⟨w.heap.size, 0, none⟩ = some (.string (tx p.1)) ∧ W.cell? ⟨w.heap.size, 1, none⟩ = some (.int .i64 p.2)
theorem box_start (w : World) (p : Pr) : Boxed14 w (w.alloc (.cells #[.string (tx p.1), .int .i64 p.2] 53)) p := by
  have h0 := lit_cell w #[.string (tx p.1), .int .i64 p.2] 53 0 _ rfl
  have h1 := lit_cell w #[.string (tx p.1), .int .i64 p.2] 53 1 _ rfl
  exact ⟨(Below.refl _ w).alloc (Nat.le_refl _) _, h0, by rw [Nat.zero_add] at h1; exact h1⟩
theorem Boxed14.drew {w W : World} {p : Pr} (h : Boxed14 w W p) (n : Nat) : Boxed14 w (W.drewN n) p := ⟨drawn_below h.1 n, h.2.1, h.2.2⟩
set_option maxHeartbeats 2000000 in
theorem rhas_any (a : Option Addr) (cap : Nat) (l : List Pr) (p : Pr) (A : Nat) (w : World) (hx : Prs A w.heap.size w a l) (hn : l.length ≤ 900000) :
    Calls Try.prog 34 #[.slice a l.length cap, .agg #[.string (tx p.1), .int .i64 p.2]] w fun e w' => e = .returned (.bool (decide (p ∈ l))) ∧ Below w.heap.size w w' := by
  have HX := Lib.hid hx
  have gd := pr_guard
  clear hx
  go_enter Try.func34, Try.ntmps34
  go_wp2
  go_loopw [5] (fun s5 wr => ∃ (k : Nat), s5 = .int .i64 k ∧ k ≤ l.length ∧ Hid (Boxed14 w wr p) ∧ Hid (p ∉ l.take k)) (fun i _ => l.length + 1 - (intOf i).toNat)
  case atStart => exact ⟨0, rfl, by omega, Lib.hid (box_start w p), Lib.hid (by simp)⟩
  case round =>
    obtain ⟨k, rfl, hk, HB, HN⟩ := hrel
    by_cases hlt : k < l.length
    · have i1 : (k : Int) < (l.length : Int) := by omega
      have i3 : (0 : Int) ≤ (k : Int) := by omega
      obtain ⟨b, off, rfl, hb, c0, c1⟩ := Prs.at (HX.out.below HB.out.1) hlt
      obtain ⟨_, q0, q1⟩ := HB.out
      have heq := pr_equal (prAt l k) p
      by_cases he : prAt l k = p
      · rw [decide_eq_true he] at heq
        have HR : Hid (decide (p ∈ l) = true) := Lib.hid (decide_eq_true (by
          rw [← he]
          exact List.mem_of_getElem? (prAt_get l k hlt)))
        clear he
        go_upto_region 4 with fail
        go_quiet (fail)
        go_wp2
        go_ret
        exact ⟨by rw [HR.out]; rfl, drawn_below HB.out.1 _⟩
      · rw [decide_eq_false he] at heq
        have HN2 : Hid (p ∉ l.take (k + 1)) := Lib.hid (by
          rw [pr_take l k hlt, List.mem_append]
          rintro (h | h)
          · exact HN.out h
          · exact he (List.mem_singleton.1 h).symm)
        clear he
        go_upto_region 4 with fail
        go_quiet (fail)
        go_wp2
        go_roundw
        case rel => exact ⟨k + 1, by first | rfl | go_num, by omega, Lib.hid (HB.out.drew _), HN2⟩
        case measure => first | (simp [intOf]; omega) | simp [intOf]
    · obtain rfl : k = l.length := by omega
      have HR : Hid (decide (p ∈ l) = false) := Lib.hid (decide_eq_false (by have := HN.out; rw [List.take_length] at this; exact this))
      go_wp2
      go_ret
      exact ⟨by rw [HR.out]; rfl, HB.out.1⟩
set_option maxHeartbeats 2000000 in
theorem rsame14_true (a b : Option Addr) (cap cap' : Nat) (l : List Pr) (A A' : Nat) (w : World) (hx : Prs A w.heap.size w a l) (hy : Prs A' w.heap.size w b l) (hn : l.length ≤ 900000) :
    Calls Try.prog 36 #[.slice a l.length cap, .slice b l.length cap'] w fun e w' => e = .returned (.bool true) ∧ Below w.heap.size w w' := by
  have HX := Lib.hid hx
  have HY := Lib.hid hy
  have gd := pr_guard
  clear hx hy
  go_enter Try.func36, Try.ntmps36
  go_wp2
  go_loopw [5] (fun s5 wr => ∃ (k : Nat), s5 = .int .i64 k ∧ k ≤ l.length ∧ Hid (Below w.heap.size w wr)) (fun i _ => l.length + 1 - (intOf i).toNat)
  case atStart => exact ⟨0, rfl, by omega, Lib.hid (Below.refl _ _)⟩
  case round =>
    obtain ⟨k, rfl, hk, HB⟩ := hrel
    by_cases hlt : k < l.length
    · have i1 : (k : Int) < (l.length : Int) := by omega
      have i3 : (0 : Int) ≤ (k : Int) := by omega
      obtain ⟨b1, o1, rfl, _, c0, c1⟩ := Prs.at (HX.out.below HB.out) hlt
      obtain ⟨b2, o2, rfl, _, d0, d1⟩ := Prs.at (HY.out.below HB.out) hlt
      have heq := pr_equal (prAt l k) (prAt l k)
      rw [decide_eq_true rfl] at heq
      go_upto_region 6 with fail
      go_quiet (fail)
      go_wp2
      go_roundw
      case rel => exact ⟨k + 1, by first | rfl | go_num, by omega, Lib.hid (drawn_below HB.out _)⟩
      case measure => first | (simp [intOf]; omega) | simp [intOf]
    · obtain rfl : k = l.length := by omega
      go_wp2
      go_ret
      exact ⟨rfl, HB.out⟩
end Go.Proofs.Ytnbmccfaomhppaa
