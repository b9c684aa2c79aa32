/- The document's own lists with one more, another one, one less, and their last ones: for every list of texts, in every world. -/
import Derived.Test.YtnamoinedajoaaaRw13
import Derived.Test.YtnamoinedajoaaaRow13
namespace Go.Proofs.Ytnamoinedajoaaa
open Go.RowKit

theorem rowAt_get (xs : List (List UInt8)) (k : Nat) (h : k < xs.length) : xs[k]? = some (rowAt xs k) := by
  unfold rowAt
  rw [List.getElem?_eq_getElem h, List.getD_eq_getElem?_getD, List.getElem?_eq_getElem h]
  rfl
/-- A list of texts of the call's own, under way. -/
structure Out13 (w W : World) (a : Option Addr) (c : Nat) (ys : List (List UInt8)) : Prop where
  own : W.ownsRow w.heap.size 9 1 (.slice a ys.length c) ys.length (txCells ys)
  below : Below w.heap.size w W
theorem Out13.start (w : World) : Out13 w w none 0 [] := ⟨World.ownsRow_nil _ _ _ _, Below.refl _ _⟩
/-- What a call of such a list tells. -/
def Tells13 (w : World) (e : Ending) (w' : World) (ys : List (List UInt8)) : Prop :=
  ∃ a c, e = .returned (.slice a ys.length c) ∧ ys.length ≤ c ∧ Txs w.heap.size w'.heap.size w' a ys ∧ Below w.heap.size w w'
def Gives13 (w : World) (e : Ending) (w' : World) (ys : List (List UInt8)) (E : Int) : Prop :=
  ∃ a c, e = .returned (.tuple #[.slice a ys.length c, .int .i64 E]) ∧ ys.length ≤ c ∧ Txs w.heap.size w'.heap.size w' a ys ∧ Below w.heap.size w w'
theorem Out13.txs {w W : World} {a : Option Addr} {c : Nat} {ys : List (List UInt8)} (h : Out13 w W a c ys) : ys.length ≤ c ∧ Txs w.heap.size W.heap.size W a ys := by
  obtain ⟨a', c', hv, hc, ht⟩ := txs_own h.own
  injection hv with h1 _ h3
  subst h1 h3
  exact ⟨hc, ht⟩
theorem append_out {ops : Array Oper} {rest : List Oper} {o : Oper} {a : Act} {Q : Exit → Act → World → Prop} {w V : World} (hgd : o.guard = none) (s x : Operand)
    (ho : o.op = .call { callee := .builtin .append, args := #[s, x], argTypes := #[30, 30] })
    (a0 : Option Addr) (c0 : Nat) (ys : List (List UInt8)) (hs : a.eval s = .slice a0 ys.length c0) (hO : Out13 w V a0 c0 ys) (t : List UInt8)
    (g : Nat) (hx : a.eval x = .slice (some ⟨g, 0, none⟩) 1 1) (hg : g = V.heap.size) (hk : ys.length ≤ 1000000)
    (h : ∀ a' c' V' zs, Hid (zs = ys ++ [t]) → Out13 w V' a' c' zs → wpList Try.prog ops Q rest (a.put o.dst (.slice a' zs.length c')) V') :
    wpList Try.prog ops Q (o :: rest) a (V.alloc (.cells #[.string (tx t)] 9)) := by
  refine append_tx hgd s x ho w.heap.size ys.length _ (txCells ys) hs hO.own (tx t) g hx hg (by omega) hO.below.size ?_
  intro v' w4 ho4 hg4
  rw [txCells_more] at ho4
  have ho5 : w4.ownsRow w.heap.size 9 1 v' (ys ++ [t]).length (txCells (ys ++ [t])) := by rw [List.length_append]; exact ho4
  obtain ⟨a', c', hv, _, _⟩ := txs_own ho5
  subst hv
  refine h a' c' w4 _ (Lib.hid rfl) ⟨ho5, hO.below.trans ?_⟩
  refine ((Below.refl w.heap.size V).alloc hO.below.size (.cells #[.string (tx t)] 9)).grown hg4 (by have := hO.below.size; simp; omega) fun k hk => ?_
  exact (hO.own.lt k hk).1
set_option maxHeartbeats 2000000 in
theorem rwith_any (a : Option Addr) (cap : Nat) (xs : List (List UInt8)) (p : Int) (v : List UInt8) (A : Nat) (w : World) (hx : Txs A w.heap.size w a xs) (hn : xs.length ≤ 100000) :
    Calls Try.prog 14 #[.slice a xs.length cap, .int .i64 p, .string (tx v)] w fun e w' => Gives13 w e w' (withL xs p v) (withE xs.length p) := by
  have HX := Lib.hid hx
  clear hx
  by_cases hp : 0 ≤ p ∧ p ≤ xs.length
  · obtain ⟨q, rfl⟩ : ∃ q : Nat, p = q := ⟨p.toNat, by omega⟩
    have hq : q ≤ xs.length := by omega
    rw [(with_ok hq v).1, (with_ok hq v).2]
    have d1 : decide ((q : Int) < 0) = false := decide_eq_false (by omega)
    have d2 : decide ((xs.length : Int) < (q : Int)) = false := decide_eq_false (by omega)
    have d2' : decide (xs.length < q) = false := decide_eq_false (by omega)
    clear hp
    go_enter Try.func14, Try.ntmps14
    go_wp2
    go_loopw [8, 9] (fun s8 s9 wr => ∃ (k : Nat) (a8 : Option Addr) (c8 : Nat) (ys : List (List UInt8)), s8 = .slice a8 ys.length c8 ∧ s9 = .int .i64 k ∧ k ≤ xs.length + 1 ∧ Hid (Out13 w wr a8 c8 ys) ∧ Hid (ys = if k ≤ q then xs.take k else with13 (xs.take k) q v)) (fun _ i _ => xs.length + 1 - (intOf i).toNat)
    case atStart => exact ⟨0, none, 0, [], rfl, rfl, by omega, Lib.hid (Out13.start w), Lib.hid (by rw [if_pos (Nat.zero_le _)]; simp)⟩
    case round =>
      obtain ⟨k, a8, c8, ys, rfl, rfl, hk, HO, HY⟩ := hrel
      have hyl : ys.length ≤ 100001 := by
        rw [HY.out]
        split
        · rw [List.length_take]; omega
        · rw [with_len _ _ _ (by rw [List.length_take]; omega), List.length_take]; omega
      by_cases hlt : k < xs.length
      · have i1 : (k : Int) < (xs.length : Int) := by omega
        have i2 : decide ((k : Int) ≤ (xs.length : Int)) = true := decide_eq_true (by omega)
        have i2' : decide (k ≤ xs.length) = true := decide_eq_true (by omega)
        have i3 : (0 : Int) ≤ (k : Int) := by omega
        rcases HX.out.below HO.out.below with h0 | ⟨b, off, rfl, _, hb, hc⟩
        · exfalso; rw [h0] at hlt; simp at hlt
        have c0 := hc k hlt
        have hg := rowAt_get xs k hlt
        have HC := Lib.hid (And.intro hb hc)
        clear hc hb
        by_cases hkq : k = q
        · have d3 : ((k : Int) == (q : Int)) = true := by rw [hkq]; simp
          have HN : Hid ((ys ++ [v]) ++ [rowAt xs k] = if k + 1 ≤ q then xs.take (k + 1) else with13 (xs.take (k + 1)) q v) := Lib.hid (by
            rw [HY.out, if_pos (by omega), if_neg (by omega), with_next xs q k v (by omega) hlt _ hg, hkq, with_start])
          clear hkq hg
          go_wp2_with (at_builtin; refine append_out rfl _ _ rfl a8 c8 ys rfl HO.out v _ rfl rfl (by omega) ?_)
          intro a9 c9 V9 zs hzs' hO9
          have hzs := hzs'.out
          clear hzs'
          have HO9 := Lib.hid hO9
          have c1 : V9.cell? ⟨b, off + k, none⟩ = some (.string (tx (rowAt xs k))) := by
            rcases HX.out.below hO9.below with h0 | ⟨b', off', hbo, _, _, hc'⟩
            · exfalso; rw [h0] at hlt; simp at hlt
            · injection hbo with e
              injection e with e1 e2 _
              subst e1 e2
              exact hc' k hlt
          have hyl2 : zs.length ≤ 1000000 := by rw [hzs, List.length_append]; simp; omega
          rw [← hzs] at HN
          clear hO9 c0 hzs
          go_wp2_with (at_builtin; refine append_out rfl _ _ rfl a9 c9 zs rfl HO9.out (rowAt xs k) _ rfl rfl hyl2 ?_)
          intro a7 c7 V7 ts hts' hO7
          have hts := hts'.out
          clear hts'
          have HO7 := Lib.hid hO7
          rw [← hts] at HN
          clear hO7 hts
          go_wp2
          go_roundw
          case rel => exact ⟨k + 1, a7, c7, ts, rfl, by first | rfl | go_num, by omega, HO7, HN⟩
          case measure => first | (simp [intOf]; omega) | simp [intOf]
        · have d3 : ((k : Int) == (q : Int)) = false := by rw [beq_eq_false_iff_ne]; omega
          have HN : Hid (ys ++ [rowAt xs k] = if k + 1 ≤ q then xs.take (k + 1) else with13 (xs.take (k + 1)) q v) := Lib.hid (by
            rw [HY.out]
            by_cases h : k < q
            · rw [if_pos (by omega), if_pos (by omega), with_low xs k _ hg]
            · rw [if_neg (by omega), if_neg (by omega), with_next xs q k v (by omega) hlt _ hg])
          clear hkq hg
          go_wp2_with (at_builtin; refine append_out rfl _ _ rfl a8 c8 ys rfl HO.out (rowAt xs k) _ rfl rfl (by omega) ?_)
          intro a7 c7 V7 ts hts' hO7
          have hts := hts'.out
          clear hts'
          have HO7 := Lib.hid hO7
          rw [← hts] at HN
          clear hO7 hts
          go_wp2
          go_roundw
          case rel => exact ⟨k + 1, a7, c7, ts, rfl, by first | rfl | go_num, by omega, HO7, HN⟩
          case measure => first | (simp [intOf]; omega) | simp [intOf]
      · by_cases hlast : k = xs.length
        · subst hlast
          have i1 : decide ((xs.length : Int) < (xs.length : Int)) = false := decide_eq_false (by omega)
          have i2 : decide ((xs.length : Int) ≤ (xs.length : Int)) = true := decide_eq_true (by omega)
          by_cases hkq : xs.length = q
          · have d3 : ((xs.length : Int) == (q : Int)) = true := by rw [hkq]; simp
            have HN : Hid (ys ++ [v] = if xs.length + 1 ≤ q then xs.take (xs.length + 1) else with13 (xs.take (xs.length + 1)) q v) := Lib.hid (by
              rw [HY.out, if_pos (by omega), if_neg (by omega), ← hkq, List.take_length, List.take_of_length_le (by omega)]
              have := with_start xs xs.length v
              rw [List.take_length] at this
              exact this.symm)
            clear hkq
            go_wp2_with (at_builtin; refine append_out rfl _ _ rfl a8 c8 ys rfl HO.out v _ rfl rfl (by omega) ?_)
            intro a9 c9 V9 ts hts' hO9
            have hts := hts'.out
            clear hts'
            have HO9 := Lib.hid hO9
            rw [← hts] at HN
            clear hO9 hts
            go_wp2
            go_roundw
            case rel => exact ⟨xs.length + 1, a9, c9, ts, rfl, by first | rfl | go_num, by omega, HO9, HN⟩
            case measure => first | (simp [intOf]; omega) | simp [intOf]
          · have d3 : ((xs.length : Int) == (q : Int)) = false := by rw [beq_eq_false_iff_ne]; omega
            have HN : Hid (ys = if xs.length + 1 ≤ q then xs.take (xs.length + 1) else with13 (xs.take (xs.length + 1)) q v) := Lib.hid (by
              rw [HY.out, if_neg (by omega), if_neg (by omega), List.take_length, List.take_of_length_le (by omega)])
            clear hkq
            go_wp2
            go_roundw
            case rel => exact ⟨xs.length + 1, a8, c8, ys, rfl, by first | rfl | go_num, by omega, HO, HN⟩
            case measure => first | (simp [intOf]; omega) | simp [intOf]
        · obtain rfl : k = xs.length + 1 := by omega
          have i2 : decide ((xs.length : Int) + 1 ≤ (xs.length : Int)) = false := decide_eq_false (by omega)
          have HN : Hid (ys = with13 xs q v) := Lib.hid (by rw [HY.out, if_neg (by omega), List.take_of_length_le (by omega)])
          clear hlast
          go_wp2
          go_ret2
          have h := HO.out.txs
          rw [← HN.out]
          exact ⟨a8, c8, rfl, h.1, h.2, HO.out.below⟩
  · rw [(with_no hp v).1, (with_no hp v).2]
    by_cases h0 : p < 0
    · have d1 : decide (p < 0) = true := decide_eq_true h0
      clear hp h0
      go_enter Try.func14, Try.ntmps14
      go_wp2
      go_ret2
      exact ⟨none, 0, rfl, Nat.le_refl _, Or.inl rfl, Below.refl _ _⟩
    · have d1 : decide (p < 0) = false := decide_eq_false h0
      have d2 : decide ((xs.length : Int) < p) = true := decide_eq_true (by omega)
      clear hp h0
      go_enter Try.func14, Try.ntmps14
      go_wp2
      go_ret2
      exact ⟨none, 0, rfl, Nat.le_refl _, Or.inl rfl, Below.refl _ _⟩
theorem txCells_append (xs ys : List (List UInt8)) : txCells xs ++ txCells ys = txCells (xs ++ ys) := by unfold txCells; simp
theorem txCells_set (xs : List (List UInt8)) (k : Nat) (v : List UInt8) : (txCells xs).set k (.string (tx v)) = txCells (xs.set k v) := by unfold txCells; rw [List.map_set]
theorem txCells_one (xs : List (List UInt8)) : ∀ u ∈ txCells xs, u.oneCell' = true := by
  unfold txCells
  intro u hu
  obtain ⟨x, _, rfl⟩ := List.mem_map.1 hu
  rfl
/-- Texts appended to an empty literal of texts. -/
theorem append_all {ops : Array Oper} {rest : List Oper} {o : Oper} {a : Act} {Q : Exit → Act → World → Prop} {w : World} (hgd : o.guard = none) (s x : Operand)
    (ho : o.op = .call { callee := .builtin .append, args := #[s, x], argTypes := #[30, 30] })
    (g : Nat) (hs : a.eval s = .slice (some ⟨g, 0, none⟩) 0 0) (hg : g = w.heap.size) (a0 : Option Addr) (c0 A B : Nat) (xs : List (List UInt8)) (hx : a.eval x = .slice a0 xs.length c0) (hT : Txs A B w a0 xs) (hB : B ≤ w.heap.size) (hn : xs.length ≤ 100000)
    (h : ∀ g' c' V', Hid (Out13 w V' g' c' xs) → wpList Try.prog ops Q rest (a.put o.dst (.slice g' xs.length c')) V') :
    wpList Try.prog ops Q (o :: rest) a (w.alloc (.cells #[] 9)) := by
  subst hg
  refine append_rw hgd s x (t := 30) (e := 9) Try.underlying30 infoTx rfl ho w.heap.size 0 _ [] (txCells xs) hs (World.ownsRow_made w #[] 0 (Nat.le_refl _) (by unfold maxLen; omega) rfl) a0 xs.length c0 A B hx (txCells_len xs) (txs_rw.1 (hT.below ((Below.refl B w).alloc hB _))) (txCells_one xs) (by omega) (by decide) (by simp) ?_
  intro v' w' ho' hg'
  rw [List.nil_append, Nat.zero_add] at ho'
  obtain ⟨g', c', rfl, _, _, _⟩ := rw_own ho'
  refine h g' c' w' (Lib.hid ⟨ho', ?_⟩)
  refine ((Below.refl w.heap.size w).alloc (Nat.le_refl _) _).grown hg' (by simp) fun k hk => ?_
  simp [Value.ownBlock] at hk
  omega
set_option maxHeartbeats 2000000 in
theorem rset_any (a : Option Addr) (cap : Nat) (xs : List (List UInt8)) (p : Int) (v : List UInt8) (A : Nat) (w : World) (hx : Txs A w.heap.size w a xs) (hn : xs.length ≤ 100000) :
    Calls Try.prog 16 #[.slice a xs.length cap, .int .i64 p, .string (tx v)] w fun e w' => Gives13 w e w' (setL xs p v) (hasE xs.length p) := by
  by_cases hp : 0 ≤ p ∧ p < xs.length
  · obtain ⟨q, rfl⟩ : ∃ q : Nat, p = q := ⟨p.toNat, by omega⟩
    have hq : q < xs.length := by omega
    rw [(set_ok hq v).1, (set_ok hq v).2]
    have d1 : decide ((q : Int) < 0) = false := decide_eq_false (by omega)
    have d2 : decide ((xs.length : Int) ≤ (q : Int)) = false := decide_eq_false (by omega)
    have d2' : decide (xs.length ≤ q) = false := decide_eq_false (by omega)
    have i1 : (q : Int) < (xs.length : Int) := by omega
    have i3 : (0 : Int) ≤ (q : Int) := by omega
    clear hp
    go_enter Try.func16, Try.ntmps16
    go_wp2_with (at_builtin; refine append_all rfl _ _ rfl w.heap.size rfl rfl a cap A w.heap.size xs rfl hx (Nat.le_refl _) hn ?_)
    intro g c V HO
    obtain ⟨g0, hg0⟩ : ∃ g0, g = some ⟨g0, 0, none⟩ := by
      rcases Joins.ownsRow_forms HO.out.own with ⟨e, h0⟩ | ⟨g0, c0, e⟩
      · exfalso; omega
      · injection e with e1 _ _
        exact ⟨g0, e1⟩
    subst hg0
    have cO : V.cell? ⟨g0, q, none⟩ = some (.string (tx (rowAt xs q))) := by rw [HO.out.own.cellAt q (by omega), txCells_at xs q hq]
    have fO := HO.out.own.frozenAt q
    have hS := (HO.out.own.stored q (.string (tx v))).1
    rw [txCells_set] at hS
    have HS : Hid (Out13 w (V.setCell ⟨g0, q, none⟩ (.string (tx v))) (some ⟨g0, 0, none⟩) c (xs.set q v)) := Lib.hid ⟨by rw [List.length_set]; exact hS, HO.out.below.setCell (p := ⟨g0, q, none⟩) (HO.out.own.lt g0 rfl).1 _⟩
    clear hS
    go_wp2
    go_ret2
    have h := HS.out.txs
    exact ⟨some ⟨g0, 0, none⟩, c, by rw [List.length_set]; rfl, h.1, h.2, HS.out.below⟩
  · rw [(set_no hp v).1, (set_no hp v).2]
    by_cases h0 : p < 0
    · have d1 : decide (p < 0) = true := decide_eq_true h0
      clear hp h0
      go_enter Try.func16, Try.ntmps16
      go_wp2
      go_ret2
      exact ⟨none, 0, rfl, Nat.le_refl _, Or.inl rfl, Below.refl _ _⟩
    · have d1 : decide (p < 0) = false := decide_eq_false h0
      have d2 : decide ((xs.length : Int) ≤ p) = true := decide_eq_true (by omega)
      clear hp h0
      go_enter Try.func16, Try.ntmps16
      go_wp2
      go_ret2
      exact ⟨none, 0, rfl, Nat.le_refl _, Or.inl rfl, Below.refl _ _⟩
set_option maxHeartbeats 2000000 in
theorem rless_any (a : Option Addr) (cap : Nat) (xs : List (List UInt8)) (p : Int) (A : Nat) (w : World) (hx : Txs A w.heap.size w a xs) (hn : xs.length ≤ 100000) :
    Calls Try.prog 18 #[.slice a xs.length cap, .int .i64 p] w fun e w' => Gives13 w e w' (lessL xs p) (hasE xs.length p) := by
  have HX := Lib.hid hx
  clear hx
  by_cases hp : 0 ≤ p ∧ p < xs.length
  · obtain ⟨q, rfl⟩ : ∃ q : Nat, p = q := ⟨p.toNat, by omega⟩
    have hq : q < xs.length := by omega
    rw [(less_ok hq).1, (less_ok hq).2]
    have d1 : decide ((q : Int) < 0) = false := decide_eq_false (by omega)
    have d2 : decide ((xs.length : Int) ≤ (q : Int)) = false := decide_eq_false (by omega)
    have d2' : decide (xs.length ≤ q) = false := decide_eq_false (by omega)
    clear hp
    go_enter Try.func18, Try.ntmps18
    go_wp2
    go_loopw [6, 7] (fun s6 s7 wr => ∃ (k : Nat) (a8 : Option Addr) (c8 : Nat) (ys : List (List UInt8)), s6 = .slice a8 ys.length c8 ∧ s7 = .int .i64 k ∧ k ≤ xs.length ∧ Hid (Out13 w wr a8 c8 ys) ∧ Hid (ys = less13 (xs.take k) q)) (fun _ i _ => xs.length + 1 - (intOf i).toNat)
    case atStart => exact ⟨0, none, 0, [], rfl, rfl, by omega, Lib.hid (Out13.start w), Lib.hid (by unfold less13; simp)⟩
    case round =>
      obtain ⟨k, a8, c8, ys, rfl, rfl, hk, HO, HY⟩ := hrel
      have hyl : ys.length ≤ 100001 := by
        rw [HY.out]
        unfold less13
        rw [List.length_append, List.length_take, List.length_drop, List.length_take]
        omega
      by_cases hlt : k < xs.length
      · have i1 : (k : Int) < (xs.length : Int) := by omega
        have i3 : (0 : Int) ≤ (k : Int) := by omega
        have hg := rowAt_get xs k hlt
        by_cases hkq : k = q
        · have d3 : ((k : Int) != (q : Int)) = false := by rw [hkq]; simp
          have HN : Hid (ys = less13 (xs.take (k + 1)) q) := Lib.hid (by rw [HY.out, hkq, less_skip])
          clear hkq hg
          go_wp2
          go_roundw
          case rel => exact ⟨k + 1, a8, c8, ys, rfl, by first | rfl | go_num, by omega, HO, HN⟩
          case measure => first | (simp [intOf]; omega) | simp [intOf]
        · have d3 : ((k : Int) != (q : Int)) = true := by rw [bne_iff_ne]; omega
          have HN : Hid (ys ++ [rowAt xs k] = less13 (xs.take (k + 1)) q) := Lib.hid (by
            rw [HY.out]
            by_cases h : k < q
            · rw [less_low xs q k h _ hg]
            · rw [less_next xs q k (by omega) _ hg])
          rcases HX.out.below HO.out.below with h0 | ⟨b, off, rfl, _, _, hc⟩
          · exfalso; rw [h0] at hlt; simp at hlt
          have c0 := hc k hlt
          clear hc hkq hg
          go_wp2_with (at_builtin; refine append_out rfl _ _ rfl a8 c8 ys rfl HO.out (rowAt xs k) _ rfl rfl (by omega) ?_)
          intro a7 c7 V7 ts hts' hO7
          have hts := hts'.out
          clear hts'
          have HO7 := Lib.hid hO7
          rw [← hts] at HN
          clear hO7 hts
          go_wp2
          go_roundw
          case rel => exact ⟨k + 1, a7, c7, ts, rfl, by first | rfl | go_num, by omega, HO7, HN⟩
          case measure => first | (simp [intOf]; omega) | simp [intOf]
      · obtain rfl : k = xs.length := by omega
        have HN : Hid (ys = less13 xs q) := Lib.hid (by rw [HY.out, List.take_length])
        go_wp2
        go_ret2
        have h := HO.out.txs
        rw [← HN.out]
        exact ⟨a8, c8, rfl, h.1, h.2, HO.out.below⟩
  · rw [(less_no hp).1, (less_no hp).2]
    by_cases h0 : p < 0
    · have d1 : decide (p < 0) = true := decide_eq_true h0
      clear hp h0
      go_enter Try.func18, Try.ntmps18
      go_wp2
      go_ret2
      exact ⟨none, 0, rfl, Nat.le_refl _, Or.inl rfl, Below.refl _ _⟩
    · have d1 : decide (p < 0) = false := decide_eq_false h0
      have d2 : decide ((xs.length : Int) ≤ p) = true := decide_eq_true (by omega)
      clear hp h0
      go_enter Try.func18, Try.ntmps18
      go_wp2
      go_ret2
      exact ⟨none, 0, rfl, Nat.le_refl _, Or.inl rfl, Below.refl _ _⟩
set_option maxHeartbeats 2000000 in
theorem rlast_any (a : Option Addr) (cap : Nat) (xs : List (List UInt8)) (p : Int) (A : Nat) (w : World) (hx : Txs A w.heap.size w a xs) (hn : xs.length ≤ 100000) :
    Calls Try.prog 21 #[.slice a xs.length cap, .int .i64 p] w fun e w' => Tells13 w e w' (last13 xs p) := by
  have HX := Lib.hid hx
  clear hx
  go_enter Try.func21, Try.ntmps21
  go_wp2
  go_loopw [5, 6] (fun s5 s6 wr => ∃ (k : Nat) (a8 : Option Addr) (c8 : Nat) (ys : List (List UInt8)), s5 = .slice a8 ys.length c8 ∧ s6 = .int .i64 k ∧ k ≤ xs.length ∧ Hid (Out13 w wr a8 c8 ys) ∧ Hid (ys = (xs.take k).drop (xs.length - p.toNat))) (fun _ i _ => xs.length + 1 - (intOf i).toNat)
  case atStart => exact ⟨0, none, 0, [], rfl, rfl, by omega, Lib.hid (Out13.start w), Lib.hid (by simp)⟩
  case round =>
    obtain ⟨k, a8, c8, ys, rfl, rfl, hk, HO, HY⟩ := hrel
    have hyl : ys.length ≤ 100001 := by
      rw [HY.out, List.length_drop, List.length_take]
      omega
    by_cases hlt : k < xs.length
    · have i1 : (k : Int) < (xs.length : Int) := by omega
      have i3 : (0 : Int) ≤ (k : Int) := by omega
      have i4 : IntKind.i64.wrap ((xs.length : Int) - (k : Int)) = (xs.length : Int) - (k : Int) := IntWalk.i64_in _ (by omega)
      have hg := rowAt_get xs k hlt
      by_cases hkq : (xs.length : Int) - k ≤ p
      · have d3 : decide ((xs.length : Int) - (k : Int) ≤ p) = true := decide_eq_true hkq
        have HN : Hid (ys ++ [rowAt xs k] = (xs.take (k + 1)).drop (xs.length - p.toNat)) := Lib.hid (by rw [HY.out, last_next xs p k hkq _ hg])
        rcases HX.out.below HO.out.below with h0 | ⟨b, off, rfl, _, _, hc⟩
        · exfalso; rw [h0] at hlt; simp at hlt
        have c0 := hc k hlt
        clear hc hkq hg
        go_wp2_with (at_builtin; refine append_out rfl _ _ rfl a8 c8 ys rfl HO.out (rowAt xs k) _ rfl rfl (by omega) ?_)
        intro a7 c7 V7 ts hts' hO7
        have hts := hts'.out
        clear hts'
        have HO7 := Lib.hid hO7
        rw [← hts] at HN
        clear hO7 hts
        go_wp2
        go_roundw
        case rel => exact ⟨k + 1, a7, c7, ts, rfl, by first | rfl | go_num, by omega, HO7, HN⟩
        case measure => first | (simp [intOf]; omega) | simp [intOf]
      · have d3 : decide ((xs.length : Int) - (k : Int) ≤ p) = false := decide_eq_false hkq
        have HN : Hid (ys = (xs.take (k + 1)).drop (xs.length - p.toNat)) := Lib.hid (by rw [HY.out, last_low xs p k hkq hlt])
        clear hkq hg
        go_wp2
        go_roundw
        case rel => exact ⟨k + 1, a8, c8, ys, rfl, by first | rfl | go_num, by omega, HO, HN⟩
        case measure => first | (simp [intOf]; omega) | simp [intOf]
    · obtain rfl : k = xs.length := by omega
      have HN : Hid (ys = last13 xs p) := Lib.hid (by rw [HY.out, List.take_length]; rfl)
      go_wp2
      go_ret
      have h := HO.out.txs
      rw [← HN.out]
      exact ⟨a8, c8, rfl, h.1, h.2, HO.out.below⟩
end Go.Proofs.Ytnamoinedajoaaa
