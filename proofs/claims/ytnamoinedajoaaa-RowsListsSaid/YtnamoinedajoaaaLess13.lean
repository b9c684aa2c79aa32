/- The program's list with one less, for every row of texts and in every world. -/
import Derived.Test.YtnamoinedajoaaaRcallB13
namespace Go.Proofs.Ytnamoinedajoaaa
open Go.RowKit

theorem two_new (w : World) (x y : Value) (t : TypeId) : (w.alloc (.cells #[x, y] t)).cell? ⟨w.heap.size, 0, none⟩ = some x ∧ (w.alloc (.cells #[x, y] t)).cell? ⟨w.heap.size, 1, none⟩ = some y := by
  have h0 := lit_cell w #[x, y] t 0 x rfl
  have h1 := lit_cell w #[x, y] t 1 y rfl
  exact ⟨h0, by rw [Nat.zero_add] at h1; exact h1⟩
set_option maxHeartbeats 4000000 in
theorem pless_any (ao : Option Addr) (n cap : Nat) (p : Int) (cs : List Value) (A : Nat) (w : World) (hl : cs.length = n) (hc : n ≤ cap) (hn : n ≤ 100000) (hx : Rw A w.heap.size w ao cs) (hone : ∀ u ∈ cs, u.oneCell' = true) :
    Calls Try.prog 17 #[.slice ao n cap, .int .i64 p] w fun e w' => GivesC w e w' (lessL cs p) (hasE n p) := by
  have HH : Hid (∀ W, Calls Try.prog 28 #[.slice ao n cap, .int .i64 p] W fun e w' => e = .returned (.bool (decide (0 ≤ p ∧ p < n))) ∧ W = w') := Lib.hid fun W => has_tx ao n cap p W
  by_cases hp : 0 ≤ p ∧ p < n
  · obtain ⟨q, rfl⟩ : ∃ q : Nat, p = q := ⟨p.toNat, by omega⟩
    have hq : q < n := by omega
    rw [decide_eq_true hp] at HH
    have hw := less_ok (l := cs) (p := q) (by omega)
    rw [hl] at hw
    rw [hw.1, hw.2]
    obtain ⟨a', hs, ha⟩ := row_from sl_tx sz_tx ao n cap (q + 1) hq hc
    have hs1 := fun W => row_to sl_tx sz_tx ao n cap q (by omega) hc W
    have i9 : IntKind.i64.wrap ((q : Int) + 1) = (q : Int) + 1 := IntWalk.i64_in _ (by omega)
    simp only [show ((q + 1 : Nat) : Int) = (q : Int) + 1 from rfl] at hs
    have HU : Hid (Calls Try.prog 29 #[.slice (some ⟨w.heap.size, 0, none⟩) 2 2] (w.alloc (.cells #[.slice ao q cap, .slice a' (n - (q + 1)) (cap - (q + 1))] 30)).drew fun e w' => ∃ v, e = .returned v ∧ w'.ownsRow w.heap.size 9 1 v (n - 1) (less13 cs q) ∧ Below w.heap.size w w') := Lib.hid (by
      have hb2 := ((Below.refl w.heap.size w).alloc (Nat.le_refl _) (.cells #[.slice ao q cap, .slice a' (n - (q + 1)) (cap - (q + 1))] 30)).drew
      obtain ⟨h0, h1⟩ := two_new w (.slice ao q cap) (.slice a' (n - (q + 1)) (cap - (q + 1))) 30
      refine (pconcat_two w.heap.size q (n - (q + 1)) cap (cap - (q + 1)) ao a' (cs.take q) (cs.drop (q + 1)) A w.heap.size (w.alloc (.cells #[.slice ao q cap, .slice a' (n - (q + 1)) (cap - (q + 1))] 30)).drew h0 h1 (by rw [List.length_take]; omega) (by rw [List.length_drop, hl]) (by omega) ((hx.below hb2).take q) (ha A w.heap.size _ cs hl (hx.below hb2)) hb2.size (fun u hu => hone u (List.mem_of_mem_take hu)) (fun u hu => hone u (List.mem_of_mem_drop hu))).mono ?_
      rintro e w' ⟨v, rfl, ho, hb⟩
      rw [show q + (n - (q + 1)) = n - 1 by omega] at ho
      exact ⟨v, rfl, own_base ho hb2.size, hb2.trans (hb.mono hb2.size)⟩)
    clear hp hx hone ha hw hl
    go_enter Try.func17, Try.ntmps17
    go_upto_region 3 with (go_at_call 28; refine (HH.out _).mono ?_; rintro e w1 ⟨rfl, rfl⟩)
    go_region_held3 (fun _ => True) (trivial) (first
      | (go_at_call 29; refine HU.out.mono ?_; rintro e w2 ⟨v, rfl, ho, hb⟩; have HV := Lib.hid (And.intro ho hb); clear ho hb)
      | fail)
    all_goals (
      obtain ⟨a3, c3, rfl, _, _, _⟩ := rw_own HV.out.1
      have hlen : (less13 cs q).length = n - 1 := by have := HV.out.1.1; omega
      have hG := Lib.hid (gives_own (E := 0) HV.out.1 (Nat.le_refl _) HV.out.2)
      go_wp2
      go_ret2
      exact hG.out)
  · rw [decide_eq_false hp] at HH
    have hw := less_no (l := cs) (p := p) (by omega)
    rw [hl] at hw
    rw [hw.1, hw.2]
    clear hp hw
    go_enter Try.func17, Try.ntmps17
    go_wp2_with (go_at_call 28; refine (HH.out _).mono ?_; rintro e w1 ⟨rfl, rfl⟩)
    go_ret2
    exact gives_none w 2
end Go.Proofs.Ytnamoinedajoaaa
