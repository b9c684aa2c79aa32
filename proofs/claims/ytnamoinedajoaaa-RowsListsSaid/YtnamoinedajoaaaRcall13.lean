/- The program's lists with one more and with another one, of texts and of numbers: for every row, in every world. (Written by gen_prog13.py.) -/
import Derived.Test.YtnamoinedajoaaaRw13
import Derived.Test.YtnamoinedajoaaaRow13
import Derived.BigRegion
import Derived.Deep.RegionLaw
import Derived.Deep.RegionHeld3
import Derived.Deep.CutBlock
namespace Go.Proofs.Ytnamoinedajoaaa
open Go.RowKit

/-- What a call that makes a list tells: its cells, and what is wrong. -/
def GivesC (w : World) (e : Ending) (w' : World) (cs : List Value) (E : Int) : Prop :=
  ∃ a c, e = .returned (.tuple #[.slice a cs.length c, .int .i64 E]) ∧ cs.length ≤ c ∧ Rw w.heap.size w'.heap.size w' a cs ∧ Below w.heap.size w w'
theorem gives_own {w w' : World} {B n : Nat} {e : TypeId} {a : Option Addr} {c : Nat} {cs : List Value} {E : Int} (h : w'.ownsRow B e 1 (.slice a n c) n cs) (hB : w.heap.size ≤ B) (hb : Below w.heap.size w w') :
    GivesC w (.returned (.tuple #[.slice a n c, .int .i64 E])) w' cs E := by
  obtain ⟨a', c', hv, hc, hl, hr⟩ := rw_own h
  injection hv with h1 _ h3
  subst h1 h3
  exact ⟨a, c, by rw [hl], by omega, hr.wide hB (Nat.le_refl _), hb⟩
theorem gives_none (w : World) (E : Int) : GivesC w (.returned (.tuple #[.slice none 0 0, .int .i64 E])) w [] E := ⟨none, 0, rfl, Nat.le_refl _, Or.inl rfl, Below.refl _ _⟩
theorem below_own {w V V' : World} {B n : Nat} {e : TypeId} {v : Value} {cs : List Value} (hb : Below w.heap.size w V) (h : V.ownsRow B e 1 v n cs) (hB : w.heap.size ≤ B) (hg : V.grownBy V' v.ownBlock) : Below w.heap.size w V' :=
  hb.grown hg hb.size fun k hk => Nat.le_trans hB (h.lt k hk).1
theorem set_cut {α : Type} (l : List α) (p : Nat) (h : p < l.length) (v : α) : l.take p ++ [v] ++ l.drop (p + 1) = l.set p v := by
  rw [List.set_eq_take_append_cons_drop, if_pos h, List.append_assoc]
  rfl
theorem with_cut {α : Type} (l : List α) (p : Nat) (v : α) : l.take p ++ [v] ++ l.drop p = with13 l p v := by
  unfold with13
  rw [List.append_assoc]
  rfl

theorem sl_tx : Try.prog.underlying 30 = some (.slice (Try.prog.elem 30)) := by kernel_rfl
theorem sz_tx (w : World) : (Go.sizeOf (Try.prog.elem 30)).run Try.prog w = .ok 1 w := by
  have h : Try.prog.elem 30 = 9 := by kernel_rfl
  obtain ⟨i, hi, _, h1, _⟩ := info_parts infoTx
  rw [h]
  simp [Go.sizeOf, typeInfo, hi, h1]
set_option maxHeartbeats 2000000 in
theorem upto_tx (ao : Option Addr) (n cap p : Nat) (x : ByteArray) (cs : List Value) (A B : Nat) (w : World) (hl : cs.length = n) (hc : n ≤ cap) (hp : p ≤ n) (hn : n ≤ 100000) (hx : Rw A B w ao cs) (hB : B ≤ w.heap.size) :
    Calls Try.prog 27 #[.slice ao n cap, .int .i64 (p : Int), .string x] w fun e w' => ∃ v, e = .returned v ∧ w'.ownsRow w.heap.size 9 1 v (p + 1) (cs.take p ++ [.string x]) ∧ Below w.heap.size w w' := by
  have hs := fun W => row_full sl_tx sz_tx ao n cap p hp hc W
  have HX := Lib.hid (hx.take p)
  have HB := Lib.hid hB
  have HL : Hid ((cs.take p).length = p) := Lib.hid (by rw [List.length_take]; omega)
  clear hx hB hl hc
  generalize cs.take p = ds at *
  go_enter Try.func27, Try.ntmps27
  go_wp2_with (at_builtin; refine append_full rfl _ _ Try.underlying30 infoTx rfl rfl A w.heap.size p ds ao rfl HL.out (HX.out.below ((Below.refl B w).alloc HB.out _) |>.wide (Nat.le_refl _) HB.out) (.string x) w.heap.size rfl (by simp [lit_cell w #[.string x] 9 0 _ rfl]) rfl (by omega) (by decide) ?_)
  intro v' w' ho hg
  have HO := Lib.hid (own_base ho (B' := w.heap.size) (by simp))
  have hb : Below w.heap.size w w' := ((Below.refl w.heap.size w).alloc (Nat.le_refl _) _).grown hg (by simp) fun k hk => by cases hk
  have HB2 := Lib.hid hb
  clear ho hg hb
  go_wp2
  go_ret
  exact ⟨v', rfl, HO.out, HB2.out⟩
theorem has_tx (ao : Option Addr) (n cap : Nat) (p : Int) (w : World) :
    Calls Try.prog 28 #[.slice ao n cap, .int .i64 p] w fun e w' => e = .returned (.bool (decide (0 ≤ p ∧ p < n))) ∧ w = w' := by
  by_cases h0 : 0 ≤ p
  · have d1 : decide (0 ≤ p) = true := decide_eq_true h0
    have HR : Hid (decide (0 ≤ p ∧ p < n) = decide (p < (n : Int))) := Lib.hid (by simp [h0])
    clear h0
    go_enter Try.func28, Try.ntmps28
    go_wp2
    go_ret
    exact ⟨by rw [HR.out]; rfl, rfl⟩
  · have d1 : decide (0 ≤ p) = false := decide_eq_false h0
    have HR : Hid (decide (0 ≤ p ∧ p < n) = false) := Lib.hid (by simp [h0])
    clear h0
    go_enter Try.func28, Try.ntmps28
    go_wp2
    go_ret
    exact ⟨by rw [HR.out]; rfl, rfl⟩
set_option maxHeartbeats 4000000 in
theorem pwith_tx (ao : Option Addr) (n cap : Nat) (p : Int) (x : ByteArray) (cs : List Value) (A : Nat) (w : World) (hl : cs.length = n) (hc : n ≤ cap) (hn : n ≤ 100000) (hx : Rw A w.heap.size w ao cs) (hone : ∀ u ∈ cs, u.oneCell' = true) :
    Calls Try.prog 13 #[.slice ao n cap, .int .i64 p, .string x] w fun e w' => GivesC w e w' (withL cs p (.string x)) (withE n p) := by
  by_cases hp : 0 ≤ p ∧ p ≤ n
  · obtain ⟨q, rfl⟩ : ∃ q : Nat, p = q := ⟨p.toNat, by omega⟩
    have hq : q ≤ n := by omega
    have hw := with_ok (l := cs) (p := q) (by omega) (.string x)
    rw [hl] at hw
    rw [hw.1, hw.2]
    have d1 : decide ((q : Int) < 0) = false := decide_eq_false (by omega)
    have d2 : decide ((n : Int) < (q : Int)) = false := decide_eq_false (by omega)
    have d2' : decide (n < q) = false := decide_eq_false (by omega)
    obtain ⟨a', hs, ha⟩ := row_from sl_tx sz_tx ao n cap q hq hc
    have HU : Hid (∀ W, Below w.heap.size w W → Calls Try.prog 27 #[.slice ao n cap, .int .i64 (q : Int), .string x] W fun e w' => ∃ v, e = .returned v ∧ w'.ownsRow W.heap.size 9 1 v (q + 1) (cs.take q ++ [.string x]) ∧ Below W.heap.size W w') := Lib.hid fun W hW => upto_tx ao n cap q x cs A w.heap.size W hl hc hq hn (hx.below hW) hW.size
    have HD : Hid (∀ W, Below w.heap.size w W → Rw A w.heap.size W a' (cs.drop q)) := Lib.hid fun W hW => ha A w.heap.size W cs hl (hx.below hW)
    have HL : Hid ((cs.drop q).length = n - q) := Lib.hid (by rw [List.length_drop, hl])
    have HO : Hid (∀ u ∈ cs.drop q, u.oneCell' = true) := Lib.hid fun u hu => hone u (List.mem_of_mem_drop hu)
    have HC := Lib.hid (with_cut cs q (.string x))
    have hsum : q + 1 + (n - q) = n + 1 := by omega
    clear hp hx hone ha hw hl
    go_enter Try.func13, Try.ntmps13
    go_upto_region 3 with fail
    go_region_held3 (fun _ => True) (trivial) (first
      | (go_at_call 27; refine (HU.out _ (by first | exact Below.refl _ _ | exact (Below.refl _ _).drew | exact drawn_below (Below.refl _ _) _)).mono ?_; rintro e w2 ⟨v, rfl, ho, hb⟩; have HV := Lib.hid (And.intro ho hb); clear ho hb)
      | (refine step_append_rw rfl _ _ Try.underlying30 infoTx rfl rfl w.heap.size (q + 1) v _ (cs.drop q) rfl (own_base HV.out.1 (by first | exact Nat.le_refl _ | simp)) a' (n - q) (cap - q) A w.heap.size rfl HL.out (HD.out _ ((show Below w.heap.size w _ from by first | exact HV.out.2 | exact (Below.refl _ _).drew.trans HV.out.2 | exact (drawn_below (Below.refl _ _) _).trans HV.out.2))) HO.out (by omega) (by decide) (by have := HV.out.2.size; simpa using this) ?_; intro v3 w3 ho3 hg3))
    all_goals (
      have hb3 := below_own (w := w) (by first | exact HV.out.2 | exact (Below.refl _ _).drew.trans HV.out.2 | exact (drawn_below (Below.refl _ _) _).trans HV.out.2) (own_base HV.out.1 (B' := w.heap.size) (by first | exact Nat.le_refl _ | simp)) (Nat.le_refl _) hg3
      rw [HC.out, hsum] at ho3
      obtain ⟨a3, c3, rfl, _, _, _⟩ := rw_own ho3
      have hG := Lib.hid (gives_own (E := 0) ho3 (Nat.le_refl _) hb3)
      clear ho3 hg3 hb3
      go_wp2
      go_ret2
      exact hG.out)
  · have hw := with_no (l := cs) (p := p) (by omega) (.string x)
    rw [hl] at hw
    rw [hw.1, hw.2]
    by_cases h0 : p < 0
    · have d1 : decide (p < 0) = true := decide_eq_true h0
      clear hp h0 hw
      go_enter Try.func13, Try.ntmps13
      go_wp2
      go_ret2
      exact gives_none w 2
    · have d1 : decide (p < 0) = false := decide_eq_false h0
      have d2 : decide ((n : Int) < p) = true := decide_eq_true (by omega)
      clear hp h0 hw
      go_enter Try.func13, Try.ntmps13
      go_wp2
      go_ret2
      exact gives_none w 2
set_option maxHeartbeats 4000000 in
theorem pset_tx (ao : Option Addr) (n cap : Nat) (p : Int) (x : ByteArray) (cs : List Value) (A : Nat) (w : World) (hl : cs.length = n) (hc : n ≤ cap) (hn : n ≤ 100000) (hx : Rw A w.heap.size w ao cs) (hone : ∀ u ∈ cs, u.oneCell' = true) :
    Calls Try.prog 15 #[.slice ao n cap, .int .i64 p, .string x] w fun e w' => GivesC w e w' (setL cs p (.string x)) (hasE n p) := by
  have HH : Hid (∀ W, Calls Try.prog 28 #[.slice ao n cap, .int .i64 p] W fun e w' => e = .returned (.bool (decide (0 ≤ p ∧ p < n))) ∧ W = w') := Lib.hid fun W => has_tx ao n cap p W
  by_cases hp : 0 ≤ p ∧ p < n
  · obtain ⟨q, rfl⟩ : ∃ q : Nat, p = q := ⟨p.toNat, by omega⟩
    have hq : q < n := by omega
    rw [decide_eq_true hp] at HH
    have hw := set_ok (l := cs) (p := q) (by omega) (.string x)
    rw [hl] at hw
    rw [hw.1, hw.2]
    obtain ⟨a', hs, ha⟩ := row_from sl_tx sz_tx ao n cap (q + 1) hq hc
    have i9 : IntKind.i64.wrap ((q : Int) + 1) = (q : Int) + 1 := IntWalk.i64_in _ (by omega)
    simp only [show ((q + 1 : Nat) : Int) = (q : Int) + 1 from rfl] at hs
    have HU : Hid (∀ W, Below w.heap.size w W → Calls Try.prog 27 #[.slice ao n cap, .int .i64 (q : Int), .string x] W fun e w' => ∃ v, e = .returned v ∧ w'.ownsRow W.heap.size 9 1 v (q + 1) (cs.take q ++ [.string x]) ∧ Below W.heap.size W w') := Lib.hid fun W hW => upto_tx ao n cap q x cs A w.heap.size W hl hc (by omega) hn (hx.below hW) hW.size
    have HD : Hid (∀ W, Below w.heap.size w W → Rw A w.heap.size W a' (cs.drop (q + 1))) := Lib.hid fun W hW => ha A w.heap.size W cs hl (hx.below hW)
    have HL : Hid ((cs.drop (q + 1)).length = n - (q + 1)) := Lib.hid (by rw [List.length_drop, hl])
    have HO : Hid (∀ u ∈ cs.drop (q + 1), u.oneCell' = true) := Lib.hid fun u hu => hone u (List.mem_of_mem_drop hu)
    have HC := Lib.hid (set_cut cs q (by omega) (.string x))
    have hsum : q + 1 + (n - (q + 1)) = n := by omega
    clear hp hx hone ha hw hl
    go_enter Try.func15, Try.ntmps15
    go_upto_region 3 with (go_at_call 28; refine (HH.out _).mono ?_; rintro e w1 ⟨rfl, rfl⟩)
    go_region_held3 (fun _ => True) (trivial) (first
      | (go_at_call 27; refine (HU.out _ (by first | exact Below.refl _ _ | exact (Below.refl _ _).drew | exact drawn_below (Below.refl _ _) _)).mono ?_; rintro e w2 ⟨v, rfl, ho, hb⟩; have HV := Lib.hid (And.intro ho hb); clear ho hb)
      | (refine step_append_rw rfl _ _ Try.underlying30 infoTx rfl rfl w.heap.size (q + 1) v _ (cs.drop (q + 1)) rfl (own_base HV.out.1 (by first | exact Nat.le_refl _ | simp)) a' (n - (q + 1)) (cap - (q + 1)) A w.heap.size rfl HL.out (HD.out _ ((show Below w.heap.size w _ from by first | exact HV.out.2 | exact (Below.refl _ _).drew.trans HV.out.2 | exact (drawn_below (Below.refl _ _) _).trans HV.out.2))) HO.out (by omega) (by decide) (by have := HV.out.2.size; simpa using this) ?_; intro v3 w3 ho3 hg3))
    all_goals (
      have hb3 := below_own (w := w) (by first | exact HV.out.2 | exact (Below.refl _ _).drew.trans HV.out.2 | exact (drawn_below (Below.refl _ _) _).trans HV.out.2) (own_base HV.out.1 (B' := w.heap.size) (by first | exact Nat.le_refl _ | simp)) (Nat.le_refl _) hg3
      rw [HC.out, hsum] at ho3
      obtain ⟨a3, c3, rfl, _, _, _⟩ := rw_own ho3
      have hG := Lib.hid (gives_own (E := 0) ho3 (Nat.le_refl _) hb3)
      clear ho3 hg3 hb3
      go_wp2
      go_ret2
      exact hG.out)
  · rw [decide_eq_false hp] at HH
    have hw := set_no (l := cs) (p := p) (by omega) (.string x)
    rw [hl] at hw
    rw [hw.1, hw.2]
    clear hp hw
    go_enter Try.func15, Try.ntmps15
    go_wp2_with (go_at_call 28; refine (HH.out _).mono ?_; rintro e w1 ⟨rfl, rfl⟩)
    go_ret2
    exact gives_none w 2

theorem sl_in : Try.prog.underlying 22 = some (.slice (Try.prog.elem 22)) := by kernel_rfl
theorem sz_in (w : World) : (Go.sizeOf (Try.prog.elem 22)).run Try.prog w = .ok 1 w := by
  have h : Try.prog.elem 22 = 3 := by kernel_rfl
  obtain ⟨i, hi, _, h1, _⟩ := info_parts infoInt
  rw [h]
  simp [Go.sizeOf, typeInfo, hi, h1]
set_option maxHeartbeats 2000000 in
theorem upto_in (ao : Option Addr) (n cap p : Nat) (x : Int) (cs : List Value) (A B : Nat) (w : World) (hl : cs.length = n) (hc : n ≤ cap) (hp : p ≤ n) (hn : n ≤ 100000) (hx : Rw A B w ao cs) (hB : B ≤ w.heap.size) :
    Calls Try.prog 31 #[.slice ao n cap, .int .i64 (p : Int), .int .i64 x] w fun e w' => ∃ v, e = .returned v ∧ w'.ownsRow w.heap.size 3 1 v (p + 1) (cs.take p ++ [.int .i64 x]) ∧ Below w.heap.size w w' := by
  have hs := fun W => row_full sl_in sz_in ao n cap p hp hc W
  have HX := Lib.hid (hx.take p)
  have HB := Lib.hid hB
  have HL : Hid ((cs.take p).length = p) := Lib.hid (by rw [List.length_take]; omega)
  clear hx hB hl hc
  generalize cs.take p = ds at *
  go_enter Try.func31, Try.ntmps31
  go_wp2_with (at_builtin; refine append_full rfl _ _ Try.underlying22 infoInt rfl rfl A w.heap.size p ds ao rfl HL.out (HX.out.below ((Below.refl B w).alloc HB.out _) |>.wide (Nat.le_refl _) HB.out) (.int .i64 x) w.heap.size rfl (by simp [lit_cell w #[.int .i64 x] 3 0 _ rfl]) rfl (by omega) (by decide) ?_)
  intro v' w' ho hg
  have HO := Lib.hid (own_base ho (B' := w.heap.size) (by simp))
  have hb : Below w.heap.size w w' := ((Below.refl w.heap.size w).alloc (Nat.le_refl _) _).grown hg (by simp) fun k hk => by cases hk
  have HB2 := Lib.hid hb
  clear ho hg hb
  go_wp2
  go_ret
  exact ⟨v', rfl, HO.out, HB2.out⟩
theorem has_in (ao : Option Addr) (n cap : Nat) (p : Int) (w : World) :
    Calls Try.prog 32 #[.slice ao n cap, .int .i64 p] w fun e w' => e = .returned (.bool (decide (0 ≤ p ∧ p < n))) ∧ w = w' := by
  by_cases h0 : 0 ≤ p
  · have d1 : decide (0 ≤ p) = true := decide_eq_true h0
    have HR : Hid (decide (0 ≤ p ∧ p < n) = decide (p < (n : Int))) := Lib.hid (by simp [h0])
    clear h0
    go_enter Try.func32, Try.ntmps32
    go_wp2
    go_ret
    exact ⟨by rw [HR.out]; rfl, rfl⟩
  · have d1 : decide (0 ≤ p) = false := decide_eq_false h0
    have HR : Hid (decide (0 ≤ p ∧ p < n) = false) := Lib.hid (by simp [h0])
    clear h0
    go_enter Try.func32, Try.ntmps32
    go_wp2
    go_ret
    exact ⟨by rw [HR.out]; rfl, rfl⟩
set_option maxHeartbeats 4000000 in
theorem pwith_in (ao : Option Addr) (n cap : Nat) (p : Int) (x : Int) (cs : List Value) (A : Nat) (w : World) (hl : cs.length = n) (hc : n ≤ cap) (hn : n ≤ 100000) (hx : Rw A w.heap.size w ao cs) (hone : ∀ u ∈ cs, u.oneCell' = true) :
    Calls Try.prog 22 #[.slice ao n cap, .int .i64 p, .int .i64 x] w fun e w' => GivesC w e w' (withL cs p (.int .i64 x)) (withE n p) := by
  by_cases hp : 0 ≤ p ∧ p ≤ n
  · obtain ⟨q, rfl⟩ : ∃ q : Nat, p = q := ⟨p.toNat, by omega⟩
    have hq : q ≤ n := by omega
    have hw := with_ok (l := cs) (p := q) (by omega) (.int .i64 x)
    rw [hl] at hw
    rw [hw.1, hw.2]
    have d1 : decide ((q : Int) < 0) = false := decide_eq_false (by omega)
    have d2 : decide ((n : Int) < (q : Int)) = false := decide_eq_false (by omega)
    have d2' : decide (n < q) = false := decide_eq_false (by omega)
    obtain ⟨a', hs, ha⟩ := row_from sl_in sz_in ao n cap q hq hc
    have HU : Hid (∀ W, Below w.heap.size w W → Calls Try.prog 31 #[.slice ao n cap, .int .i64 (q : Int), .int .i64 x] W fun e w' => ∃ v, e = .returned v ∧ w'.ownsRow W.heap.size 3 1 v (q + 1) (cs.take q ++ [.int .i64 x]) ∧ Below W.heap.size W w') := Lib.hid fun W hW => upto_in ao n cap q x cs A w.heap.size W hl hc hq hn (hx.below hW) hW.size
    have HD : Hid (∀ W, Below w.heap.size w W → Rw A w.heap.size W a' (cs.drop q)) := Lib.hid fun W hW => ha A w.heap.size W cs hl (hx.below hW)
    have HL : Hid ((cs.drop q).length = n - q) := Lib.hid (by rw [List.length_drop, hl])
    have HO : Hid (∀ u ∈ cs.drop q, u.oneCell' = true) := Lib.hid fun u hu => hone u (List.mem_of_mem_drop hu)
    have HC := Lib.hid (with_cut cs q (.int .i64 x))
    have hsum : q + 1 + (n - q) = n + 1 := by omega
    clear hp hx hone ha hw hl
    go_enter Try.func22, Try.ntmps22
    go_upto_region 3 with fail
    go_region_held3 (fun _ => True) (trivial) (first
      | (go_at_call 31; refine (HU.out _ (by first | exact Below.refl _ _ | exact (Below.refl _ _).drew | exact drawn_below (Below.refl _ _) _)).mono ?_; rintro e w2 ⟨v, rfl, ho, hb⟩; have HV := Lib.hid (And.intro ho hb); clear ho hb)
      | (refine step_append_rw rfl _ _ Try.underlying22 infoInt rfl rfl w.heap.size (q + 1) v _ (cs.drop q) rfl (own_base HV.out.1 (by first | exact Nat.le_refl _ | simp)) a' (n - q) (cap - q) A w.heap.size rfl HL.out (HD.out _ ((show Below w.heap.size w _ from by first | exact HV.out.2 | exact (Below.refl _ _).drew.trans HV.out.2 | exact (drawn_below (Below.refl _ _) _).trans HV.out.2))) HO.out (by omega) (by decide) (by have := HV.out.2.size; simpa using this) ?_; intro v3 w3 ho3 hg3))
    all_goals (
      have hb3 := below_own (w := w) (by first | exact HV.out.2 | exact (Below.refl _ _).drew.trans HV.out.2 | exact (drawn_below (Below.refl _ _) _).trans HV.out.2) (own_base HV.out.1 (B' := w.heap.size) (by first | exact Nat.le_refl _ | simp)) (Nat.le_refl _) hg3
      rw [HC.out, hsum] at ho3
      obtain ⟨a3, c3, rfl, _, _, _⟩ := rw_own ho3
      have hG := Lib.hid (gives_own (E := 0) ho3 (Nat.le_refl _) hb3)
      clear ho3 hg3 hb3
      go_wp2
      go_ret2
      exact hG.out)
  · have hw := with_no (l := cs) (p := p) (by omega) (.int .i64 x)
    rw [hl] at hw
    rw [hw.1, hw.2]
    by_cases h0 : p < 0
    · have d1 : decide (p < 0) = true := decide_eq_true h0
      clear hp h0 hw
      go_enter Try.func22, Try.ntmps22
      go_wp2
      go_ret2
      exact gives_none w 2
    · have d1 : decide (p < 0) = false := decide_eq_false h0
      have d2 : decide ((n : Int) < p) = true := decide_eq_true (by omega)
      clear hp h0 hw
      go_enter Try.func22, Try.ntmps22
      go_wp2
      go_ret2
      exact gives_none w 2
set_option maxHeartbeats 4000000 in
theorem pset_in (ao : Option Addr) (n cap : Nat) (p : Int) (x : Int) (cs : List Value) (A : Nat) (w : World) (hl : cs.length = n) (hc : n ≤ cap) (hn : n ≤ 100000) (hx : Rw A w.heap.size w ao cs) (hone : ∀ u ∈ cs, u.oneCell' = true) :
    Calls Try.prog 23 #[.slice ao n cap, .int .i64 p, .int .i64 x] w fun e w' => GivesC w e w' (setL cs p (.int .i64 x)) (hasE n p) := by
  have HH : Hid (∀ W, Calls Try.prog 32 #[.slice ao n cap, .int .i64 p] W fun e w' => e = .returned (.bool (decide (0 ≤ p ∧ p < n))) ∧ W = w') := Lib.hid fun W => has_in ao n cap p W
  by_cases hp : 0 ≤ p ∧ p < n
  · obtain ⟨q, rfl⟩ : ∃ q : Nat, p = q := ⟨p.toNat, by omega⟩
    have hq : q < n := by omega
    rw [decide_eq_true hp] at HH
    have hw := set_ok (l := cs) (p := q) (by omega) (.int .i64 x)
    rw [hl] at hw
    rw [hw.1, hw.2]
    obtain ⟨a', hs, ha⟩ := row_from sl_in sz_in ao n cap (q + 1) hq hc
    have i9 : IntKind.i64.wrap ((q : Int) + 1) = (q : Int) + 1 := IntWalk.i64_in _ (by omega)
    simp only [show ((q + 1 : Nat) : Int) = (q : Int) + 1 from rfl] at hs
    have HU : Hid (∀ W, Below w.heap.size w W → Calls Try.prog 31 #[.slice ao n cap, .int .i64 (q : Int), .int .i64 x] W fun e w' => ∃ v, e = .returned v ∧ w'.ownsRow W.heap.size 3 1 v (q + 1) (cs.take q ++ [.int .i64 x]) ∧ Below W.heap.size W w') := Lib.hid fun W hW => upto_in ao n cap q x cs A w.heap.size W hl hc (by omega) hn (hx.below hW) hW.size
    have HD : Hid (∀ W, Below w.heap.size w W → Rw A w.heap.size W a' (cs.drop (q + 1))) := Lib.hid fun W hW => ha A w.heap.size W cs hl (hx.below hW)
    have HL : Hid ((cs.drop (q + 1)).length = n - (q + 1)) := Lib.hid (by rw [List.length_drop, hl])
    have HO : Hid (∀ u ∈ cs.drop (q + 1), u.oneCell' = true) := Lib.hid fun u hu => hone u (List.mem_of_mem_drop hu)
    have HC := Lib.hid (set_cut cs q (by omega) (.int .i64 x))
    have hsum : q + 1 + (n - (q + 1)) = n := by omega
    clear hp hx hone ha hw hl
    go_enter Try.func23, Try.ntmps23
    go_upto_region 3 with (go_at_call 32; refine (HH.out _).mono ?_; rintro e w1 ⟨rfl, rfl⟩)
    go_region_held3 (fun _ => True) (trivial) (first
      | (go_at_call 31; refine (HU.out _ (by first | exact Below.refl _ _ | exact (Below.refl _ _).drew | exact drawn_below (Below.refl _ _) _)).mono ?_; rintro e w2 ⟨v, rfl, ho, hb⟩; have HV := Lib.hid (And.intro ho hb); clear ho hb)
      | (refine step_append_rw rfl _ _ Try.underlying22 infoInt rfl rfl w.heap.size (q + 1) v _ (cs.drop (q + 1)) rfl (own_base HV.out.1 (by first | exact Nat.le_refl _ | simp)) a' (n - (q + 1)) (cap - (q + 1)) A w.heap.size rfl HL.out (HD.out _ ((show Below w.heap.size w _ from by first | exact HV.out.2 | exact (Below.refl _ _).drew.trans HV.out.2 | exact (drawn_below (Below.refl _ _) _).trans HV.out.2))) HO.out (by omega) (by decide) (by have := HV.out.2.size; simpa using this) ?_; intro v3 w3 ho3 hg3))
    all_goals (
      have hb3 := below_own (w := w) (by first | exact HV.out.2 | exact (Below.refl _ _).drew.trans HV.out.2 | exact (drawn_below (Below.refl _ _) _).trans HV.out.2) (own_base HV.out.1 (B' := w.heap.size) (by first | exact Nat.le_refl _ | simp)) (Nat.le_refl _) hg3
      rw [HC.out, hsum] at ho3
      obtain ⟨a3, c3, rfl, _, _, _⟩ := rw_own ho3
      have hG := Lib.hid (gives_own (E := 0) ho3 (Nat.le_refl _) hb3)
      clear ho3 hg3 hb3
      go_wp2
      go_ret2
      exact hG.out)
  · rw [decide_eq_false hp] at HH
    have hw := set_no (l := cs) (p := p) (by omega) (.int .i64 x)
    rw [hl] at hw
    rw [hw.1, hw.2]
    clear hp hw
    go_enter Try.func23, Try.ntmps23
    go_wp2_with (go_at_call 32; refine (HH.out _).mono ?_; rintro e w1 ⟨rfl, rfl⟩)
    go_ret2
    exact gives_none w 2
end Go.Proofs.Ytnamoinedajoaaa
