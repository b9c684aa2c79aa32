/- How the program reads one number, text, serial, row and flag of a text: its decoders. -/
import Derived.Test.YtkflpkcggjpbfaaStrictA
import Derived.Deep.RegionHeld3
set_option linter.unusedVariables false
set_option maxRecDepth 100000
namespace Go.Proofs.Ytkflpkcggjpbfaa
open Go.RowKit

/-- Behind a call: two blocks of two cells that were laid ahead of it, another one laid behind it. -/
theorem both_two {w w1 : World} {T U : TypeId} {x y z u : Value} (b1 : Below ((w.alloc (.cells #[x, y] T)).alloc (.cells #[z, u] U)).heap.size ((w.alloc (.cells #[x, y] T)).alloc (.cells #[z, u] U)) w1) (o : Obj) :
    (w1.alloc o).cell? ⟨w.heap.size, 0, none⟩ = some x ∧ (w1.alloc o).cell? ⟨w.heap.size, 1, none⟩ = some y ∧ (w1.alloc o).cell? ⟨w.heap.size + 1, 0, none⟩ = some z ∧ (w1.alloc o).cell? ⟨w.heap.size + 1, 1, none⟩ = some u ∧ (w1.alloc o).frozen? ⟨w.heap.size + 1, 0, none⟩ = false ∧ (w1.alloc o).frozen? ⟨w.heap.size + 1, 1, none⟩ = false ∧ Hid (Below w.heap.size w (w1.alloc o)) ∧ Hid ((w1.alloc o).heap[w.heap.size + 1]? = some (.cells #[z, u] U (0, 0))) := by
  obtain ⟨hb, h1, h0⟩ := below_two b1
  have g0 : (w1.alloc o).heap[w.heap.size]? = some (.cells #[x, y] T (0, 0)) := (Lib.alloc_old w1 o _ (obj_lt h0)).trans h0
  have g1 : (w1.alloc o).heap[w.heap.size + 1]? = some (.cells #[z, u] U (0, 0)) := (Lib.alloc_old w1 o _ (obj_lt h1)).trans h1
  obtain ⟨c0, c1, _, _⟩ := two_cells g0
  obtain ⟨c2, c3, f2, f3⟩ := two_cells g1
  exact ⟨c0, c1, c2, c3, f2, f3, Lib.hid (hb.alloc hb.size _), Lib.hid g1⟩
theorem both_same {w w1 : World} {T U : TypeId} {x y z u : Value} (b1 : Below ((w.alloc (.cells #[x, y] T)).alloc (.cells #[z, u] U)).heap.size ((w.alloc (.cells #[x, y] T)).alloc (.cells #[z, u] U)) w1) :
    w1.cell? ⟨w.heap.size + 1, 0, none⟩ = some z ∧ w1.cell? ⟨w.heap.size + 1, 1, none⟩ = some u ∧ w1.frozen? ⟨w.heap.size + 1, 0, none⟩ = false ∧ w1.frozen? ⟨w.heap.size + 1, 1, none⟩ = false ∧ Hid (Below w.heap.size w w1) ∧ Hid (w1.heap[w.heap.size + 1]? = some (.cells #[z, u] U (0, 0))) := by
  obtain ⟨hb, h1, h0⟩ := below_two b1
  obtain ⟨c2, c3, f2, f3⟩ := two_cells h1
  exact ⟨c2, c3, f2, f3, Lib.hid hb, Lib.hid h1⟩

/-! A number: the bytes' own error, or more than there may be. -/
def numDV (S : List UInt8) (p x m : Int) : Int := if numE S p x m = 0 then getV S p x else 0
def numDT (S : List UInt8) (p x m : Int) : Int := if numE S p x m = 0 then getT S p x else 0
set_option maxHeartbeats 2000000 in
theorem dnum_any (s : ByteArray) (hs : s.size ≤ 4611686018427387904) (p x m : Int) (hp0 : -9223372036854775808 ≤ p) (hp1 : p ≤ 9223372036854775807) (w : World) :
    Calls Try.prog 39 #[.agg #[.int .i64 x, .int .i64 m], .string s, .int .i64 p] w fun e w' => e = .returned (.tuple #[.agg #[.int .i64 (numDV s.data.toList p x m), .int .i64 (numDT s.data.toList p x m)], .int .i64 (numE s.data.toList p x m)]) ∧ Below w.heap.size w w' := by
  have HG : Hid (∀ v, Calls Try.prog 57 #[.string s, .int .i64 p, .int .i64 x] v fun e w' => e = .returned (.tuple #[.agg #[.int .i64 (getV s.data.toList p x), .int .i64 (getT s.data.toList p x)], .int .i64 (getE s.data.toList p x)]) ∧ Below v.heap.size v w') := Lib.hid fun v => oget_any s hs p x hp0 hp1 v
  have HE : Hid (numE s.data.toList p x m = if getE s.data.toList p x = 0 then (if m < getV s.data.toList p x then 3 else 0) else getE s.data.toList p x) := Lib.hid rfl
  have HN : Hid (getE s.data.toList p x ≠ 0 → getV s.data.toList p x = 0 ∧ getT s.data.toList p x = 0) := Lib.hid get_none
  have HV : Hid (numDV s.data.toList p x m = if numE s.data.toList p x m = 0 then getV s.data.toList p x else 0) := Lib.hid rfl
  have HU : Hid (numDT s.data.toList p x m = if numE s.data.toList p x m = 0 then getT s.data.toList p x else 0) := Lib.hid rfl
  generalize numDV s.data.toList p x m = cv at *
  generalize numDT s.data.toList p x m = ct at *
  generalize numE s.data.toList p x m = ce at *
  generalize getV s.data.toList p x = V at *
  generalize getT s.data.toList p x = T at *
  generalize getE s.data.toList p x = E at *
  by_cases h0 : E = 0
  · by_cases hb : m < V
    · have hdb : decide (m < V) = true := decide_eq_true hb
      have e1 : ce = 3 := by have := HE.out; rw [if_pos h0, if_pos hb] at this; exact this
      have e2 : cv = 0 := by have := HV.out; rw [if_neg (by omega)] at this; exact this
      have e3 : ct = 0 := by have := HU.out; rw [if_neg (by omega)] at this; exact this
      rw [e1, e2, e3]
      subst h0
      clear HE HN HV HU e1 e2 e3 hb
      go_enter Try.func39, Try.ntmps39
      go_wp2_with (go_at_call 57; refine (HG.out _).mono ?_; rintro e w1 ⟨rfl, b1⟩; obtain ⟨c0, c1, c2, c3, f0, f1, hb1, hg1⟩ := both_two b1 (.cells #[.int .i64 V, .int .i64 T] 98))
      refine bodyPost_ret (results_row_slot rfl _ _ (w.heap.size + 1) _ rfl (pair_load (two_stored hg1.out _ _))) rfl ?_
      exact ⟨rfl, two_below hb1.out (by omega) _ _⟩
    · have hdb : decide (m < V) = false := decide_eq_false hb
      have e1 : ce = 0 := by have := HE.out; rw [if_pos h0, if_neg hb] at this; exact this
      have e2 : cv = V := by have := HV.out; rw [if_pos e1] at this; exact this
      have e3 : ct = T := by have := HU.out; rw [if_pos e1] at this; exact this
      rw [e1, e2, e3]
      subst h0
      clear HE HN HV HU e1 e2 e3 hb
      go_enter Try.func39, Try.ntmps39
      go_wp2_with (go_at_call 57; refine (HG.out _).mono ?_; rintro e w1 ⟨rfl, b1⟩; obtain ⟨c0, c1, c2, c3, f0, f1, hb1, hg1⟩ := both_two b1 (.cells #[.int .i64 V, .int .i64 T] 98))
      refine bodyPost_ret (results_row_slot rfl _ _ (w.heap.size + 1) _ rfl (pair_load (two_stored hg1.out _ _))) rfl ?_
      exact ⟨rfl, two_below hb1.out (by omega) _ _⟩
  · have hde : (E == 0) = false := beq_eq_false_iff_ne.2 h0
    have e1 : ce = E := by have := HE.out; rw [if_neg h0] at this; exact this
    have e2 : cv = V := by have := HV.out; rw [if_neg (by omega)] at this; rw [this]; exact ((HN.out h0).1).symm
    have e3 : ct = T := by have := HU.out; rw [if_neg (by omega)] at this; rw [this]; exact ((HN.out h0).2).symm
    rw [e1, e2, e3]
    clear HE HN HV HU e1 e2 e3 h0
    go_enter Try.func39, Try.ntmps39
    go_wp2_with (go_at_call 57; refine (HG.out _).mono ?_; rintro e w1 ⟨rfl, b1⟩; obtain ⟨c0, c1, c2, c3, f0, f1, hb1, hg1⟩ := both_two b1 (.cells #[.int .i64 V, .int .i64 T] 98))
    refine bodyPost_ret (results_row_slot rfl _ _ (w.heap.size + 1) _ rfl (pair_load (two_stored hg1.out _ _))) rfl ?_
    exact ⟨rfl, two_below hb1.out (by omega) _ _⟩

/-! A text. -/
theorem dtext_any (s : ByteArray) (hs : s.size ≤ 4611686018427387904) (p x m : Int) (hp0 : -9223372036854775808 ≤ p) (hp1 : p ≤ 9223372036854775807) (w : World) :
    Calls Try.prog 41 #[.agg #[.int .i64 x, .int .i64 m], .string s, .int .i64 p] w fun e w' => ∃ t : ByteArray, e = .returned (.tuple #[.agg #[.string t, .int .i64 (takeT s.data.toList p m)], .int .i64 (takeE s.data.toList p m)]) ∧ Hid (t.data.toList = takeL s.data.toList p m) ∧ Below w.heap.size w w' := by
  have HG : Hid (∀ v, Calls Try.prog 58 #[.string s, .int .i64 p, .int .i64 m] v fun e w' => ∃ t : ByteArray, e = .returned (.tuple #[.agg #[.string t, .int .i64 (takeT s.data.toList p m)], .int .i64 (takeE s.data.toList p m)]) ∧ Hid (t.data.toList = takeL s.data.toList p m) ∧ Below v.heap.size v w') := Lib.hid fun v => otake_any s hs p m hp0 hp1 v
  generalize takeT s.data.toList p m = T at *
  generalize takeE s.data.toList p m = E at *
  go_enter Try.func41, Try.ntmps41
  go_wp2_with (go_at_call 58; refine (HG.out _).mono ?_; rintro e w1 ⟨t, rfl, ht, b1⟩; obtain ⟨c2, c3, f0, f1, hb1, hg1⟩ := both_same b1)
  refine bodyPost_ret (results_row_slot rfl _ _ (w.heap.size + 1) _ rfl (pairs_load (two_stored hg1.out _ _))) rfl ?_
  exact ⟨t, rfl, ht, two_below hb1.out (by omega) _ _⟩

/-! A row. -/
theorem pairr_load {w : World} {g : Nat} {t : TypeId} {x y : Value} {fr : Nat × Nat} (h : w.heap[g]? = some (.cells #[x, y] t fr)) : (loadVar 107 ⟨g, 0, none⟩).run Try.prog w = .ok (.agg #[x, y]) w :=
  run_loadVar_row (P := Try.prog) w g t 107 #[x, y] fr _ h Try.underlying107 rfl (by kernel_rfl)
theorem drow_any (s : ByteArray) (hs : s.size ≤ 4611686018427387904) (p x m : Int) (hp0 : -9223372036854775808 ≤ p) (hp1 : p ≤ 9223372036854775807) (w : World) :
    Calls Try.prog 44 #[.agg #[.int .i64 x, .int .i64 m], .string s, .int .i64 p] w fun e w' => ∃ a c, e = .returned (.tuple #[.agg #[.slice a (unrowL s.data.toList p x m).length c, .int .i64 (unrowT s.data.toList p x m)], .int .i64 (unrowE s.data.toList p x m)]) ∧ Hid (IntsNew w.heap.size w'.heap.size w' a (unrowL s.data.toList p x m)) ∧ Below w.heap.size w w' := by
  have HG : Hid (∀ v, Calls Try.prog 60 #[.string s, .int .i64 p, .int .i64 x, .int .i64 m] v fun e w' => ∃ a c, e = .returned (.tuple #[.agg #[.slice a (unrowL s.data.toList p x m).length c, .int .i64 (unrowT s.data.toList p x m)], .int .i64 (unrowE s.data.toList p x m)]) ∧ IntsNew v.heap.size w'.heap.size w' a (unrowL s.data.toList p x m) ∧ Below v.heap.size v w') := Lib.hid fun v => ounrow_new s hs p x m hp0 hp1 v
  generalize unrowT s.data.toList p x m = T at *
  generalize unrowE s.data.toList p x m = E at *
  generalize unrowL s.data.toList p x m = L at *
  go_enter Try.func44, Try.ntmps44
  go_wp2_with (go_at_call 60; refine (HG.out _).mono ?_; rintro e w1 ⟨a, c, rfl, hi, b1⟩; have HI := Lib.hid hi; clear hi; obtain ⟨c2, c3, f0, f1, hb1, hg1⟩ := both_same b1)
  refine bodyPost_ret (results_row_slot rfl _ _ (w.heap.size + 1) _ rfl (pairr_load (two_stored hg1.out _ _))) rfl ?_
  exact ⟨a, c, rfl, Lib.hid (((HI.out.set (p := ⟨w.heap.size + 1, 0, none⟩) (by simp) _).set (p := ⟨w.heap.size + 1, 1, none⟩) (by simp) _).wide (by simp; omega) (Nat.le_refl _)), two_below hb1.out (by omega) _ _⟩

/-! A serial: a text of at most sixteen bytes that is one. -/
def serDL (S : List UInt8) (p : Int) : List UInt8 := if takeE S p 16 = 0 then takeL S p 16 else []
def serDT (S : List UInt8) (p : Int) : Int := if takeE S p 16 = 0 then takeT S p 16 else 0
set_option maxHeartbeats 2000000 in
theorem dser_any (s : ByteArray) (hs : s.size ≤ 4611686018427387904) (p : Int) (hp0 : -9223372036854775808 ≤ p) (hp1 : p ≤ 9223372036854775807) (w : World) :
    Calls Try.prog 42 #[.string s, .int .i64 p] w fun e w' => ∃ t : ByteArray, e = .returned (.tuple #[.agg #[.string t, .int .i64 (serDT s.data.toList p)], .int .i64 (serE s.data.toList p)]) ∧ Hid (t.data.toList = serDL s.data.toList p) ∧ Below w.heap.size w w' := by
  have HG : Hid (∀ v, Calls Try.prog 58 #[.string s, .int .i64 p, .int .i64 16] v fun e w' => ∃ t : ByteArray, e = .returned (.tuple #[.agg #[.string t, .int .i64 (takeT s.data.toList p 16)], .int .i64 (takeE s.data.toList p 16)]) ∧ Hid (t.data.toList = takeL s.data.toList p 16) ∧ Below v.heap.size v w') := Lib.hid fun v => otake_any s hs p 16 hp0 hp1 v
  have HE : Hid (serE s.data.toList p = if takeE s.data.toList p 16 = 0 then checkOf (takeL s.data.toList p 16) else takeE s.data.toList p 16) := Lib.hid rfl
  have HV : Hid (serDL s.data.toList p = if takeE s.data.toList p 16 = 0 then takeL s.data.toList p 16 else []) := Lib.hid rfl
  have HU : Hid (serDT s.data.toList p = if takeE s.data.toList p 16 = 0 then takeT s.data.toList p 16 else 0) := Lib.hid rfl
  generalize serDL s.data.toList p = cv at *
  generalize serDT s.data.toList p = ct at *
  generalize serE s.data.toList p = ce at *
  generalize takeT s.data.toList p 16 = T at *
  generalize takeE s.data.toList p 16 = E at *
  generalize takeL s.data.toList p 16 = L at *
  by_cases h0 : E = 0
  · have e1 : ce = checkOf L := by have := HE.out; rw [if_pos h0] at this; exact this
    have e2 : cv = L := by have := HV.out; rw [if_pos h0] at this; exact this
    have e3 : ct = T := by have := HU.out; rw [if_pos h0] at this; exact this
    rw [e1, e2, e3]
    subst h0
    clear HE HV HU e1 e2 e3
    have HC : Hid (∀ (t : ByteArray) v, t.data.toList = L → Calls Try.prog 59 #[.string t] v fun e w' => e = .returned (.int .i64 (checkOf L)) ∧ Below v.heap.size v w') := Lib.hid fun t v h => by rw [← h]; exact check_any t v
    generalize checkOf L = C at *
    go_enter Try.func42, Try.ntmps42
    go_wp2_with (go_at_call 58; refine (HG.out _).mono ?_; rintro e w1 ⟨t, rfl, ht, b1⟩; obtain ⟨c0, c1, f0, f1, hb1, hg1⟩ := pair_two b1 (.cells #[.string t, .int .i64 T] 102))
    have hg2 := heap_alloc_new w1 (.cells #[.string t, .int .i64 T] 102)
    obtain ⟨d0, d1, _, _⟩ := two_cells hg2
    have hlt : w.heap.size < w1.heap.size := by have := b1.size; simp at this; omega
    obtain ⟨q, hq⟩ : ∃ q, q = w1.heap.size := ⟨_, rfl⟩
    obtain ⟨W, hW⟩ : ∃ W, W = w1.alloc (.cells #[.string t, .int .i64 T] 102) := ⟨_, rfl⟩
    rw [← hW] at c0 c1 f0 f1 d0 d1 hb1 hg1 hg2 ⊢
    rw [← hq] at d0 d1 hg2 hlt ⊢
    clear hW b1 hq
    have HG2 := Lib.hid hg2
    have HT := Lib.hid (fun v => HC.out t v ht.out)
    have n1 : ¬ (w.heap.size = q) := by omega
    have n2 : ¬ (q = w.heap.size) := by omega
    clear hg2
    go_region_held3 (fun v => v.cell? ⟨q, 0, none⟩ = some (.string t) ∧ v.cell? ⟨q, 1, none⟩ = some (.int .i64 T)) (first | go_keep)
      (first
        | (go_at_call 59; refine (HT.out W.drew).mono ?_; rintro e w2 ⟨rfl, b2⟩; have hq2 := old_obj b2 (show W.drew.heap[q]? = _ from HG2.out); have hn2 := old_obj b2 (show W.drew.heap[w.heap.size]? = _ from hg1.out); obtain ⟨d0, d1, _, _⟩ := two_cells hq2; obtain ⟨c0, c1, f0, f1⟩ := two_cells hn2; have HN2 := Lib.hid hn2; have HB2 := Lib.hid (hb1.out.trans ((Below.refl _ W).drew.trans (b2.mono (Nat.le_refl _)) |>.mono hb1.out.size)); clear hq2 hn2 b2))
    have HTL := ht
    clear HG HC HT ht n1 n2
    go_wp2
    refine bodyPost_ret (results_row_slot rfl _ _ w.heap.size _ rfl (pairs_load (two_stored HN2.out _ _))) rfl ?_
    exact ⟨t, rfl, HTL, two_below HB2.out (Nat.le_refl _) _ _⟩
  · have hde : (E == 0) = false := beq_eq_false_iff_ne.2 h0
    have e1 : ce = E := by have := HE.out; rw [if_neg h0] at this; exact this
    have e2 : cv = [] := by have := HV.out; rw [if_neg h0] at this; exact this
    have e3 : ct = 0 := by have := HU.out; rw [if_neg h0] at this; exact this
    rw [e1, e2, e3]
    clear HE HV HU e1 e2 e3 h0
    go_enter Try.func42, Try.ntmps42
    go_wp2_with (go_at_call 58; refine (HG.out _).mono ?_; rintro e w1 ⟨t, rfl, ht, b1⟩; obtain ⟨c0, c1, f0, f1, hb1, hg1⟩ := pair_two b1 (.cells #[.string t, .int .i64 T] 102))
    refine bodyPost_ret (results_row_slot rfl _ _ w.heap.size _ rfl (pairs_load (two_stored hg1.out _ _))) rfl ?_
    exact ⟨⟨#[]⟩, rfl, Lib.hid rfl, two_below hb1.out (Nat.le_refl _) _ _⟩

/-! A bool. -/
def flagDB (S : List UInt8) (p : Int) : Bool := if flagE S p = 0 then decide (getV S p 1 = 1) else false
def flagDT (S : List UInt8) (p : Int) : Int := if flagE S p = 0 then getT S p 1 else 0
theorem pairb_load {w : World} {g : Nat} {t : TypeId} {x y : Value} {fr : Nat × Nat} (h : w.heap[g]? = some (.cells #[x, y] t fr)) : (loadVar 111 ⟨g, 0, none⟩).run Try.prog w = .ok (.agg #[x, y]) w :=
  run_loadVar_row (P := Try.prog) w g t 111 #[x, y] fr _ h Try.underlying111 rfl (by kernel_rfl)
set_option maxHeartbeats 2000000 in
theorem dflag_any (s : ByteArray) (hs : s.size ≤ 4611686018427387904) (p : Int) (hp0 : -9223372036854775808 ≤ p) (hp1 : p ≤ 9223372036854775807) (w : World) :
    Calls Try.prog 46 #[.string s, .int .i64 p] w fun e w' => e = .returned (.tuple #[.agg #[.bool (flagDB s.data.toList p), .int .i64 (flagDT s.data.toList p)], .int .i64 (flagE s.data.toList p)]) ∧ Below w.heap.size w w' := by
  have HG : Hid (∀ v, Calls Try.prog 57 #[.string s, .int .i64 p, .int .i64 1] v fun e w' => e = .returned (.tuple #[.agg #[.int .i64 (getV s.data.toList p 1), .int .i64 (getT s.data.toList p 1)], .int .i64 (getE s.data.toList p 1)]) ∧ Below v.heap.size v w') := Lib.hid fun v => oget_any s hs p 1 hp0 hp1 v
  have HE : Hid (flagE s.data.toList p = if getE s.data.toList p 1 = 0 then (if 1 < getV s.data.toList p 1 then 5 else 0) else getE s.data.toList p 1) := Lib.hid rfl
  have HN : Hid (getE s.data.toList p 1 ≠ 0 → getV s.data.toList p 1 = 0 ∧ getT s.data.toList p 1 = 0) := Lib.hid get_none
  have HV : Hid (flagDB s.data.toList p = if flagE s.data.toList p = 0 then decide (getV s.data.toList p 1 = 1) else false) := Lib.hid rfl
  have HU : Hid (flagDT s.data.toList p = if flagE s.data.toList p = 0 then getT s.data.toList p 1 else 0) := Lib.hid rfl
  generalize flagDB s.data.toList p = cv at *
  generalize flagDT s.data.toList p = ct at *
  generalize flagE s.data.toList p = ce at *
  generalize getV s.data.toList p 1 = V at *
  generalize getT s.data.toList p 1 = T at *
  generalize getE s.data.toList p 1 = E at *
  by_cases h0 : E = 0
  · by_cases hb : 1 < V
    · have hdb : decide ((1 : Int) < V) = true := decide_eq_true hb
      have e1 : ce = 5 := by have := HE.out; rw [if_pos h0, if_pos hb] at this; exact this
      have e2 : cv = false := by have := HV.out; rw [if_neg (by omega)] at this; exact this
      have e3 : ct = 0 := by have := HU.out; rw [if_neg (by omega)] at this; exact this
      rw [e1, e2, e3]
      subst h0
      clear HE HN HV HU e1 e2 e3 hb
      go_enter Try.func46, Try.ntmps46
      go_wp2_with (go_at_call 57; refine (HG.out _).mono ?_; rintro e w1 ⟨rfl, b1⟩; obtain ⟨c0, c1, f0, f1, hb1, hg1⟩ := pair_two b1 (.cells #[.int .i64 V, .int .i64 T] 98))
      refine bodyPost_ret (results_row_slot rfl _ _ w.heap.size _ rfl (pairb_load (two_stored hg1.out _ _))) rfl ?_
      exact ⟨rfl, two_below hb1.out (Nat.le_refl _) _ _⟩
    · have hdb : decide ((1 : Int) < V) = false := decide_eq_false hb
      have e1 : ce = 0 := by have := HE.out; rw [if_pos h0, if_neg hb] at this; exact this
      have e2 : cv = decide (V = 1) := by have := HV.out; rw [if_pos e1] at this; exact this
      have e3 : ct = T := by have := HU.out; rw [if_pos e1] at this; exact this
      rw [e1, e2, e3]
      subst h0
      clear HE HN HV HU e1 e2 e3 hb
      have HQ : Hid (Value.bool (decide (V = 1)) = .bool (V == 1)) := Lib.hid (by congr 1)
      rw [HQ.out]
      go_enter Try.func46, Try.ntmps46
      go_wp2_with (go_at_call 57; refine (HG.out _).mono ?_; rintro e w1 ⟨rfl, b1⟩; obtain ⟨c0, c1, f0, f1, hb1, hg1⟩ := pair_two b1 (.cells #[.int .i64 V, .int .i64 T] 98))
      refine bodyPost_ret (results_row_slot rfl _ _ w.heap.size _ rfl (pairb_load (two_stored hg1.out _ _))) rfl ?_
      exact ⟨rfl, two_below hb1.out (Nat.le_refl _) _ _⟩
  · have e1 : ce = E := by have := HE.out; rw [if_neg h0] at this; exact this
    have e2 : cv = false := by have := HV.out; rw [if_neg (by omega)] at this; exact this
    have e3 : ct = 0 := by have := HU.out; rw [if_neg (by omega)] at this; exact this
    obtain ⟨e4, e5⟩ := HN.out h0
    rw [e1, e2, e3]
    subst e4
    subst e5
    clear HE HN HV HU e1 e2 e3 h0
    go_enter Try.func46, Try.ntmps46
    go_wp2_with (go_at_call 57; refine (HG.out _).mono ?_; rintro e w1 ⟨rfl, b1⟩; obtain ⟨c0, c1, f0, f1, hb1, hg1⟩ := pair_two b1 (.cells #[.int .i64 0, .int .i64 0] 98))
    refine bodyPost_ret (results_row_slot rfl _ _ w.heap.size _ rfl (pairb_load (two_stored hg1.out _ _))) rfl ?_
    exact ⟨rfl, two_below hb1.out (Nat.le_refl _) _ _⟩
end Go.Proofs.Ytkflpkcggjpbfaa
