/- The program's reader: its calls' contracts. -/
import Derived.Test.YtkflpkcggjpbfaaStrictC
import Derived.Test.YtkflpkcggjpbfaaTextRow
import Derived.Deep.OwnRows
set_option linter.unusedVariables false
set_option maxRecDepth 100000
namespace Go.Proofs.Ytkflpkcggjpbfaa
open Go.RowKit

theorem within_p {s : ByteArray} {r : Rs} (hs : s.size ≤ 4611686018427387904) (hr : Within s.data.toList r) : -9223372036854775808 ≤ r.p ∧ r.p ≤ 9223372036854775807 := by
  have hz : s.data.toList.length = s.size := by simp
  have h1 := hr.1
  have h2 := hr.2
  omega
theorem fault_same (s : ByteArray) (r : Rs) (g : Nat) (w : World) (h : Rd w g s r) : Hid (∀ v, v = w → Calls Try.prog 37 #[.pointer (some ⟨g, 0, none⟩)] v fun e w' => e = .returned (.int .i64 r.e) ∧ v = w') :=
  Lib.hid fun v hv => by subst hv; exact (fault_any s r g v h).mono fun _ _ h => ⟨h.1, h.2.symm⟩
theorem fault_no_same (g : Nat) (w : World) (h : No w g) : Hid (∀ v, v = w → Calls Try.prog 37 #[.pointer (some ⟨g, 0, none⟩)] v fun e w' => e = .returned (.int .i64 1) ∧ v = w') :=
  Lib.hid fun v hv => by subst hv; exact (fault_no g v h).mono fun _ _ h => ⟨h.1, h.2.symm⟩
theorem fault_nil_same (w : World) : Hid (∀ v, v = w → Calls Try.prog 37 #[.pointer none] v fun e w' => e = .returned (.int .i64 1) ∧ v = w') :=
  Lib.hid fun v hv => by subst hv; exact (fault_nil v).mono fun _ _ h => ⟨h.1, h.2.symm⟩

theorem snew_any (s : ByteArray) (hs : s.size ≤ 281474976710656) (w : World) :
    Calls Try.prog 7 #[.string s] w fun e w' => ∃ g, e = .returned (.pointer (some ⟨g, 0, none⟩)) ∧ w.heap.size ≤ g ∧ Rd w' g s ⟨0, 0⟩ ∧ Below w.heap.size w w' := by
  go_enter Try.func7, Try.ntmps7
  go_wp2_with (go_at_call 26; refine (clone_any s hs _).mono ?_; rintro e w1 ⟨rfl, b1⟩)
  go_ret
  exact ⟨_, rfl, b1.size, ⟨_, heap_alloc_new _ _, rfl⟩, b1.alloc b1.size _⟩

theorem snum_any (s : ByteArray) (hs : s.size ≤ 4611686018427387904) (r : Rs) (hr : Within s.data.toList r) (g : Nat) (x m : Int) (w : World) (h : Rd w g s r) :
    Calls Try.prog 12 #[.pointer (some ⟨g, 0, none⟩), .int .i64 x, .int .i64 m] w fun e w' => e = .returned (.int .i64 (numV s.data.toList r x m)) ∧ Rd w' g s (numR s.data.toList r x m) ∧ w.grownBy w' (some g) := by
  have HC := Lib.hid (read_int s r g x m (numDV s.data.toList r.p x m) (numV s.data.toList r x m) (numDT s.data.toList r.p x m) (numE s.data.toList r.p x m) (numR s.data.toList r x m) w h
    (Lib.hid (by unfold numV; by_cases h0 : r.e = 0 <;> by_cases hE : numE s.data.toList r.p x m = 0 <;> simp [h0, hE, numDV])) (Lib.hid (by unfold numR stp; by_cases h0 : r.e = 0 <;> by_cases hE : numE s.data.toList r.p x m = 0 <;> simp [h0, hE, numDT]))
    (Lib.hid fun v => dnum_any s hs r.p x m (within_p hs hr).1 (within_p hs hr).2 v))
  generalize numV s.data.toList r x m = V at *
  generalize numR s.data.toList r x m = R at *
  clear h hr
  go_enter Try.func12, Try.ntmps12
  go_wp2_with (go_at_call 38; refine HC.out.mono ?_; rintro e w1 ⟨rfl, h1, h2⟩)
  go_ret
  exact ⟨rfl, h1, h2⟩
theorem stext_any (s : ByteArray) (hs : s.size ≤ 4611686018427387904) (r : Rs) (hr : Within s.data.toList r) (g : Nat) (m : Int) (w : World) (h : Rd w g s r) :
    Calls Try.prog 13 #[.pointer (some ⟨g, 0, none⟩), .int .i64 m] w fun e w' => e = .returned (.string (bt (textL s.data.toList r m))) ∧ Rd w' g s (textR s.data.toList r m) ∧ w.grownBy w' (some g) := by
  have HC := Lib.hid (read_text s r g m (bt (takeL s.data.toList r.p m)) (bt (textL s.data.toList r m)) (takeT s.data.toList r.p m) (takeE s.data.toList r.p m) (textR s.data.toList r m) w h
    (Lib.hid (by unfold textL; by_cases h0 : r.e = 0 <;> by_cases hE : takeE s.data.toList r.p m = 0 <;> simp [h0, hE, bt, takeL])) (Lib.hid rfl)
    (Lib.hid fun v => (dtext_any s hs r.p 0 m (within_p hs hr).1 (within_p hs hr).2 v).mono fun _ _ ⟨t, h1, h2, h3⟩ => ⟨t, h1, Lib.hid fun _ => bt_of h2.out, h3⟩))
  generalize bt (textL s.data.toList r m) = V at *
  generalize textR s.data.toList r m = R at *
  clear h hr
  go_enter Try.func13, Try.ntmps13
  go_wp2_with (go_at_call 40; refine HC.out.mono ?_; rintro e w1 ⟨rfl, h1, h2⟩)
  go_ret
  exact ⟨rfl, h1, h2⟩
theorem sser_any (s : ByteArray) (hs : s.size ≤ 4611686018427387904) (r : Rs) (hr : Within s.data.toList r) (g : Nat) (w : World) (h : Rd w g s r) :
    Calls Try.prog 14 #[.pointer (some ⟨g, 0, none⟩)] w fun e w' => e = .returned (.string (bt (serL s.data.toList r))) ∧ Rd w' g s (serR s.data.toList r) ∧ w.grownBy w' (some g) := by
  have HC := Lib.hid (read_ser s r g (bt (takeL s.data.toList r.p 16)) (bt (serL s.data.toList r)) (serDT s.data.toList r.p) (serE s.data.toList r.p) (serR s.data.toList r) w h
    (Lib.hid (by unfold serL; by_cases h0 : r.e = 0 <;> by_cases hE : serE s.data.toList r.p = 0 <;> simp [h0, hE, bt])) (Lib.hid (by
      unfold serR stp serDT
      split
      · split
        · rename_i h1 h2; rw [if_pos (ser_zero h2).1]
        · rfl
      · rfl))
    (Lib.hid fun v => (dser_any s hs r.p (within_p hs hr).1 (within_p hs hr).2 v).mono fun _ _ ⟨t, h1, h2, h3⟩ => ⟨t, h1, Lib.hid fun h0 => bt_of (h2.out.trans (by unfold serDL; rw [if_pos (ser_zero h0).1])), h3⟩))
  generalize bt (serL s.data.toList r) = V at *
  generalize serR s.data.toList r = R at *
  clear h hr
  go_enter Try.func14, Try.ntmps14
  go_wp2_with (go_at_call 40; refine HC.out.mono ?_; rintro e w1 ⟨rfl, h1, h2⟩)
  go_ret
  exact ⟨rfl, h1, h2⟩
theorem srow_any (s : ByteArray) (hs : s.size ≤ 4611686018427387904) (r : Rs) (hr : Within s.data.toList r) (g : Nat) (x m : Int) (w : World) (h : Rd w g s r) :
    Calls Try.prog 15 #[.pointer (some ⟨g, 0, none⟩), .int .i64 x, .int .i64 m] w fun e w' => ∃ a c, e = .returned (.slice a (rowV s.data.toList r x m).length c) ∧ IntsNew w.heap.size w'.heap.size w' a (rowV s.data.toList r x m) ∧ Rd w' g s (rowR s.data.toList r x m) ∧ w.grownBy w' (some g) := by
  have HC := Lib.hid (read_row s r g x m (unrowL s.data.toList r.p x m) (rowV s.data.toList r x m) (unrowT s.data.toList r.p x m) (unrowE s.data.toList r.p x m) (rowR s.data.toList r x m) w h
    (Lib.hid (by unfold rowV; by_cases h0 : r.e = 0 <;> by_cases hE : unrowE s.data.toList r.p x m = 0 <;> simp [h0, hE, unrowL])) (Lib.hid rfl)
    (Lib.hid fun v => drow_any s hs r.p x m (within_p hs hr).1 (within_p hs hr).2 v))
  generalize rowV s.data.toList r x m = V at *
  generalize rowR s.data.toList r x m = R at *
  clear h hr
  go_enter Try.func15, Try.ntmps15
  go_wp2_with (go_at_call 43; refine HC.out.mono ?_; rintro e w1 h1; have H1 := Lib.hid h1; clear h1; obtain ⟨a, c, rfl, hi, h1, h2⟩ := H1.out; clear H1)
  go_ret
  exact ⟨a, c, rfl, hi, h1, h2⟩
theorem sflag_any (s : ByteArray) (hs : s.size ≤ 4611686018427387904) (r : Rs) (hr : Within s.data.toList r) (g : Nat) (w : World) (h : Rd w g s r) :
    Calls Try.prog 17 #[.pointer (some ⟨g, 0, none⟩)] w fun e w' => e = .returned (.bool (flagB s.data.toList r)) ∧ Rd w' g s (flagR s.data.toList r) ∧ w.grownBy w' (some g) := by
  have HC := Lib.hid (read_bool s r g (flagDB s.data.toList r.p) (flagB s.data.toList r) (flagDT s.data.toList r.p) (flagE s.data.toList r.p) (flagR s.data.toList r) w h
    (Lib.hid (by unfold flagB; by_cases h0 : r.e = 0 <;> by_cases hE : flagE s.data.toList r.p = 0 <;> simp [h0, hE, flagDB])) (Lib.hid (by unfold flagR stp; by_cases h0 : r.e = 0 <;> by_cases hE : flagE s.data.toList r.p = 0 <;> simp [h0, hE, flagDT]))
    (Lib.hid fun v => dflag_any s hs r.p (within_p hs hr).1 (within_p hs hr).2 v))
  generalize flagB s.data.toList r = V at *
  generalize flagR s.data.toList r = R at *
  clear h hr
  go_enter Try.func17, Try.ntmps17
  go_wp2_with (go_at_call 45; refine HC.out.mono ?_; rintro e w1 ⟨rfl, h1, h2⟩)
  go_ret
  exact ⟨rfl, h1, h2⟩
theorem no_num (g : Nat) (x m : Int) (w : World) (h : No w g) : Calls Try.prog 12 #[.pointer (some ⟨g, 0, none⟩), .int .i64 x, .int .i64 m] w fun e w' => e = .returned (.int .i64 0) ∧ Below w.heap.size w w' := by
  have HF := fault_no_same g w h
  go_enter Try.func12, Try.ntmps12
  go_wp2_with (go_at_call 38; refine (read_int_none _ _ _ HF).mono ?_; rintro e w1 ⟨rfl, rfl⟩)
  go_ret
  exact ⟨rfl, Below.refl _ _⟩
theorem nil_num (x m : Int) (w : World) : Calls Try.prog 12 #[.pointer none, .int .i64 x, .int .i64 m] w fun e w' => e = .returned (.int .i64 0) ∧ Below w.heap.size w w' := by
  have HF := fault_nil_same w
  go_enter Try.func12, Try.ntmps12
  go_wp2_with (go_at_call 38; refine (read_int_none _ _ _ HF).mono ?_; rintro e w1 ⟨rfl, rfl⟩)
  go_ret
  exact ⟨rfl, Below.refl _ _⟩
theorem no_text (g : Nat) (m : Int) (w : World) (h : No w g) : Calls Try.prog 13 #[.pointer (some ⟨g, 0, none⟩), .int .i64 m] w fun e w' => e = .returned (.string ⟨#[]⟩) ∧ Below w.heap.size w w' := by
  have HF := fault_no_same g w h
  go_enter Try.func13, Try.ntmps13
  go_wp2_with (go_at_call 40; refine (read_str_none _ _ _ HF).mono ?_; rintro e w1 ⟨rfl, rfl⟩)
  go_ret
  exact ⟨rfl, Below.refl _ _⟩
theorem nil_text (m : Int) (w : World) : Calls Try.prog 13 #[.pointer none, .int .i64 m] w fun e w' => e = .returned (.string ⟨#[]⟩) ∧ Below w.heap.size w w' := by
  have HF := fault_nil_same w
  go_enter Try.func13, Try.ntmps13
  go_wp2_with (go_at_call 40; refine (read_str_none _ _ _ HF).mono ?_; rintro e w1 ⟨rfl, rfl⟩)
  go_ret
  exact ⟨rfl, Below.refl _ _⟩
theorem no_ser (g : Nat) (w : World) (h : No w g) : Calls Try.prog 14 #[.pointer (some ⟨g, 0, none⟩)] w fun e w' => e = .returned (.string ⟨#[]⟩) ∧ Below w.heap.size w w' := by
  have HF := fault_no_same g w h
  go_enter Try.func14, Try.ntmps14
  go_wp2_with (go_at_call 40; refine (read_str_none _ _ _ HF).mono ?_; rintro e w1 ⟨rfl, rfl⟩)
  go_ret
  exact ⟨rfl, Below.refl _ _⟩
theorem nil_ser (w : World) : Calls Try.prog 14 #[.pointer none] w fun e w' => e = .returned (.string ⟨#[]⟩) ∧ Below w.heap.size w w' := by
  have HF := fault_nil_same w
  go_enter Try.func14, Try.ntmps14
  go_wp2_with (go_at_call 40; refine (read_str_none _ _ _ HF).mono ?_; rintro e w1 ⟨rfl, rfl⟩)
  go_ret
  exact ⟨rfl, Below.refl _ _⟩
theorem no_flag (g : Nat) (w : World) (h : No w g) : Calls Try.prog 17 #[.pointer (some ⟨g, 0, none⟩)] w fun e w' => e = .returned (.bool false) ∧ Below w.heap.size w w' := by
  have HF := fault_no_same g w h
  go_enter Try.func17, Try.ntmps17
  go_wp2_with (go_at_call 45; refine (read_bool_none _ _ _ HF).mono ?_; rintro e w1 ⟨rfl, rfl⟩)
  go_ret
  exact ⟨rfl, Below.refl _ _⟩
theorem nil_flag (w : World) : Calls Try.prog 17 #[.pointer none] w fun e w' => e = .returned (.bool false) ∧ Below w.heap.size w w' := by
  have HF := fault_nil_same w
  go_enter Try.func17, Try.ntmps17
  go_wp2_with (go_at_call 45; refine (read_bool_none _ _ _ HF).mono ?_; rintro e w1 ⟨rfl, rfl⟩)
  go_ret
  exact ⟨rfl, Below.refl _ _⟩
theorem no_row (g : Nat) (x m : Int) (w : World) (h : No w g) : Calls Try.prog 15 #[.pointer (some ⟨g, 0, none⟩), .int .i64 x, .int .i64 m] w fun e w' => ∃ a c, e = .returned (.slice a 0 c) ∧ Below w.heap.size w w' := by
  have HF := fault_no_same g w h
  go_enter Try.func15, Try.ntmps15
  go_wp2_with (go_at_call 43; refine (read_row_none _ _ _ HF).mono ?_; rintro e w1 ⟨rfl, rfl⟩)
  go_ret
  exact ⟨none, 0, rfl, Below.refl _ _⟩

theorem rd_lt' {w : World} {g : Nat} {s : ByteArray} {r : Rs} (h : Rd w g s r) : g < w.heap.size := by obtain ⟨o, h1, _⟩ := h; exact obj_lt h1
/-! Serials: a number of them, and then as many. -/
def serN (S : List UInt8) : Nat → Rs → Rs
  | 0, r => r
  | k + 1, r => serR S (serN S k r)
theorem serR_stop {S : List UInt8} {r : Rs} (h : r.e ≠ 0) : serR S r = r := by unfold serR; rw [if_neg h]
theorem serN_stop {S : List UInt8} {r : Rs} (h : r.e ≠ 0) : ∀ k, serN S k r = r
  | 0 => rfl
  | k + 1 => by unfold serN; rw [serN_stop h k, serR_stop h]
theorem serN_comm {S : List UInt8} (r : Rs) : ∀ k, serN S k (serR S r) = serR S (serN S k r)
  | 0 => rfl
  | k + 1 => by
    have := serN_comm (S := S) r k
    conv => lhs; unfold serN
    conv => rhs; unfold serN
    rw [this]
theorem sers_state {S : List UInt8} : ∀ (n : Nat) (r : Rs) (l : List (List UInt8)), (sersOn S n r l).1 = serN S n r
  | 0, r, l => rfl
  | n + 1, r, l => by
    by_cases h : r.e = 0
    · rw [sers_go h, sers_state n, serN_comm]; rfl
    · rw [sers_stop h, serN_stop h]
theorem sers_list {S : List UInt8} : ∀ (n : Nat) (r : Rs) (l : List (List UInt8)), (serN S n r).e = 0 → (sersOn S n r l).2 = l ++ (List.range n).map fun j => serL S (serN S j r)
  | 0, r, l, _ => by simp [sersOn]
  | n + 1, r, l, h => by
    have h0 : r.e = 0 := by
      rcases Decidable.em (r.e = 0) with h1 | h1
      · exact h1
      · rw [serN_stop h1] at h; exact absurd h h1
    rw [sers_go h0, sers_list n _ _ (by rw [serN_comm]; exact h), List.range_succ_eq_map, List.map_cons, List.map_map]
    simp only [List.append_assoc, List.singleton_append]
    congr 2
    refine List.map_congr_left fun j _ => ?_
    show serL S (serN S j (serR S r)) = serL S (serN S (j + 1) r)
    rw [serN_comm]; rfl
theorem serN_in {S : List UInt8} {r : Rs} (h : Within S r) : ∀ k, Within S (serN S k r)
  | 0 => h
  | k + 1 => ser_in (serN_in h k)
/-- A row of texts, as many as are laid. -/
def strRow (f : Nat → ByteArray) (n : Nat) : Array Value := (strCells ((List.range n).map f)).toArray
theorem strRow_at {f : Nat → ByteArray} {n k : Nat} (h : k < n) : (strRow f n)[k]? = some (.string (f k)) := by
  unfold strRow strCells
  rw [List.getElem?_toArray]
  simp [h]
theorem strRow_set {f f' : Nat → ByteArray} {n k : Nat} (hk : ∀ i, i < n → i ≠ k → f i = f' i) : (strRow f n).setIfInBounds k (.string (f' k)) = strRow f' n := by
  unfold strRow strCells
  rw [List.setIfInBounds_toArray]
  congr 1
  refine List.ext_getElem (by simp) fun i h1 h2 => ?_
  have hi : i < n := by simpa using h2
  rw [List.getElem_set]
  by_cases h : k = i
  · subst h; simp
  · simp [h, hk i hi (fun e => h e.symm)]
theorem strRow_made (f : Nat → ByteArray) (n : Nat) (h : ∀ i, i < n → f i = ⟨#[]⟩) : madeCells #[Value.string ⟨#[]⟩] n = strRow f n := by
  refine Array.ext' ?_
  rw [toList_madeCells_one]
  unfold strRow
  refine List.ext_getElem (by simp [strCells]) fun i h1 h2 => ?_
  have hi : i < n := by simpa using h1
  simp [strCells, h i hi]
def serAt (S : List UInt8) (r : Rs) (k i : Nat) : ByteArray := if i < k then bt (serL S (serN S i r)) else ⟨#[]⟩
/-- How things lie in the round: the row, the reader, and what lay ahead. -/
structure Sering (w : World) (g K n : Nat) (s : ByteArray) (q : Rs) (f : Nat → ByteArray) (wr : World) : Prop where
  row : wr.heap[K]? = some (.cells (strRow f n) 9 (0, 0))
  rd : Rd wr g s q
  old : w.grownBy wr (some g)
  ne : K ≠ g
  ahead : w.heap.size ≤ K
theorem Sering.step {w wr w' : World} {g K n : Nat} {s : ByteArray} {q q' : Rs} {f : Nat → ByteArray} (h : Sering w g K n s q f wr) (hg : wr.grownBy w' (some g)) (hr : Rd w' g s q') : Sering w g K n s q' f w' :=
  ⟨grown_obj hg h.row h.ne, hr, h.old.trans hg, h.ne, h.ahead⟩
theorem Sering.set {w wr : World} {g K n k : Nat} {s : ByteArray} {q : Rs} {f f' : Nat → ByteArray} {V : ByteArray} (h : Sering w g K n s q f wr) (hk : ∀ i, i < n → i ≠ k → f i = f' i) (hV : V = f' k) : Sering w g K n s q f' (wr.setCell ⟨K, k, none⟩ (.string V)) := by
  refine ⟨?_, ?_, ⟨h.old.os, h.old.tape, h.old.output, ?_, ?_⟩, h.ne, h.ahead⟩
  · rw [heap_setCell_same wr K k _ _ _ h.row, hV, strRow_set hk]
  · refine ⟨_, ?_, rfl⟩
    rw [heap_setCell_other wr ⟨K, k, none⟩ _ _ (by simpa using fun e => h.ne e.symm)]
    exact rd_heap h.rd
  · have := h.old.size; simpa [World.setCell] using this
  · intro i hi hne
    rw [heap_setCell_other wr ⟨K, k, none⟩ _ _ (by have := h.ahead; simp; omega)]
    exact h.old.block i hi hne

set_option maxHeartbeats 2000000 in
theorem ssers_any (s : ByteArray) (hs : s.size ≤ 4611686018427387904) (r : Rs) (hr : Within s.data.toList r) (g : Nat) (m : Int) (w : World) (h : Rd w g s r) :
    Calls Try.prog 16 #[.pointer (some ⟨g, 0, none⟩), .int .i64 m] w fun e w' => ∃ a c, e = .returned (.slice a (sersL s.data.toList r m).length c) ∧ TextsNew w.heap.size w'.heap.size w' a ((sersL s.data.toList r m).map bt) ∧ Rd w' g s (sersR s.data.toList r m) ∧ w.grownBy w' (some g) := by
  have HN := Lib.hid (snum_any s hs r hr g 1 m w h)
  have hgw := rd_lt' h
  obtain ⟨b0, b1⟩ := byte_lt (S := s.data.toList) (r := r) (m := m)
  obtain ⟨n, hn⟩ : ∃ n : Nat, numV s.data.toList r 1 m = n := ⟨(numV s.data.toList r 1 m).toNat, by omega⟩
  have hn2 : n ≤ 255 := by omega
  obtain ⟨r1, hr1⟩ : ∃ r1, numR s.data.toList r 1 m = r1 := ⟨_, rfl⟩
  have hin : Within s.data.toList r1 := by rw [← hr1]; exact num_in hr
  have e1 : sersR s.data.toList r m = serN s.data.toList n r1 := by unfold sersR sersAll; rw [hn, hr1, Int.toNat_natCast, sers_state]
  have e2 : (serN s.data.toList n r1).e = 0 → sersL s.data.toList r m = (List.range n).map fun j => serL s.data.toList (serN s.data.toList j r1) := fun h0 => by
    unfold sersL; rw [if_pos (by rw [e1]; exact h0)]; unfold sersAll; rw [hn, hr1, Int.toNat_natCast, sers_list n r1 [] h0]; rfl
  have e3 : (serN s.data.toList n r1).e ≠ 0 → sersL s.data.toList r m = [] := fun h0 => by unfold sersL; rw [if_neg (by rw [e1]; exact h0)]
  rw [hn, hr1] at HN
  rw [e1]
  have HS : Hid (∀ k v, Rd v g s (serN s.data.toList k r1) → Calls Try.prog 14 #[.pointer (some ⟨g, 0, none⟩)] v fun e w' => e = .returned (.string (bt (serL s.data.toList (serN s.data.toList k r1)))) ∧ Rd w' g s (serN s.data.toList (k + 1) r1) ∧ v.grownBy w' (some g)) := Lib.hid fun k v hv => sser_any s hs _ (serN_in hin k) g v hv
  have HF : Hid (∀ q v, Rd v g s q → Calls Try.prog 37 #[.pointer (some ⟨g, 0, none⟩)] v fun e w' => e = .returned (.int .i64 q.e) ∧ v = w') := Lib.hid fun q v hv => (fault_any s q g v hv).mono fun _ _ h => ⟨h.1, h.2.symm⟩
  have HE2 := Lib.hid e2
  have HE3 := Lib.hid e3
  generalize sersL s.data.toList r m = L at *
  have hmk := run_make_row' (P := Try.prog) 47 9 (.string ⟨#[]⟩) 16 Try.underlying47 infoStr rfl .i64 .i64 n (by omega) (by omega)
  have HR0 : Hid (madeCells #[Value.string ⟨#[]⟩] n = strRow (serAt s.data.toList r1 0) n) := Lib.hid (strRow_made _ n fun i _ => by unfold serAt; rw [if_neg (by omega)])
  clear h hr b0 b1 hn hr1 e1 e2 e3 hs
  go_enter Try.func16, Try.ntmps16
  go_wp2_with (go_at_call 12; refine HN.out.mono ?_; rintro e w1 ⟨rfl, h1, g1⟩; have H1 := Lib.hid h1; have G1 := Lib.hid g1; clear h1 g1)
  have HGS := Lib.hid G1.out.size
  obtain ⟨K, hK⟩ : ∃ K, K = w1.heap.size := ⟨_, rfl⟩
  have HU0 : Hid (Sering w g K n s (serN s.data.toList 0 r1) (serAt s.data.toList r1 0) (w1.alloc (.cells (madeCells #[Value.string ⟨#[]⟩] n) 9))) := Lib.hid (by
    have ha : w1.grownBy (w1.alloc (.cells (madeCells #[Value.string ⟨#[]⟩] n) 9)) (some g) := World.grownBy_alloc _ _ _
    have h1 : (w1.alloc (.cells (madeCells #[Value.string ⟨#[]⟩] n) 9)).heap[K]? = some (.cells (madeCells #[Value.string ⟨#[]⟩] n) 9 (0, 0)) := by rw [hK]; exact heap_alloc_new _ _
    rw [HR0.out] at h1 ha ⊢
    refine ⟨h1, ⟨_, old_obj ((Below.refl _ w1).alloc (Nat.le_refl _) _) (rd_heap H1.out), rfl⟩, G1.out.trans ha, ?_, ?_⟩
    · have := HGS.out; omega
    · have := HGS.out; omega)
  rw [← hK]
  generalize w1.alloc (.cells (madeCells #[Value.string ⟨#[]⟩] n) 9) = W0 at *
  clear hK H1 G1 HGS HR0 hmk HN hgw
  go_loopw [13] (fun i wr => ∃ k : Nat, i = .int .i64 k ∧ k ≤ n ∧ Hid (Sering w g K n s (serN s.data.toList k r1) (serAt s.data.toList r1 k) wr)) (fun i _ => n - (intOf i).toNat)
  case atStart => exact ⟨0, rfl, by omega, HU0⟩
  case round =>
    clear HU0
    obtain ⟨k, rfl, hk, hU⟩ := hrel
    by_cases hlt : k < n
    · have i1 : (k : Int) < (n : Int) := by omega
      have i2 : (0 : Int) ≤ (k : Int) := by omega
      have HKE : Hid (∀ i, i < n → i ≠ k → serAt s.data.toList r1 k i = serAt s.data.toList r1 (k + 1) i) := Lib.hid fun i _ hne => by
        unfold serAt
        by_cases h : i < k
        · rw [if_pos h, if_pos (by omega)]
        · rw [if_neg h, if_neg (by omega)]
      have HVL : Hid (bt (serL s.data.toList (serN s.data.toList k r1)) = serAt s.data.toList r1 (k + 1) k) := Lib.hid (by unfold serAt; rw [if_pos (by omega)])
      have HSk := Lib.hid (HS.out k wr hU.out.rd)
      obtain ⟨f, hf⟩ : ∃ f, serAt s.data.toList r1 k = f := ⟨_, rfl⟩
      obtain ⟨f', hf'⟩ : ∃ f', serAt s.data.toList r1 (k + 1) = f' := ⟨_, rfl⟩
      obtain ⟨V, hV⟩ : ∃ V, bt (serL s.data.toList (serN s.data.toList k r1)) = V := ⟨_, rfl⟩
      obtain ⟨q, hq⟩ : ∃ q, serN s.data.toList k r1 = q := ⟨_, rfl⟩
      obtain ⟨q', hq'⟩ : ∃ q', serN s.data.toList (k + 1) r1 = q' := ⟨_, rfl⟩
      rw [hf] at hU HKE
      rw [hf'] at HKE HVL
      rw [hV] at HSk HVL
      rw [hq] at hU
      rw [hq'] at HSk
      have HF' := Lib.hid hf'
      have HQ' := Lib.hid hq'
      clear hf hf' hV hq hq'
      go_wp2_with (go_at_call 14; refine HSk.out.mono ?_; rintro e w2 ⟨rfl, h2, g2⟩; have hU2 := hU.out.step g2 h2; have HU2 := Lib.hid hU2; have hc2 := cell_of (j := k) hU2.row (strRow_at hlt); have hf2 := frozen_of_row _ _ k _ _ hU2.row; clear hU2 h2 g2)
      have HU3 := Lib.hid (HU2.out.set HKE.out HVL.out)
      go_roundw
      case rel => exact ⟨k + 1, by go_num, by omega, by rw [HF'.out, HQ'.out]; exact HU3⟩
      case measure => simp [intOf]; omega
    · obtain rfl : k = n := by omega
      have HFk := Lib.hid (HF.out _ wr hU.out.rd)
      have HRd := Lib.hid hU.out.rd
      by_cases h0 : (serN s.data.toList k r1).e = 0
      · rw [h0] at HFk
        have HL := Lib.hid (HE2.out h0)
        have HZ : Hid (L.length = k) := Lib.hid (by rw [HL.out]; simp)
        clear h0
        go_wp2_with (go_at_call 37; refine HFk.out.mono ?_; rintro e w2 ⟨rfl, rfl⟩)
        go_ret
        refine ⟨some ⟨K, 0, none⟩, k, by rw [HZ.out]; rfl, Or.inr ⟨K, 0, rfl, hU.out.ahead, obj_lt hU.out.row, fun j hj => ?_⟩, HRd.out, hU.out.old⟩
        have hj' : j < k := by simpa [HZ.out] using hj
        have hc := cell_of (j := j) hU.out.row (strRow_at hj')
        rw [Nat.zero_add, hc]
        congr 2
        unfold serAt textAt
        rw [if_pos hj', HL.out]
        simp [hj']
      · have hde : ((serN s.data.toList k r1).e == 0) = false := beq_eq_false_iff_ne.2 h0
        have HL := Lib.hid (HE3.out h0)
        clear h0
        obtain ⟨q, hq⟩ : ∃ q, serN s.data.toList k r1 = q := ⟨_, rfl⟩
        rw [hq] at HFk hde HRd
        have HQ := Lib.hid hq
        clear hq
        go_wp2_with (go_at_call 37; refine HFk.out.mono ?_; rintro e w2 ⟨rfl, rfl⟩)
        go_ret
        refine ⟨none, 0, by rw [HL.out]; rfl, Or.inl (by rw [HL.out]; rfl), by rw [HQ.out]; exact HRd.out, hU.out.old⟩
theorem no_sers (g : Nat) (m : Int) (w : World) (h : No w g) : Calls Try.prog 16 #[.pointer (some ⟨g, 0, none⟩), .int .i64 m] w fun e w' => ∃ a c, e = .returned (.slice a 0 c) ∧ Below w.heap.size w w' := by
  have HN := Lib.hid (no_num g 1 m w h)
  have hmk := run_make_row' (P := Try.prog) 47 9 (.string ⟨#[]⟩) 16 Try.underlying47 infoStr rfl .i64 .i64 0 (by omega) (by omega)
  have HF : Hid (∀ v, Below w.heap.size w v → Calls Try.prog 37 #[.pointer (some ⟨g, 0, none⟩)] v fun e w' => e = .returned (.int .i64 1) ∧ v = w') := Lib.hid fun v hv => (fault_no g v ⟨_, old_obj hv (no_heap h), rfl⟩).mono fun _ _ h => ⟨h.1, h.2.symm⟩
  rw [Int.natCast_zero] at hmk
  clear h
  go_enter Try.func16, Try.ntmps16
  go_wp2_with (go_at_call 12; refine HN.out.mono ?_; rintro e w1 ⟨rfl, h1⟩; have H1 := Lib.hid h1; clear h1)
  have HB := Lib.hid (H1.out.alloc H1.out.size (.cells (madeCells #[Value.string ⟨#[]⟩] 0) 9))
  generalize w1.alloc (.cells (madeCells #[Value.string ⟨#[]⟩] 0) 9) = W0 at *
  go_loopw [13] (fun i wr => i = .int .i64 0 ∧ wr = W0) (fun _ _ => 0)
  case atStart => exact ⟨rfl, rfl⟩
  case round =>
    obtain ⟨rfl, rfl⟩ := hrel
    go_wp2_with (go_at_call 37; refine (HF.out _ HB.out).mono ?_; rintro e w2 ⟨rfl, rfl⟩)
    go_ret
    exact ⟨none, 0, rfl, HB.out⟩
end Go.Proofs.Ytkflpkcggjpbfaa
