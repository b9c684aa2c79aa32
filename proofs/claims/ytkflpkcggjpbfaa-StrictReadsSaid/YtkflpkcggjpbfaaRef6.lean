/- The document's own reader: what a piece tells, for any text and place, in every world. -/
import Derived.Test.YtkflpkcggjpbfaaPlain6
import Derived.Test.YtkflpkcggjpbfaaBt5
import Derived.Test.YtkflpkcggjpbfaaTextRow
import Derived.Test.YtkflpkcggjpbfaaRefc
import Derived.Laws.ResultCell
import Derived.Laws.Rows
namespace Go.Proofs.Ytkflpkcggjpbfaa
open Go.RowKit

def rdr (s : ByteArray) (r : Rs) : Value := .agg #[.string s, .int .i64 r.p, .int .i64 r.e]
theorem rdr_load {w : World} {g : Nat} {t : TypeId} {x y z : Value} {fr : Nat × Nat} (h : w.heap[g]? = some (.cells #[x, y, z] t fr)) : (loadVar 27 ⟨g, 0, none⟩).run Try.prog w = .ok (.agg #[x, y, z]) w :=
  run_loadVar_row (P := Try.prog) w g t 27 #[x, y, z] fr _ h Try.underlying27 rfl (by kernel_rfl)
theorem rmoved_any (s : ByteArray) (p e t f : Int) (w : World) :
    Calls Try.prog 53 #[.agg #[.string s, .int .i64 p, .int .i64 e], .int .i64 t, .int .i64 f] w fun x w' => x = .returned (.agg #[.string s, .int .i64 (stp ⟨p, e⟩ t f).p, .int .i64 (stp ⟨p, e⟩ t f).e]) ∧ Below w.heap.size w w' := by
  by_cases h : f = 0
  · have hd : (f != 0) = false := by rw [h]; rfl
    have He : Hid (stp ⟨p, e⟩ t f = ⟨t, e⟩) := Lib.hid (by unfold stp; rw [if_pos h])
    clear h
    go_enter Try.func53, Try.ntmps53
    go_wp2
    refine bodyPost_ret (results_cell_row rfl _ _ (w.heap.size + 1) 27 _ _ _ rfl (heap_alloc2_new _ _ _) Try.underlying27 rfl (by kernel_rfl)) rfl ?_
    exact ⟨by rw [He.out], ((Below.refl _ _).alloc (Nat.le_refl _) _).alloc (by simp) _⟩
  · have hd : (f != 0) = true := by rw [bne_iff_ne]; exact h
    have He : Hid (stp ⟨p, e⟩ t f = ⟨p, f⟩) := Lib.hid (by unfold stp; rw [if_neg h])
    clear h
    go_enter Try.func53, Try.ntmps53
    go_wp2
    refine bodyPost_ret (results_cell_row rfl _ _ (w.heap.size + 1) 27 _ _ _ rfl (heap_alloc2_new _ _ _) Try.underlying27 rfl (by kernel_rfl)) rfl ?_
    exact ⟨by rw [He.out], ((Below.refl _ _).alloc (Nat.le_refl _) _).alloc (by simp) _⟩
/-- A place that may be asked for. -/
def Fit (r : Rs) : Prop := -9223372036854775808 ≤ r.p ∧ r.p ≤ 9223372036854775807
set_option maxHeartbeats 1000000 in
theorem rnum6 (s : ByteArray) (hs : s.size ≤ 4611686018427387904) (r : Rs) (hr : Fit r) (x m : Int) (w : World) :
    Calls Try.prog 27 #[rdr s r, .int .i64 x, .int .i64 m] w fun e w' => e = .returned (.tuple #[rdr s (numR s.data.toList r x m), .int .i64 (numV s.data.toList r x m)]) ∧ Below w.heap.size w w' := by
  obtain ⟨p, e⟩ := r
  by_cases h : e = 0
  · subst h
    unfold rdr
    obtain ⟨V, hV⟩ : ∃ V, V = getV s.data.toList p x := ⟨_, rfl⟩
    obtain ⟨T, hT⟩ : ∃ T, T = getT s.data.toList p x := ⟨_, rfl⟩
    obtain ⟨E, hE⟩ : ∃ E, E = getE s.data.toList p x := ⟨_, rfl⟩
    have HG : Hid (∀ v, Calls Try.prog 52 #[.string s, .int .i64 p, .int .i64 x] v fun e w' => e = .returned (.tuple #[.int .i64 V, .int .i64 T, .int .i64 E]) ∧ v = w') := Lib.hid fun v => by rw [hV, hT, hE]; exact rget_any s hs p x hr.1 hr.2 v
    by_cases c : E = 0
    · subst c
      by_cases c2 : m < V
      · have He : Hid (numR s.data.toList ⟨p, 0⟩ x m = stp ⟨p, 0⟩ T 3 ∧ numV s.data.toList ⟨p, 0⟩ x m = 0) := Lib.hid (by simp [numR, numV, numE, ← hV, ← hT, ← hE, c2])
        have hd : decide (m < V) = true := decide_eq_true c2
        clear c2 hr hV hT hE
        go_enter Try.func27, Try.ntmps27
        go_wp2_with (go_at_call 52; refine (HG.out _).mono ?_; rintro e w' ⟨rfl, rfl⟩)
        refine (rmoved_any _ _ _ _ _ _).mono ?_
        rintro x1 w1 ⟨rfl, b1⟩
        obtain ⟨hbl, G, _⟩ := below_two b1
        obtain ⟨d0, d1, d2, f0, f1, f2⟩ := three_cells G
        clear b1
        go_wp2
        refine bodyPost_ret (results_row_slot rfl _ _ (w.heap.size + 1) _ rfl (rdr_load (three_stored G _ _ _))) rfl ?_
        exact ⟨by rw [He.out.1, He.out.2]; rfl, three_below hbl (by omega) _ _ _⟩
      · have He : Hid (numR s.data.toList ⟨p, 0⟩ x m = stp ⟨p, 0⟩ T 0 ∧ numV s.data.toList ⟨p, 0⟩ x m = V) := Lib.hid (by simp [numR, numV, numE, ← hV, ← hT, ← hE, c2])
        have hd : decide (m < V) = false := decide_eq_false c2
        clear c2 hr hV hT hE
        go_enter Try.func27, Try.ntmps27
        go_wp2_with (go_at_call 52; refine (HG.out _).mono ?_; rintro e w' ⟨rfl, rfl⟩)
        refine (rmoved_any _ _ _ _ _ _).mono ?_
        rintro x1 w1 ⟨rfl, b1⟩
        obtain ⟨hbl, G, _⟩ := below_two b1
        obtain ⟨d0, d1, d2, f0, f1, f2⟩ := three_cells G
        clear b1
        go_wp2
        refine bodyPost_ret (results_row_slot rfl _ _ (w.heap.size + 1) _ rfl (rdr_load (three_stored G _ _ _))) rfl ?_
        exact ⟨by rw [He.out.1, He.out.2]; rfl, three_below hbl (by omega) _ _ _⟩
    · have He : Hid (numR s.data.toList ⟨p, 0⟩ x m = stp ⟨p, 0⟩ T E ∧ numV s.data.toList ⟨p, 0⟩ x m = 0) := Lib.hid (by simp [numR, numV, numE, ← hT, ← hE, c])
      have hd : (E == 0) = false := by simpa using c
      have hd2 : (E != 0) = true := by simpa using c
      clear c hr hV hT hE
      go_enter Try.func27, Try.ntmps27
      go_wp2_with (go_at_call 52; refine (HG.out _).mono ?_; rintro e w' ⟨rfl, rfl⟩)
      refine (rmoved_any _ _ _ _ _ _).mono ?_
      rintro x1 w1 ⟨rfl, b1⟩
      obtain ⟨hbl, G, _⟩ := below_two b1
      obtain ⟨d0, d1, d2, f0, f1, f2⟩ := three_cells G
      clear b1
      go_wp2
      refine bodyPost_ret (results_row_slot rfl _ _ (w.heap.size + 1) _ rfl (rdr_load (three_stored G _ _ _))) rfl ?_
      exact ⟨by rw [He.out.1, He.out.2]; rfl, three_below hbl (by omega) _ _ _⟩
  · have hd : (e != 0) = true := by rw [bne_iff_ne]; exact h
    have He : Hid (numR s.data.toList ⟨p, e⟩ x m = ⟨p, e⟩ ∧ numV s.data.toList ⟨p, e⟩ x m = 0) := Lib.hid (by unfold numR numV; rw [if_neg h, if_neg h]; exact ⟨rfl, rfl⟩)
    clear h
    unfold rdr
    go_enter Try.func27, Try.ntmps27
    go_wp2
    refine bodyPost_ret (results_row_slot rfl _ _ (w.heap.size + 1) _ rfl (rdr_load (heap_alloc2_new _ _ _))) rfl ?_
    exact ⟨by rw [He.out.1, He.out.2]; rfl, ((Below.refl _ _).alloc (Nat.le_refl _) _).alloc (by simp) _⟩
theorem rtext6 (s : ByteArray) (hs : s.size ≤ 4611686018427387904) (r : Rs) (hr : Fit r) (m : Int) (w : World) :
    Calls Try.prog 28 #[rdr s r, .int .i64 m] w fun e w' => e = .returned (.tuple #[rdr s (textR s.data.toList r m), .string (bt (textL s.data.toList r m))]) ∧ Below w.heap.size w w' := by
  obtain ⟨p, e⟩ := r
  by_cases h : e = 0
  · subst h
    unfold rdr
    obtain ⟨V, hV⟩ : ∃ V, V = takeL s.data.toList p m := ⟨_, rfl⟩
    obtain ⟨T, hT⟩ : ∃ T, T = takeT s.data.toList p m := ⟨_, rfl⟩
    obtain ⟨E, hE⟩ : ∃ E, E = takeE s.data.toList p m := ⟨_, rfl⟩
    have HG : Hid (∀ v, Calls Try.prog 54 #[.string s, .int .i64 p, .int .i64 m] v fun e w' => e = .returned (.tuple #[.string (bt V), .int .i64 T, .int .i64 E]) ∧ v = w') := Lib.hid fun v => by rw [hV, hT, hE]; exact rtake_bt s hs p m hr.1 hr.2 v
    have He : Hid (textR s.data.toList ⟨p, 0⟩ m = stp ⟨p, 0⟩ T E ∧ textL s.data.toList ⟨p, 0⟩ m = V) := Lib.hid (by simp [textR, textL, ← hV, ← hT, ← hE])
    clear hr hV hT hE
    go_enter Try.func28, Try.ntmps28
    go_wp2_with (go_at_call 54; refine (HG.out _).mono ?_; rintro e w' ⟨rfl, rfl⟩)
    refine (rmoved_any _ _ _ _ _ _).mono ?_
    rintro x1 w1 ⟨rfl, b1⟩
    obtain ⟨hbl, G, _⟩ := below_two b1
    obtain ⟨d0, d1, d2, f0, f1, f2⟩ := three_cells G
    clear b1
    go_wp2
    refine bodyPost_ret (results_row_slot rfl _ _ (w.heap.size + 1) _ rfl (rdr_load (three_stored G _ _ _))) rfl ?_
    exact ⟨by rw [He.out.1, He.out.2]; rfl, three_below hbl (by omega) _ _ _⟩
  · have hd : (e != 0) = true := by rw [bne_iff_ne]; exact h
    have He : Hid (textR s.data.toList ⟨p, e⟩ m = ⟨p, e⟩ ∧ textL s.data.toList ⟨p, e⟩ m = []) := Lib.hid (by unfold textR textL; rw [if_neg h, if_neg h]; exact ⟨rfl, rfl⟩)
    clear h
    unfold rdr
    go_enter Try.func28, Try.ntmps28
    go_wp2
    refine bodyPost_ret (results_row_slot rfl _ _ (w.heap.size + 1) _ rfl (rdr_load (heap_alloc2_new _ _ _))) rfl ?_
    exact ⟨by rw [He.out.1, He.out.2]; rfl, ((Below.refl _ _).alloc (Nat.le_refl _) _).alloc (by simp) _⟩
set_option maxHeartbeats 1000000 in
theorem rrow6 (s : ByteArray) (hs : s.size ≤ 4611686018427387904) (r : Rs) (hr : Fit r) (x m : Int) (w : World) :
    Calls Try.prog 30 #[rdr s r, .int .i64 x, .int .i64 m] w fun e w' => ∃ a c, e = .returned (.tuple #[rdr s (rowR s.data.toList r x m), .slice a (rowV s.data.toList r x m).length c]) ∧ IntsNew w.heap.size w'.heap.size w' a (rowV s.data.toList r x m) ∧ Below w.heap.size w w' := by
  obtain ⟨p, e⟩ := r
  by_cases h : e = 0
  · subst h
    unfold rdr
    obtain ⟨V, hV⟩ : ∃ V, V = unrowL s.data.toList p x m := ⟨_, rfl⟩
    obtain ⟨T, hT⟩ : ∃ T, T = unrowT s.data.toList p x m := ⟨_, rfl⟩
    obtain ⟨E, hE⟩ : ∃ E, E = unrowE s.data.toList p x m := ⟨_, rfl⟩
    have HG : Hid (∀ v, Calls Try.prog 56 #[.string s, .int .i64 p, .int .i64 x, .int .i64 m] v fun e w' => ∃ a c, e = .returned (.tuple #[.slice a V.length c, .int .i64 T, .int .i64 E]) ∧ IntsNew v.heap.size w'.heap.size w' a V ∧ Below v.heap.size v w') := Lib.hid fun v => by rw [hV, hT, hE]; exact runrow_new s hs p x m hr.1 hr.2 v
    have He : rowR s.data.toList ⟨p, 0⟩ x m = stp ⟨p, 0⟩ T E ∧ rowV s.data.toList ⟨p, 0⟩ x m = V := by simp [rowR, rowV, ← hV, ← hT, ← hE]
    rw [He.1, He.2]
    clear hr hV hT hE He
    go_enter Try.func30, Try.ntmps30
    go_wp2_with fail
    refine (HG.out _).mono ?_
    rintro e w1 ⟨a, c, rfl, hi, b1⟩
    obtain ⟨hbl, G, G0⟩ := below_two b1
    obtain ⟨e0, e1, e2, _, _, _⟩ := three_cells G0
    clear b1 G0
    go_wp2_with fail
    refine (rmoved_any _ _ _ _ _ _).mono ?_
    rintro x1 w2 ⟨rfl, b2⟩
    have G2 := old_obj b2 G
    have hbl2 := hbl.trans (b2.mono hbl.size)
    obtain ⟨d0, d1, d2, f0, f1, f2⟩ := three_cells G2
    have HI := Lib.hid ((hi.step b2).wide (A' := w.heap.size + 2) (by simp) (Nat.le_refl _))
    clear hi b2 e0 e1 e2 G
    go_wp2
    refine bodyPost_ret (results_row_slot rfl _ _ (w.heap.size + 1) _ rfl (rdr_load (three_stored G2 _ _ _))) rfl ?_
    exact ⟨a, c, rfl, (((HI.out.set (by simp) _).set (by simp) _).set (by simp) _).wide (by omega) (Nat.le_refl _), three_below hbl2 (by omega) _ _ _⟩
  · have hd : (e != 0) = true := by rw [bne_iff_ne]; exact h
    have He : Hid (rowR s.data.toList ⟨p, e⟩ x m = ⟨p, e⟩ ∧ rowV s.data.toList ⟨p, e⟩ x m = []) := Lib.hid (by unfold rowR rowV; rw [if_neg h, if_neg h]; exact ⟨rfl, rfl⟩)
    clear h
    unfold rdr
    go_enter Try.func30, Try.ntmps30
    go_wp2
    refine bodyPost_ret (results_row_slot rfl _ _ (w.heap.size + 1) _ rfl (rdr_load (heap_alloc2_new _ _ _))) rfl ?_
    exact ⟨none, 0, by rw [He.out.1, He.out.2]; rfl, by rw [He.out.2]; exact Or.inl rfl, ((Below.refl _ _).alloc (Nat.le_refl _) _).alloc (by simp) _⟩
set_option maxHeartbeats 1000000 in
theorem rser6 (s : ByteArray) (hs : s.size ≤ 4611686018427387904) (r : Rs) (hr : Fit r) (w : World) :
    Calls Try.prog 29 #[rdr s r] w fun e w' => e = .returned (.tuple #[rdr s (serR s.data.toList r), .string (bt (serL s.data.toList r))]) ∧ Below w.heap.size w w' := by
  obtain ⟨p, e⟩ := r
  by_cases h : e = 0
  · subst h
    unfold rdr
    obtain ⟨V, hV⟩ : ∃ V, V = takeL s.data.toList p 16 := ⟨_, rfl⟩
    obtain ⟨T, hT⟩ : ∃ T, T = takeT s.data.toList p 16 := ⟨_, rfl⟩
    obtain ⟨E, hE⟩ : ∃ E, E = takeE s.data.toList p 16 := ⟨_, rfl⟩
    obtain ⟨K, hK⟩ : ∃ K, K = checkOf V := ⟨_, rfl⟩
    have HG : Hid (∀ v, Calls Try.prog 54 #[.string s, .int .i64 p, .int .i64 16] v fun e w' => e = .returned (.tuple #[.string (bt V), .int .i64 T, .int .i64 E]) ∧ v = w') := Lib.hid fun v => by rw [hV, hT, hE]; exact rtake_bt s hs p 16 hr.1 hr.2 v
    have HC : Hid (∀ v, Calls Try.prog 55 #[.string (bt V)] v fun e w' => e = .returned (.int .i64 K) ∧ Below v.heap.size v w') := Lib.hid fun v => by
      have := rcheck_any (bt V) v
      rw [bt_list] at this
      rw [hK]; exact this
    by_cases c : E = 0
    · subst c
      by_cases c2 : K = 0
      · have He : Hid (serR s.data.toList ⟨p, 0⟩ = stp ⟨p, 0⟩ T 0 ∧ serL s.data.toList ⟨p, 0⟩ = V) := Lib.hid (by simp [serR, serL, serE, ← hV, ← hT, ← hE, ← hK, c2])
        have hd : (K != 0) = false := by rw [c2]; rfl
        have hd2 : (K == 0) = true := by rw [c2]; rfl
        subst c2
        clear hr hV hT hE hK
        go_enter Try.func29, Try.ntmps29
        go_wp2_with (go_at_call 54; refine (HG.out _).mono ?_; rintro e w' ⟨rfl, rfl⟩)
        refine (HC.out _).mono ?_
        rintro e w1 ⟨rfl, b1⟩
        obtain ⟨hbl, G, G0⟩ := below_two b1
        obtain ⟨e0, e1, e2, _, _, _⟩ := three_cells G0
        clear b1 G0
        go_wp2_with fail
        refine (rmoved_any _ _ _ _ _ _).mono ?_
        rintro x1 w2 ⟨rfl, b2⟩
        have G2 := old_obj b2 G
        have hbl2 := hbl.trans (b2.mono hbl.size)
        obtain ⟨d0, d1, d2, f0, f1, f2⟩ := three_cells G2
        clear b2 e0 e1 e2 G
        go_wp2
        refine bodyPost_ret (results_row_slot rfl _ _ (w.heap.size + 1) _ rfl (rdr_load (three_stored G2 _ _ _))) rfl ?_
        exact ⟨by rw [He.out.1, He.out.2]; rfl, three_below hbl2 (by omega) _ _ _⟩
      · have He : Hid (serR s.data.toList ⟨p, 0⟩ = stp ⟨p, 0⟩ T K ∧ serL s.data.toList ⟨p, 0⟩ = []) := Lib.hid (by simp [serR, serL, serE, ← hV, ← hT, ← hE, ← hK, c2])
        have hd : (K != 0) = true := by simpa using c2
        clear c2
        clear hr hV hT hE hK
        go_enter Try.func29, Try.ntmps29
        go_wp2_with (go_at_call 54; refine (HG.out _).mono ?_; rintro e w' ⟨rfl, rfl⟩)
        refine (HC.out _).mono ?_
        rintro e w1 ⟨rfl, b1⟩
        obtain ⟨hbl, G, G0⟩ := below_two b1
        obtain ⟨e0, e1, e2, _, _, _⟩ := three_cells G0
        clear b1 G0
        go_wp2_with fail
        refine (rmoved_any _ _ _ _ _ _).mono ?_
        rintro x1 w2 ⟨rfl, b2⟩
        have G2 := old_obj b2 G
        have hbl2 := hbl.trans (b2.mono hbl.size)
        obtain ⟨d0, d1, d2, f0, f1, f2⟩ := three_cells G2
        clear b2 e0 e1 e2 G
        go_wp2
        refine bodyPost_ret (results_row_slot rfl _ _ (w.heap.size + 1) _ rfl (rdr_load (three_stored G2 _ _ _))) rfl ?_
        exact ⟨by rw [He.out.1, He.out.2]; rfl, three_below hbl2 (by omega) _ _ _⟩
    · have He : Hid (serR s.data.toList ⟨p, 0⟩ = stp ⟨p, 0⟩ T E ∧ serL s.data.toList ⟨p, 0⟩ = []) := Lib.hid (by simp [serR, serL, serE, ← hT, ← hE, c])
      have hd : (E == 0) = false := by simpa using c
      have hd2 : (E != 0) = true := by simpa using c
      clear c hr hV hT hE hK
      go_enter Try.func29, Try.ntmps29
      go_wp2_with (go_at_call 54; refine (HG.out _).mono ?_; rintro e w' ⟨rfl, rfl⟩)
      refine (rmoved_any _ _ _ _ _ _).mono ?_
      rintro x1 w1 ⟨rfl, b1⟩
      obtain ⟨hbl, G, _⟩ := below_two b1
      obtain ⟨d0, d1, d2, f0, f1, f2⟩ := three_cells G
      clear b1
      go_wp2
      refine bodyPost_ret (results_row_slot rfl _ _ (w.heap.size + 1) _ rfl (rdr_load (three_stored G _ _ _))) rfl ?_
      exact ⟨by rw [He.out.1, He.out.2]; rfl, three_below hbl (by omega) _ _ _⟩
  · have hd : (e != 0) = true := by rw [bne_iff_ne]; exact h
    have He : Hid (serR s.data.toList ⟨p, e⟩ = ⟨p, e⟩ ∧ serL s.data.toList ⟨p, e⟩ = []) := Lib.hid (by unfold serR serL; rw [if_neg h, if_neg h]; exact ⟨rfl, rfl⟩)
    clear h
    unfold rdr
    go_enter Try.func29, Try.ntmps29
    go_wp2
    refine bodyPost_ret (results_row_slot rfl _ _ (w.heap.size + 1) _ rfl (rdr_load (heap_alloc2_new _ _ _))) rfl ?_
    exact ⟨by rw [He.out.1, He.out.2]; rfl, ((Below.refl _ _).alloc (Nat.le_refl _) _).alloc (by simp) _⟩
set_option maxHeartbeats 1000000 in
theorem rflag6 (s : ByteArray) (hs : s.size ≤ 4611686018427387904) (r : Rs) (hr : Fit r) (w : World) :
    Calls Try.prog 34 #[rdr s r] w fun e w' => e = .returned (.tuple #[rdr s (flagR s.data.toList r), .bool (flagB s.data.toList r)]) ∧ Below w.heap.size w w' := by
  obtain ⟨p, e⟩ := r
  by_cases h : e = 0
  · subst h
    unfold rdr
    obtain ⟨V, hV⟩ : ∃ V, V = getV s.data.toList p 1 := ⟨_, rfl⟩
    obtain ⟨T, hT⟩ : ∃ T, T = getT s.data.toList p 1 := ⟨_, rfl⟩
    obtain ⟨E, hE⟩ : ∃ E, E = getE s.data.toList p 1 := ⟨_, rfl⟩
    have HG : Hid (∀ v, Calls Try.prog 52 #[.string s, .int .i64 p, .int .i64 1] v fun e w' => e = .returned (.tuple #[.int .i64 V, .int .i64 T, .int .i64 E]) ∧ v = w') := Lib.hid fun v => by rw [hV, hT, hE]; exact rget_any s hs p 1 hr.1 hr.2 v
    by_cases c : E = 0
    · subst c
      by_cases c2 : 1 < V
      · have He : Hid (flagR s.data.toList ⟨p, 0⟩ = stp ⟨p, 0⟩ T 5 ∧ flagB s.data.toList ⟨p, 0⟩ = false) := Lib.hid (by simp [flagR, flagB, flagE, ← hV, ← hT, ← hE, c2])
        have hd : decide (1 < V) = true := decide_eq_true c2
        clear c2
        clear hr hV hT hE
        go_enter Try.func34, Try.ntmps34
        go_wp2_with (go_at_call 52; refine (HG.out _).mono ?_; rintro e w' ⟨rfl, rfl⟩)
        refine (rmoved_any _ _ _ _ _ _).mono ?_
        rintro x1 w1 ⟨rfl, b1⟩
        obtain ⟨hbl, G, _⟩ := below_two b1
        obtain ⟨d0, d1, d2, f0, f1, f2⟩ := three_cells G
        clear b1
        go_wp2
        refine bodyPost_ret (results_row_slot rfl _ _ (w.heap.size + 1) _ rfl (rdr_load (three_stored G _ _ _))) rfl ?_
        exact ⟨by rw [He.out.1, He.out.2]; rfl, three_below hbl (by omega) _ _ _⟩
      · by_cases c3 : V = 1
        · have He : Hid (flagR s.data.toList ⟨p, 0⟩ = stp ⟨p, 0⟩ T 0 ∧ flagB s.data.toList ⟨p, 0⟩ = true) := Lib.hid (by simp [flagR, flagB, flagE, ← hV, ← hT, ← hE, c3])
          have hd : decide (1 < V) = false := decide_eq_false c2
          have hd2 : (V == 1) = true := by simpa using c3
          clear c2 c3
          clear hr hV hT hE
          go_enter Try.func34, Try.ntmps34
          go_wp2_with (go_at_call 52; refine (HG.out _).mono ?_; rintro e w' ⟨rfl, rfl⟩)
          refine (rmoved_any _ _ _ _ _ _).mono ?_
          rintro x1 w1 ⟨rfl, b1⟩
          obtain ⟨hbl, G, _⟩ := below_two b1
          obtain ⟨d0, d1, d2, f0, f1, f2⟩ := three_cells G
          clear b1
          go_wp2
          refine bodyPost_ret (results_row_slot rfl _ _ (w.heap.size + 1) _ rfl (rdr_load (three_stored G _ _ _))) rfl ?_
          exact ⟨by rw [He.out.1, He.out.2]; rfl, three_below hbl (by omega) _ _ _⟩
        · have He : Hid (flagR s.data.toList ⟨p, 0⟩ = stp ⟨p, 0⟩ T 0 ∧ flagB s.data.toList ⟨p, 0⟩ = false) := Lib.hid (by simp [flagR, flagB, flagE, ← hV, ← hT, ← hE, c2, c3])
          have hd : decide (1 < V) = false := decide_eq_false c2
          have hd2 : (V == 1) = false := by simpa using c3
          clear c2 c3
          clear hr hV hT hE
          go_enter Try.func34, Try.ntmps34
          go_wp2_with (go_at_call 52; refine (HG.out _).mono ?_; rintro e w' ⟨rfl, rfl⟩)
          refine (rmoved_any _ _ _ _ _ _).mono ?_
          rintro x1 w1 ⟨rfl, b1⟩
          obtain ⟨hbl, G, _⟩ := below_two b1
          obtain ⟨d0, d1, d2, f0, f1, f2⟩ := three_cells G
          clear b1
          go_wp2
          refine bodyPost_ret (results_row_slot rfl _ _ (w.heap.size + 1) _ rfl (rdr_load (three_stored G _ _ _))) rfl ?_
          exact ⟨by rw [He.out.1, He.out.2]; rfl, three_below hbl (by omega) _ _ _⟩
    · have He : Hid (flagR s.data.toList ⟨p, 0⟩ = stp ⟨p, 0⟩ T E ∧ flagB s.data.toList ⟨p, 0⟩ = false) := Lib.hid (by simp [flagR, flagB, flagE, ← hT, ← hE, c])
      have hd : (E == 0) = false := by simpa using c
      have hd2 : (E != 0) = true := by simpa using c
      clear c
      clear hr hV hT hE
      go_enter Try.func34, Try.ntmps34
      go_wp2_with (go_at_call 52; refine (HG.out _).mono ?_; rintro e w' ⟨rfl, rfl⟩)
      refine (rmoved_any _ _ _ _ _ _).mono ?_
      rintro x1 w1 ⟨rfl, b1⟩
      obtain ⟨hbl, G, _⟩ := below_two b1
      obtain ⟨d0, d1, d2, f0, f1, f2⟩ := three_cells G
      clear b1
      go_wp2
      refine bodyPost_ret (results_row_slot rfl _ _ (w.heap.size + 1) _ rfl (rdr_load (three_stored G _ _ _))) rfl ?_
      exact ⟨by rw [He.out.1, He.out.2]; rfl, three_below hbl (by omega) _ _ _⟩
  · have hd : (e != 0) = true := by rw [bne_iff_ne]; exact h
    have He : Hid (flagR s.data.toList ⟨p, e⟩ = ⟨p, e⟩ ∧ flagB s.data.toList ⟨p, e⟩ = false) := Lib.hid (by unfold flagR flagB; rw [if_neg h, if_neg h]; exact ⟨rfl, rfl⟩)
    clear h
    unfold rdr
    go_enter Try.func34, Try.ntmps34
    go_wp2
    refine bodyPost_ret (results_row_slot rfl _ _ (w.heap.size + 1) _ rfl (rdr_load (heap_alloc2_new _ _ _))) rfl ?_
    exact ⟨by rw [He.out.1, He.out.2]; rfl, ((Below.refl _ _).alloc (Nat.le_refl _) _).alloc (by simp) _⟩
theorem rend6 (s : ByteArray) (r : Rs) (w : World) :
    Calls Try.prog 35 #[rdr s r] w fun e w' => e = .returned (rdr s (endR s.data.toList r)) ∧ Below w.heap.size w w' := by
  obtain ⟨p, e⟩ := r
  have hz : (s.data.toList.length : Int) = s.size := by rw [Array.length_toList]; rfl
  by_cases h : e = 0
  · by_cases h2 : p < s.size
    · have He : Hid (endR s.data.toList ⟨p, e⟩ = ⟨p, 6⟩) := Lib.hid (by unfold endR; rw [hz, if_pos ⟨h, h2⟩])
      have hd : (e == 0) = true := by simpa using h
      have hd2 : decide (p < (s.size : Int)) = true := decide_eq_true h2
      clear h h2 hz
      unfold rdr
      go_enter Try.func35, Try.ntmps35
      go_wp2
      refine bodyPost_ret (results_cell_row rfl _ _ (w.heap.size + 1) 27 _ _ _ rfl (heap_alloc2_new _ _ _) Try.underlying27 rfl (by kernel_rfl)) rfl ?_
      exact ⟨by rw [He.out], ((Below.refl _ _).alloc (Nat.le_refl _) _).alloc (by simp) _⟩
    · have He : Hid (endR s.data.toList ⟨p, e⟩ = ⟨p, e⟩) := Lib.hid (by unfold endR; rw [hz, if_neg (fun h3 => h2 h3.2)])
      have hd : (e == 0) = true := by simpa using h
      have hd2 : decide (p < (s.size : Int)) = false := decide_eq_false h2
      clear h h2 hz
      unfold rdr
      go_enter Try.func35, Try.ntmps35
      go_wp2
      refine bodyPost_ret (results_cell_row rfl _ _ (w.heap.size + 1) 27 _ _ _ rfl (heap_alloc2_new _ _ _) Try.underlying27 rfl (by kernel_rfl)) rfl ?_
      exact ⟨by rw [He.out], ((Below.refl _ _).alloc (Nat.le_refl _) _).alloc (by simp) _⟩
  · have He : Hid (endR s.data.toList ⟨p, e⟩ = ⟨p, e⟩) := Lib.hid (by unfold endR; rw [if_neg (fun h3 => h h3.1)])
    have hd : (e == 0) = false := by simpa using h
    clear h hz
    unfold rdr
    go_enter Try.func35, Try.ntmps35
    go_wp2
    refine bodyPost_ret (results_cell_row rfl _ _ (w.heap.size + 1) 27 _ _ _ rfl (heap_alloc2_new _ _ _) Try.underlying27 rfl (by kernel_rfl)) rfl ?_
    exact ⟨by rw [He.out], ((Below.refl _ _).alloc (Nat.le_refl _) _).alloc (by simp) _⟩
theorem own_step {w w' : World} {base : Nat} {e : TypeId} {size : Nat} {v : Value} {n : Nat} {xs : List Value} (h : w.ownsRow base e size v n xs) (b : Below w.heap.size w w') : w'.ownsRow base e size v n xs :=
  h.kept (row := none) ⟨b.os, b.tape, b.output, b.size, fun k hk _ => b.block k hk⟩ (by cases hv : v.ownBlock with | none => exact Or.inl rfl | some g => exact Or.inr (by simp))
theorem within_fit {S : List UInt8} {r : Rs} (h : Within S r) (hs : S.length ≤ 4611686018427387904) : Fit r := by
  obtain ⟨h0, h1⟩ := h
  exact ⟨by omega, by omega⟩
theorem sers_round {w w2 w3 : World} {B : Nat} {v x y z x' y' z' : Value} {T : TypeId} {A Z lit : Obj} {k : Nat} {e : TypeId} {xs : List Value} (G0 : w2.heap[B]? = some (.cells #[x', y', z'] T (0, 0))) (G1 : w2.heap[B + 1]? = some Z) (hb : Below B w w2) (hB : B + 2 ≤ w2.heap.size) (ho : w2.ownsRow (B + 2) e 1 v k xs)
    (hg : (((((w2.setCell ⟨B, 0, none⟩ x).setCell ⟨B, 1, none⟩ y).setCell ⟨B, 2, none⟩ z).alloc A).alloc lit).grownBy w3 v.ownBlock) :
    w3.heap[B]? = some (.cells #[x, y, z] T (0, 0)) ∧ w3.heap[B + 1]? = some Z ∧ Below B w w3 ∧ B + 2 ≤ w3.heap.size := by
  have h3 := three_stored G0 x y z
  have h4 : (((w2.setCell ⟨B, 0, none⟩ x).setCell ⟨B, 1, none⟩ y).setCell ⟨B, 2, none⟩ z).heap[B + 1]? = some Z := by
    rw [heap_setCell_other _ ⟨B, 2, none⟩ (B + 1) _ (by simp), heap_setCell_other _ ⟨B, 1, none⟩ (B + 1) _ (by simp), heap_setCell_other _ ⟨B, 0, none⟩ (B + 1) _ (by simp)]; exact G1
  have hbB := three_below hb (Nat.le_refl _) x y z
  have hsz : B + 2 ≤ (((w2.setCell ⟨B, 0, none⟩ x).setCell ⟨B, 1, none⟩ y).setCell ⟨B, 2, none⟩ z).heap.size := by simp; omega
  generalize ((w2.setCell ⟨B, 0, none⟩ x).setCell ⟨B, 1, none⟩ y).setCell ⟨B, 2, none⟩ z = V at *
  have hne : ∀ j, j < B + 2 → some j ≠ v.ownBlock := fun j hj e => by have := ho.lt j e.symm; omega
  refine ⟨?_, ?_, ((hbB.alloc (by omega) A).alloc (by simp; omega) lit).grown hg (by simp; omega) (fun j hj => by have := ho.lt j hj; omega), by have := hg.size; simp at this; omega⟩
  · rw [hg.block B (by simp; omega) (hne B (by omega)), Below.heap_alloc (V.alloc A) lit B (by simp; omega), Below.heap_alloc V A B (by omega)]; exact h3
  · rw [hg.block (B + 1) (by simp; omega) (hne (B + 1) (by omega)), Below.heap_alloc (V.alloc A) lit (B + 1) (by simp; omega), Below.heap_alloc V A (B + 1) (by omega)]; exact h4
set_option maxRecDepth 100000 in
set_option maxHeartbeats 2000000 in
theorem rsers6 (s : ByteArray) (hs : s.size ≤ 4611686018427387904) (r : Rs) (hr : Within s.data.toList r) (m : Int) (w : World) :
    Calls Try.prog 32 #[rdr s r, .int .i64 m] w fun e w' => ∃ a c, e = .returned (.tuple #[rdr s (sersR s.data.toList r m), .slice a (sersL s.data.toList r m).length c]) ∧ TextsNew w.heap.size w'.heap.size w' a ((sersL s.data.toList r m).map bt) ∧ Below w.heap.size w w' := by
  have hz : s.data.toList.length = s.size := by rw [Array.length_toList]; rfl
  obtain ⟨hn0, hn1⟩ := byte_lt (S := s.data.toList) (r := r) (m := m)
  obtain ⟨n, hn⟩ : ∃ n : Nat, numV s.data.toList r 1 m = n := ⟨(numV s.data.toList r 1 m).toNat, by omega⟩
  have hr0 := num_in (x := 1) (m := m) hr
  have HA : Hid (sersAll s.data.toList r m = sersOn s.data.toList n (numR s.data.toList r 1 m) []) := Lib.hid (by simp only [sersAll, hn, Int.toNat_natCast])
  have HN := Lib.hid (rnum6 s hs r (within_fit hr (by omega)) 1 m)
  have HS : Hid (∀ (q : Rs) (v : World), Within s.data.toList q → Calls Try.prog 29 #[.agg #[.string s, .int .i64 q.p, .int .i64 q.e]] v fun e w' => e = .returned (.tuple #[rdr s (serR s.data.toList q), .string (bt (serL s.data.toList q))]) ∧ Below v.heap.size v w') := Lib.hid fun q v h => rser6 s hs q (within_fit h (by omega)) v
  rw [hn] at HN
  have hn2 : n ≤ 255 := by omega
  obtain ⟨r0, hr0'⟩ : ∃ r0, r0 = numR s.data.toList r 1 m := ⟨_, rfl⟩
  rw [← hr0'] at HA HN hr0
  clear hn hn0 hn1 hr0' hz
  unfold rdr at HN ⊢
  go_enter Try.func32, Try.ntmps32
  go_wp2_with fail
  refine (HN.out _).mono ?_
  rintro e w1 ⟨rfl, b1⟩
  obtain ⟨hbl, G1, G0⟩ := below_two b1
  obtain ⟨d0, d1, d2, f0, f1, f2⟩ := three_cells G0
  clear b1
  have HG0 := Lib.hid (three_stored G0 (.string s) (.int .i64 r0.p) (.int .i64 r0.e))
  have HG1 : Hid ((((w1.setCell ⟨w.heap.size, 0, none⟩ (.string s)).setCell ⟨w.heap.size, 1, none⟩ (.int .i64 r0.p)).setCell ⟨w.heap.size, 2, none⟩ (.int .i64 r0.e)).heap[w.heap.size + 1]? = some (.cells #[.string ⟨#[]⟩, .int .i64 0, .int .i64 0] 27 (0, 0))) := Lib.hid (by
    rw [heap_setCell_other _ ⟨w.heap.size, 2, none⟩ (w.heap.size + 1) _ (by simp), heap_setCell_other _ ⟨w.heap.size, 1, none⟩ (w.heap.size + 1) _ (by simp), heap_setCell_other _ ⟨w.heap.size, 0, none⟩ (w.heap.size + 1) _ (by simp)]; exact G1)
  have HB := Lib.hid (three_below hbl (Nat.le_refl _) (.string s) (.int .i64 r0.p) (.int .i64 r0.e))
  have HZ : Hid (w.heap.size + 2 ≤ (((w1.setCell ⟨w.heap.size, 0, none⟩ (.string s)).setCell ⟨w.heap.size, 1, none⟩ (.int .i64 r0.p)).setCell ⟨w.heap.size, 2, none⟩ (.int .i64 r0.e)).heap.size) := Lib.hid (by have := obj_lt G1; simp; omega)
  clear hbl G1 G0
  go_wp2
  go_loopw [7, 8, 9, 10] (fun v i _ _ wr => ∃ (k : Nat) (q : Rs) (L : List (List UInt8)), i = .int .i64 k ∧ k ≤ n ∧ wr.ownsRow (w.heap.size + 2) 9 1 v k (strCells (L.map bt)) ∧ Hid (L.length = k) ∧ Hid (sersOn s.data.toList n r0 [] = sersOn s.data.toList (n - k) q L) ∧ Hid (wr.heap[w.heap.size]? = some (.cells #[.string s, .int .i64 q.p, .int .i64 q.e] 27 (0, 0))) ∧ Hid (wr.heap[w.heap.size + 1]? = some (.cells #[.string ⟨#[]⟩, .int .i64 0, .int .i64 0] 27 (0, 0))) ∧ Hid (Below w.heap.size w wr) ∧ Hid (w.heap.size + 2 ≤ wr.heap.size) ∧ Hid (Within s.data.toList q)) (fun _ i _ _ _ => n - (intOf i).toNat)
  case atStart => exact ⟨0, r0, [], rfl, by omega, World.ownsRow_nil _ _ _ _, Lib.hid rfl, Lib.hid rfl, HG0, HG1, HB, HZ, Lib.hid hr0⟩
  case round =>
    clear HG0 HG1 HB HZ d0 d1 d2 f0 f1 f2
    obtain ⟨k, q, L, rfl, hk, ho, HL, HO, HQ0, HQ1, hb, hz2, hq⟩ := hrel
    obtain ⟨e0, e1, e2, c0, c1, c2⟩ := three_cells HQ0.out
    by_cases hlt : k < n
    · have i1 : (k : Int) < (n : Int) := by omega
      by_cases hq0 : q.e = 0
      · have hd : (q.e == 0) = true := by rw [hq0]; rfl
        have HO2 : Hid (sersOn s.data.toList n r0 [] = sersOn s.data.toList (n - (k + 1)) (serR s.data.toList q) (L ++ [serL s.data.toList q])) := Lib.hid (by
          rw [HO.out, show n - k = (n - (k + 1)) + 1 by omega, sers_go hq0])
        clear hq0
        go_wp2_with fail
        refine (HS.out q _ hq.out).mono ?_
        rintro e w2 ⟨rfl, b2⟩
        have G0 := old_obj b2 HQ0.out
        have G1 := old_obj b2 HQ1.out
        have ho2 := own_step ho b2
        have hB2 : Below w.heap.size w w2 := hb.out.trans (b2.mono hb.out.size)
        have hz3 : w.heap.size + 2 ≤ w2.heap.size := by have := hz2.out; have := b2.size; omega
        obtain ⟨d0, d1, d2, f0, f1, f2⟩ := three_cells G0
        have HG0 := Lib.hid G0
        have HG1 := Lib.hid G1
        have HB2 := Lib.hid hB2
        have HZ3 := Lib.hid hz3
        have hlt2 : w.heap.size < w2.heap.size := by omega
        have HO3 := Lib.hid ho2
        clear G0 G1 hB2 ho ho2 b2 e0 e1 e2 c0 c1 c2
        unfold rdr
        go_wp2_with (at_builtin; refine append_str_at rfl _ _ rfl (w.heap.size + 2) k _ (strCells (L.map bt)) rfl ?c1 (bt (serL s.data.toList q)) _ rfl ?c3 ?c4 ?c2 ?_)
        case c1 => exact (ownsRow_setCell_below (ownsRow_setCell_below (ownsRow_setCell_below HO3.out (show w.heap.size < w.heap.size + 2 by omega) _) (show w.heap.size < w.heap.size + 2 by omega) _) (show w.heap.size < w.heap.size + 2 by omega) _).alloc _
        case c2 => have := HZ3.out; simp; omega
        case c3 => simp
        case c4 => omega
        · intro v' w3 ho4 hg
          obtain ⟨a1, a2, a3, a4⟩ := sers_round HG0.out HG1.out HB2.out HZ3.out HO3.out hg
          have HR0 := Lib.hid a1
          have HR1 := Lib.hid a2
          have HR2 := Lib.hid a3
          have HR3 := Lib.hid a4
          rw [strCells_more, show L.map bt ++ [bt (serL s.data.toList q)] = (L ++ [serL s.data.toList q]).map bt by simp] at ho4
          have HL2 : Hid ((L ++ [serL s.data.toList q]).length = k + 1) := Lib.hid (by rw [List.length_append, HL.out]; rfl)
          clear hg a1 a2 a3 a4 d0 d1 d2 f0 f1 f2
          go_wp2
          go_roundw
          case rel => exact ⟨k + 1, serR s.data.toList q, L ++ [serL s.data.toList q], by go_num, by omega, ho4, HL2, HO2, HR0, HR1, HR2, HR3, Lib.hid (ser_in hq.out)⟩
          case measure => simp [intOf]; omega
      · have hd : (q.e == 0) = false := by simpa using hq0
        have hd2 : (q.e != 0) = true := by simpa using hq0
        have HR : Hid (sersR s.data.toList r m = q ∧ sersL s.data.toList r m = []) := Lib.hid (by
          have h1 : sersR s.data.toList r m = q := by unfold sersR; rw [HA.out, HO.out, sers_stop hq0]
          exact ⟨h1, by unfold sersL; rw [h1, if_neg hq0]⟩)
        obtain ⟨g0, g1, g2, h0, h1, h2⟩ := three_cells HQ1.out
        clear hq0
        go_wp2
        refine bodyPost_ret (results_row_slot rfl _ _ (w.heap.size + 1) _ rfl (rdr_load (three_stored HQ1.out _ _ _))) rfl ?_
        exact ⟨none, 0, by rw [HR.out.1, HR.out.2]; rfl, by rw [HR.out.2]; exact Or.inl rfl, three_below hb.out (by omega) _ _ _⟩
    · obtain rfl : k = n := by omega
      have i1 : ¬ ((k : Int) < (k : Int)) := by omega
      obtain ⟨g0, g1, g2, h0, h1, h2⟩ := three_cells HQ1.out
      have hR : sersR s.data.toList r m = q := by unfold sersR; rw [HA.out, HO.out, Nat.sub_self]; rfl
      have hA2 : (sersAll s.data.toList r m).2 = L := by rw [HA.out, HO.out, Nat.sub_self]; rfl
      by_cases hq0 : q.e = 0
      · have hd : (q.e == 0) = true := by rw [hq0]; rfl
        have hd2 : (q.e != 0) = false := by rw [hq0]; rfl
        have hL2 : sersL s.data.toList r m = L := by unfold sersL; rw [hR, if_pos hq0, hA2]
        have HR := Lib.hid hR
        have HL2 := Lib.hid hL2
        rw [show k = (L.map bt).length by rw [List.length_map, HL.out]] at ho
        obtain ⟨a, c, hv, hI⟩ := texts_own_new ho
        have HI := Lib.hid hI
        subst hv
        rw [List.length_map]
        clear hq0 hR hA2 hL2 hI ho
        go_wp2
        refine bodyPost_ret (results_row_slot rfl _ _ (w.heap.size + 1) _ rfl (rdr_load (three_stored HQ1.out _ _ _))) rfl ?_
        refine ⟨a, ⟨c, by rw [HR.out, HL2.out]; rfl⟩, ?_, three_below hb.out (by omega) _ _ _⟩
        rw [HL2.out]
        exact (((HI.out.set (show w.heap.size + 1 < w.heap.size + 2 by omega) _).set (show w.heap.size + 1 < w.heap.size + 2 by omega) _).set (show w.heap.size + 1 < w.heap.size + 2 by omega) _).wide (by omega) (Nat.le_refl _)
      · have hd : (q.e == 0) = false := by simpa using hq0
        have hd2 : (q.e != 0) = true := by simpa using hq0
        have HR : Hid (sersR s.data.toList r m = q ∧ sersL s.data.toList r m = []) := Lib.hid ⟨hR, by unfold sersL; rw [hR, if_neg hq0]⟩
        clear hq0 hR hA2
        go_wp2
        refine bodyPost_ret (results_row_slot rfl _ _ (w.heap.size + 1) _ rfl (rdr_load (three_stored HQ1.out _ _ _))) rfl ?_
        exact ⟨none, ⟨0, by rw [HR.out.1, HR.out.2]; rfl⟩, by rw [HR.out.2]; exact Or.inl rfl, three_below hb.out (by omega) _ _ _⟩
end Go.Proofs.Ytkflpkcggjpbfaa
