/- What the walks want of the program's batch; and that the document's answers are the same in plain words. -/
import Derived.Test.YteccahggahpeeaaDocG15
import Derived.Test.YteccahggahpeeaaDocH15
import Derived.Test.YteccahggahpeeaaDocI15
import Derived.Test.YteccahggahpeeaaDocJ15
import Derived.Test.YteccahggahpeeaaMDocA15
import Derived.Test.YteccahggahpeeaaMElt15
import Derived.Test.YteccahggahpeeaaOf15
namespace Go.Proofs.Yteccahggahpeeaa
open Go.RowKit

def bE (S : St15) (l : List Op15) : Int := if checkS S = 0 then appE S l else 40
def bN (S : St15) (l : List Op15) : Nat := if checkS S = 0 then appN S l else 0
def bV (S : St15) (l : List Op15) : St15 := if bE S l = 0 then appV S l else []
def bU (S : St15) (l : List Op15) : List Op15 := if bE S l = 0 then undoL S l else []
theorem fine_check {S : St15} : fineC S.length (cellsF 0 S) ↔ checkS S = 0 := by rw [checkS_ok, fine_cells]
theorem bE_ok {S : St15} {l : List Op15} (h : bE S l = 0) : OkS S ∧ appE S l = 0 := by
  unfold bE at h
  by_cases q : checkS S = 0
  · rw [if_pos q] at h; exact ⟨checkS_ok.1 q, h⟩
  · rw [if_neg q] at h; omega
theorem ok_bE {S : St15} {l : List Op15} (hs : OkS S) (h : appE S l = 0) : bE S l = 0 ∧ bV S l = appV S l ∧ bN S l = l.length ∧ bU S l = undoL S l := by
  have q := checkS_ok.2 hs
  have e : bE S l = 0 := by unfold bE; rw [if_pos q]; exact h
  refine ⟨e, by unfold bV; rw [if_pos e], by unfold bN; rw [if_pos q]; exact (app_ok hs h).2, by unfold bU; rw [if_pos e]⟩
theorem ap_e (S : St15) (l : List Op15) : apE S.length (cellsF 0 S) l = bE S l := by
  unfold apE bE
  by_cases h : checkS S = 0
  · rw [if_pos h, if_pos (fine_check.2 h)]; exact (app_cells (checkS_ok.1 h) l).1
  · rw [if_neg h, if_neg fun q => h (fine_check.1 q)]
theorem ap_n (S : St15) (l : List Op15) : apN S.length (cellsF 0 S) l = bN S l := by
  unfold apN bN
  by_cases h : checkS S = 0
  · rw [if_pos h, if_pos (fine_check.2 h)]; exact (app_cells (checkS_ok.1 h) l).2.1
  · rw [if_neg h, if_neg fun q => h (fine_check.1 q)]
theorem ap_v (S : St15) (l : List Op15) : apV S.length (cellsF 0 S) l = cellsF 0 (bV S l) ∧ apT S.length (cellsF 0 S) l = (bV S l).length := by
  unfold apV apT bV
  rw [ap_e]
  by_cases h : bE S l = 0
  · obtain ⟨h1, h2⟩ := bE_ok h
    rw [if_pos h, if_pos h, if_pos h]
    obtain ⟨h3, h4⟩ := (app_cells h1 l).2.2 h2
    exact ⟨h3, h4.symm⟩
  · rw [if_neg h, if_neg h, if_neg h]; exact ⟨rfl, rfl⟩
theorem un_e (S : St15) (l : List Op15) : unE S.length (cellsF 0 S) l = bE S l := ap_e S l
theorem un_v (S : St15) (l : List Op15) : unV S.length (cellsF 0 S) l = bU S l := by
  unfold unV bU
  rw [ap_e]
  by_cases h : bE S l = 0
  · obtain ⟨h1, h2⟩ := bE_ok h
    rw [if_pos h, if_pos h, undo_cells h1 h2, List.append_nil]
  · rw [if_neg h, if_neg h]
theorem df_e (A B : St15) : dfE A.length B.length (cellsF 0 A) (cellsF 0 B) = diffE A B := rfl
theorem diffE_ok {A B : St15} (h : diffE A B = 0) : OkS A ∧ OkS B ∧ A.length = B.length := by
  unfold diffE at h
  by_cases q : checkS A ≠ 0 ∨ checkS B ≠ 0
  · rw [if_pos q] at h; omega
  · rw [if_neg q] at h
    by_cases q2 : A.length ≠ B.length
    · rw [if_pos q2] at h; omega
    · exact ⟨checkS_ok.1 (by omega), checkS_ok.1 (by omega), by omega⟩
theorem df_v (A B : St15) : dfV A.length B.length (cellsF 0 A) (cellsF 0 B) = diffV A B := by
  unfold dfV diffV
  rw [df_e]
  by_cases h : diffE A B = 0
  · rw [if_pos h, if_pos h, diff_cells (diffE_ok h).2.2]
  · rw [if_neg h, if_neg h]
/-- Bounds within which a store is asked. -/
def Small15 (S : St15) : Prop := S.length ≤ 100 ∧ ∀ T ∈ S, T.length ≤ 100
theorem Small15.tab {S : St15} (h : Small15 S) {i : Nat} (hi : i < S.length) : (tab S (i : Int)).length ≤ 100 := by
  rw [tab_at hi]; exact h.2 _ (List.getElem_mem hi)
theorem cells_bound : ∀ {S : St15} (t : Nat), (∀ T ∈ S, T.length ≤ 100) → (cellsF t S).length ≤ S.length * 100
  | [], _, _ => Nat.le_refl _
  | T :: S, t, h => by
    have h1 := h T (List.mem_cons_self ..)
    have h2 := cells_bound (S := S) (t + 1) fun U hU => h U (List.mem_cons_of_mem _ hU)
    show (rowC _ T ++ cellsF (t + 1) S).length ≤ _
    unfold rowC
    rw [List.length_append, List.length_map, List.length_cons, Nat.succ_mul]; omega
theorem Small15.cells {S : St15} (h : Small15 S) : (cellsF 0 S).length ≤ 10000 := by
  have := cells_bound 0 h.2
  have := h.1
  omega
theorem few_small15 {S : St15} (h : fewS S = true) : Small15 S := by
  have h := of_decide_eq_true h
  refine ⟨by omega, fun T hT => ?_⟩
  obtain ⟨i, hi, rfl⟩ := List.mem_iff_getElem.1 hT
  have := of_decide_eq_true (h.2 i hi)
  rw [tab_at hi] at this
  omega
theorem ok_small15 {S : St15} (h : OkS S) : Small15 S :=
  ⟨by have := h.len; omega, fun T hT => by have := (h.tab T hT).len; omega⟩
theorem nil_small : Small15 [] := ⟨by simp, fun T hT => by cases hT⟩
theorem bV_small (S : St15) (l : List Op15) : Small15 (bV S l) := by
  unfold bV
  by_cases h : bE S l = 0
  · obtain ⟨h1, h2⟩ := bE_ok h
    rw [if_pos h]; exact ok_small15 (app_ok h1 h2).1
  · rw [if_neg h]; exact nil_small
theorem take_small15 (L : List UInt8) : Small15 (takeSV L) := by
  by_cases h : takeSE L = 0
  · exact ok_small15 (put_take h).1
  · unfold takeSV; rw [if_neg h]; exact nil_small
theorem undo_len (S : St15) (l : List Op15) : (undoL S l).length = l.length := by
  induction l generalizing S with
  | nil => rfl
  | cons o l ih => show (undoL (doesS S o) l ++ [backO S o]).length = _; rw [List.length_append, ih]; rfl
theorem bU_len (S : St15) (l : List Op15) : (bU S l).length ≤ l.length := by
  unfold bU
  by_cases h : bE S l = 0
  · rw [if_pos h, undo_len]; exact Nat.le_refl _
  · rw [if_neg h]; simp
theorem oneT_len (t : Int) (A : Tb15) (r : Rec15) : (oneT t A r).length ≤ 1 := by
  unfold oneT
  by_cases h : hasT A r.1 = false
  · rw [if_pos h]; simp
  · rw [if_neg h]
    by_cases h2 : textT A r.1 = r.2
    · rw [if_pos h2]; simp
    · rw [if_neg h2]; simp
theorem newT_len (t : Int) (A B : Tb15) : (newT t A B).length ≤ B.length := by
  unfold newT
  induction B with
  | nil => simp
  | cons r B ih =>
    have := oneT_len t A r
    rw [List.flatMap_cons, List.length_append, List.length_cons]; omega
theorem diffT_len (t : Int) (A B : Tb15) : (diffT t A B).length ≤ A.length + B.length := by
  unfold diffT goneT
  have h1 := newT_len t A B
  have h2 := List.length_filter_le (fun r => !(hasT B r.1)) A
  rw [List.length_append, List.length_map]; omega
theorem diffS_len : ∀ {A B : St15} (t : Nat), (∀ T ∈ A, OkT T) → (∀ T ∈ B, OkT T) → (diffS t A B).length ≤ A.length * 120
  | [], _, _, _, _ => by simp [diffS]
  | _ :: _, [], _, _, _ => by simp [diffS]
  | T :: A, U :: B, t, hA, hB => by
    have h1 := (hA T (List.mem_cons_self ..)).len
    have h2 := (hB U (List.mem_cons_self ..)).len
    have h3 := diffT_len (t : Int) T U
    have h4 := diffS_len (A := A) (B := B) (t + 1) (fun V hV => hA V (List.mem_cons_of_mem _ hV)) (fun V hV => hB V (List.mem_cons_of_mem _ hV))
    show (diffT _ T U ++ diffS (t + 1) A B).length ≤ _
    rw [List.length_append, List.length_cons, Nat.succ_mul]; omega
theorem diffV_len (A B : St15) : (diffV A B).length ≤ 960 := by
  unfold diffV
  by_cases h : diffE A B = 0
  · rw [if_pos h]
    obtain ⟨h1, h2, _⟩ := diffE_ok h
    have := diffS_len 0 h1.tab h2.tab
    have := h1.len
    omega
  · rw [if_neg h]; simp
theorem putL_len (n x : Int) : (putL n x).length ≤ x.toNat := by
  unfold putL
  split <;> simp [be_len] <;> omega
theorem recL_len {r : Rec15} (h : r.2.length ≤ 200) : (recL r).length ≤ 206 := by
  have h1 := putL_len r.1 4
  have h2 : (layL r.2).length ≤ 2 + r.2.length := by
    unfold layL
    split <;> simp [be_len] <;> omega
  unfold recL
  rw [List.length_append]
  have : (4 : Int).toNat = 4 := rfl
  omega
theorem recs_len : ∀ {T : Tb15}, (∀ r ∈ T, r.2.length ≤ 200) → (T.flatMap recL).length ≤ T.length * 206
  | [], _ => by simp
  | r :: T, h => by
    have h1 := recL_len (h r (List.mem_cons_self ..))
    have h2 := recs_len (T := T) fun q hq => h q (List.mem_cons_of_mem _ hq)
    rw [List.flatMap_cons, List.length_append, List.length_cons, Nat.succ_mul]; omega
theorem tabs_len : ∀ {S : St15}, (∀ T ∈ S, OkT T) → (S.flatMap tabL).length ≤ S.length * 12361
  | [], _ => by simp
  | T :: S, h => by
    have h0 := h T (List.mem_cons_self ..)
    have h1 := recs_len h0.txt
    have h2 := tabs_len (S := S) fun q hq => h q (List.mem_cons_of_mem _ hq)
    have h3 := putL_len T.length 1
    have h4 := h0.len
    have : (1 : Int).toNat = 1 := rfl
    have h5 : (tabL T).length = (putL T.length 1).length + (T.flatMap recL).length := by unfold tabL; rw [List.length_append]
    rw [List.flatMap_cons, List.length_append, List.length_cons, Nat.succ_mul]; omega
theorem putS_len (S : St15) : (putS S).length ≤ 1000000 := by
  unfold putS
  by_cases h : checkS S = 0
  · rw [if_pos h]
    have h0 := checkS_ok.1 h
    have h1 := tabs_len h0.tab
    have h2 := h0.len
    have h3 := putL_len S.length 1
    have : (1 : Int).toNat = 1 := rfl
    unfold storeL
    rw [List.length_append]; omega
  · rw [if_neg h]; simp
/-- What a call that tells a store returns. -/
def StV (w : World) (a : Option Addr) (c : Nat) (S : St15) : Prop := TabsV 0 w.heap.size w a S ∧ S.length ≤ c ∧ Small15 S
theorem StV.step {w V : World} {a : Option Addr} {c : Nat} {S : St15} (h : StV w a c S) (hb : Below w.heap.size w V) : StV V a c S := ⟨h.1.step hb, h.2⟩
def OpsV (w : World) (a : Option Addr) (c : Nat) (l : List Op15) : Prop := Els opE 0 w.heap.size w a l ∧ l.length ≤ c ∧ l.length ≤ 1000
theorem OpsV.step {w V : World} {a : Option Addr} {c : Nat} {l : List Op15} (h : OpsV w a c l) (hb : Below w.heap.size w V) : OpsV V a c l := ⟨h.1.step hb, h.2⟩
structure Batch15 : Prop where
  check : ∀ a c S w, StV w a c S → Calls Try.prog 19 #[stVal a c S] w fun e w' => e = .returned (.int .i64 (checkS S)) ∧ Below w.heap.size w w'
  get : ∀ a c S t id w, StV w a c S → Calls Try.prog 17 #[stVal a c S, .int .i64 t, .int .i64 id] w fun e w' => e = .returned (.tuple #[.string (tx (getV15 S t id)), .bool (getB15 S t id)]) ∧ Below w.heap.size w w'
  apply : ∀ a c S la lc l w, StV w a c S → OpsV w la lc l → Calls Try.prog 12 #[stVal a c S, .slice la l.length lc] w fun e w' => ∃ a' c', e = .returned (.tuple #[stVal a' c' (bV S l), .int .i64 (bN S l), .int .i64 (bE S l)]) ∧ StV w' a' c' (bV S l) ∧ TabsV w.heap.size w'.heap.size w' a' (bV S l) ∧ Below w.heap.size w w'
  undo : ∀ a c S la lc l w, StV w a c S → OpsV w la lc l → Calls Try.prog 15 #[stVal a c S, .slice la l.length lc] w fun e w' => ∃ a' c', e = .returned (.tuple #[.slice a' (bU S l).length c', .int .i64 (bE S l)]) ∧ OpsV w' a' c' (bU S l) ∧ Below w.heap.size w w'
  put : ∀ a c S w, StV w a c S → Calls Try.prog 23 #[stVal a c S] w fun e w' => e = .returned (.tuple #[.string (tx (putS S)), .int .i64 (checkS S)]) ∧ Below w.heap.size w w'
  take : ∀ (s : ByteArray) w, s.size ≤ 281474976710656 → Calls Try.prog 25 #[.string s] w fun e w' => ∃ a' c', e = .returned (.tuple #[stVal a' c' (takeSV s.data.toList), .int .i64 (takeSE s.data.toList)]) ∧ StV w' a' c' (takeSV s.data.toList) ∧ Below w.heap.size w w'
  diff : ∀ a c A b d B w, StV w a c A → StV w b d B → Calls Try.prog 27 #[stVal a c A, stVal b d B] w fun e w' => ∃ a' c', e = .returned (.tuple #[.slice a' (diffV A B).length c', .int .i64 (diffE A B)]) ∧ OpsV w' a' c' (diffV A B) ∧ Below w.heap.size w w'
def Wakes15 : Prop := ∀ w, Calls Try.prog 10 #[] w fun e w' => e = .returned (.bool true) ∧ Below w.heap.size w w'
/-- The law's own functions, over stores and changes as they are told. -/
def DocV (w : World) (a : Option Addr) (c : Nat) (S : St15) : Prop := Els clE 0 w.heap.size w a (cellsF 0 S) ∧ (cellsF 0 S).length ≤ c ∧ Small15 S
theorem DocV.step {w V : World} {a : Option Addr} {c : Nat} {S : St15} (h : DocV w a c S) (hb : Below w.heap.size w V) : DocV V a c S := ⟨h.1.step hb, h.2⟩
abbrev dVal (a : Option Addr) (c : Nat) (S : St15) : Value := docVal S.length a c (cellsF 0 S)
theorem lof15 (a : Option Addr) (c : Nat) (S : St15) (w : World) (h : StV w a c S) : Calls Try.prog 11 #[stVal a c S] w fun e w' => ∃ a' c', e = .returned (dVal a' c' S) ∧ DocV w' a' c' S ∧ Below w.heap.size w w' := by
  have hc := h.2.2.cells
  refine (of15_any a c S w h.1 (by omega) (by have := h.2.2.1; omega) (fun i hi => by have := h.2.2.tab hi; omega)).mono ?_
  rintro e w' ⟨a', c', rfl, h1, h2, h3⟩
  exact ⟨a', c', rfl, ⟨h2, h1, h.2.2⟩, h3⟩
theorem lops15 (a : Option Addr) (c : Nat) (l : List Op15) (w : World) (h : OpsV w a c l) : Calls Try.prog 14 #[.slice a l.length c] w fun e w' => ∃ a' c', e = .returned (.slice a' l.length c') ∧ OpsV w' a' c' l ∧ Below w.heap.size w w' := by
  refine (ops15_any a c l w h.1 (by have := h.2.2; omega)).mono ?_
  rintro e w' ⟨a', c', rfl, h1, h2, h3⟩
  exact ⟨a', c', rfl, ⟨h2.wide (Nat.zero_le _) (Nat.le_refl _), h1, h.2.2⟩, h3⟩
theorem lfew15 (a : Option Addr) (c : Nat) (S : St15) (w : World) (h : TabsV 0 w.heap.size w a S) : Calls Try.prog 8 #[stVal a c S] w fun e w' => e = .returned (.bool (fewS S)) ∧ Below w.heap.size w w' := few15_any a c S w h
set_option maxHeartbeats 2000000 in
theorem lsame15 (a : Option Addr) (c : Nat) (b : Option Addr) (d : Nat) (S : St15) (w : World) (h : StV w a c S) (hd : DocV w b d S) : Calls Try.prog 21 #[stVal a c S, dVal b d S] w fun e w' => e = .returned (.bool true) ∧ Below w.heap.size w w' := by
  have hb1 := (Below.refl _ w).alloc (Nat.le_refl _) (.cells #[.slice a S.length c] 24)
  have hb := hb1.alloc (by simp) (.cells #[.int .i64 S.length, .slice b (cellsF 0 S).length d] 32)
  have HOB := Lib.hid (And.intro (heap_alloc2_old w (.cells #[.slice a S.length c] 24) (.cells #[.int .i64 S.length, .slice b (cellsF 0 S).length d] 32)) (heap_alloc2_new w (.cells #[.slice a S.length c] 24) (.cells #[.int .i64 S.length, .slice b (cellsF 0 S).length d] 32)))
  have HB := Lib.hid hb
  have HD := Lib.hid (hd.step hb)
  have HT := Lib.hid (h.step hb)
  have HS : Hid (∀ (V : World) (a' : Option Addr) (c' : Nat), DocV V a' c' S → DocV V b d S → Calls Try.prog 40 #[dVal a' c' S, dVal b d S] V fun e w' => e = .returned (.bool true) ∧ Below V.heap.size V w') := Lib.hid fun V a' c' h1 h2 => rsame15_true S.length a' b c' d (cellsF 0 S) 0 0 V h1.1 h2.1 (by have := h1.2.2.cells; omega)
  clear h hd hb1 hb
  go_enter Try.func21, Try.ntmps21
  go_upto_region 1 with fail
  generalize (w.alloc (.cells #[.slice a S.length c] 24)).alloc (.cells #[.int .i64 S.length, .slice b (cellsF 0 S).length d] 32) = V at *
  have c0 := cell_of HOB.out.1 (j := 0) rfl
  have c1 := cell_of HOB.out.2 (j := 0) rfl
  have c2 := cell_of HOB.out.2 (j := 1) rfl
  have hof := Lib.hid (lof15 a c S V.drew (HT.out.step (Below.refl _ V).drew))
  go_region_held3 (fun v => v.cell? ⟨w.heap.size, 0, none⟩ = some (.slice a S.length c) ∧ v.cell? ⟨w.heap.size + 1, 0, none⟩ = some (.int .i64 S.length) ∧ v.cell? ⟨w.heap.size + 1, 1, none⟩ = some (.slice b (cellsF 0 S).length d)) (first | go_keep) (first
    | (go_at_call 11; refine hof.out.mono ?_; rintro e w1 ⟨a', c', rfl, h1, hb1⟩; have H1 := Lib.hid h1; have hb2 := (Below.refl V.heap.size V).drew.trans hb1; have HD1 := Lib.hid (HD.out.step hb2); have HB1 := Lib.hid (HB.out.trans (hb2.mono HB.out.size)); have HO1 := Lib.hid (And.intro (old_obj hb2 HOB.out.1) (old_obj hb2 HOB.out.2)); have u0 := cell_of HO1.out.1 (j := 0) rfl; have u1 := cell_of HO1.out.2 (j := 0) rfl; have u2 := cell_of HO1.out.2 (j := 1) rfl; clear h1 hb1 hb2)
    | (go_at_call 40; refine (HS.out _ _ _ H1.out HD1.out).mono ?_; rintro e w2 ⟨rfl, hb2⟩; have HB2 := Lib.hid (HB1.out.trans (hb2.mono HB1.out.size)); have u3 := cell_of (old_obj hb2 HO1.out.1) (j := 0) rfl; have u4 := cell_of (old_obj hb2 HO1.out.2) (j := 0) rfl; have u5 := cell_of (old_obj hb2 HO1.out.2) (j := 1) rfl; clear hb2))
  all_goals
    go_wp2
    go_ret
    exact ⟨rfl, HB2.out⟩
/-! The document's functions, over stores as they are told. -/
theorem dcheck15 (a : Option Addr) (c : Nat) (S : St15) (w : World) (h : DocV w a c S) : Calls Try.prog 20 #[dVal a c S] w fun e w' => e = .returned (.int .i64 (checkS S)) ∧ Below w.heap.size w w' :=
  rcheck15_any S.length a c (cellsF 0 S) w h.1 (by have := h.2.2.1; omega) (by have := h.2.2.cells; omega)
theorem dget15 (a : Option Addr) (c : Nat) (S : St15) (t id : Int) (w : World) (h : DocV w a c S) : Calls Try.prog 18 #[dVal a c S, .int .i64 t, .int .i64 id] w fun e w' => e = .returned (.tuple #[.string (tx (getV15 S t id)), .bool (getB15 S t id)]) ∧ Below w.heap.size w w' := by
  have := rget15_any S.length a c (cellsF 0 S) t id w h.1 (by have := h.2.2.1; omega) (by have := h.2.2.cells; omega)
  rw [(get_cells S t id).1, (get_cells S t id).2] at this
  exact this
theorem dapply15 (a : Option Addr) (c : Nat) (S : St15) (la : Option Addr) (lc : Nat) (l : List Op15) (w : World) (h : DocV w a c S) (hl : OpsV w la lc l) : Calls Try.prog 13 #[dVal a c S, .slice la l.length lc] w fun e w' => ∃ a' c', e = .returned (.tuple #[dVal a' c' (bV S l), .int .i64 (bN S l), .int .i64 (bE S l)]) ∧ DocV w' a' c' (bV S l) ∧ Below w.heap.size w w' := by
  have := rapply15_any S.length a c (cellsF 0 S) la lc l w h.1 h.2.1 hl.1 (by have := h.2.2.1; omega) (by have := h.2.2.cells; omega) hl.2.2
  rw [ap_e, ap_n, (ap_v S l).1, (ap_v S l).2] at this
  refine this.mono ?_
  rintro e w' ⟨a', c', rfl, h1, h2, h3⟩
  exact ⟨a', c', rfl, ⟨h2, h1, bV_small S l⟩, h3⟩
theorem dundo15 (a : Option Addr) (c : Nat) (S : St15) (la : Option Addr) (lc : Nat) (l : List Op15) (w : World) (h : DocV w a c S) (hl : OpsV w la lc l) : Calls Try.prog 16 #[dVal a c S, .slice la l.length lc] w fun e w' => ∃ a' c', e = .returned (.tuple #[.slice a' (bU S l).length c', .int .i64 (bE S l)]) ∧ Els opE 0 w'.heap.size w' a' (bU S l) ∧ Below w.heap.size w w' := by
  have := rundo15_any S.length a c (cellsF 0 S) la lc l w h.1 h.2.1 hl.1 (by have := h.2.2.1; omega) (by have := h.2.2.cells; omega) hl.2.2
  rw [un_e, un_v] at this
  exact this
theorem ddiff15 (a : Option Addr) (c : Nat) (A : St15) (b : Option Addr) (d : Nat) (B : St15) (w : World) (h : DocV w a c A) (hb : DocV w b d B) : Calls Try.prog 28 #[dVal a c A, dVal b d B] w fun e w' => ∃ a' c', e = .returned (.tuple #[.slice a' (diffV A B).length c', .int .i64 (diffE A B)]) ∧ Els opE 0 w'.heap.size w' a' (diffV A B) ∧ Below w.heap.size w w' := by
  have := rdiff15_any A.length a c (cellsF 0 A) B.length b d (cellsF 0 B) w h.1 hb.1 (by have := h.2.2.1; omega) (by have := hb.2.2.1; omega) (by have := h.2.2.cells; omega) (by have := hb.2.2.cells; omega)
  rw [df_e, df_v] at this
  exact this
theorem dput15 (a : Option Addr) (c : Nat) (S : St15) (w : World) (h : DocV w a c S) : Calls Try.prog 24 #[dVal a c S] w fun e w' => e = .returned (.tuple #[.string (tx (putS S)), .int .i64 (checkS S)]) ∧ Below w.heap.size w w' :=
  rput15_any S a c w h.1 (by have := h.2.2.1; omega) (by have := h.2.2.cells; omega)
theorem dtake15 (s : ByteArray) (hs : s.size ≤ 4611686018427387904) (w : World) : Calls Try.prog 26 #[.string s] w fun e w' => ∃ a' c', e = .returned (.tuple #[dVal a' c' (takeSV s.data.toList), .int .i64 (takeSE s.data.toList)]) ∧ DocV w' a' c' (takeSV s.data.toList) ∧ Below w.heap.size w w' := by
  refine (rtake15_any s hs w).mono ?_
  rintro e w' ⟨a', c', rfl, h1, h2, h3⟩
  exact ⟨a', c', rfl, ⟨h2, h1, take_small15 _⟩, h3⟩
theorem dsameops15 (a b : Option Addr) (c d : Nat) (l : List Op15) (w : World) (h : OpsV w a c l) (hb : Els opE 0 w.heap.size w b l) : Calls Try.prog 22 #[.slice a l.length c, .slice b l.length d] w fun e w' => e = .returned (.bool true) ∧ Below w.heap.size w w' :=
  rsameops_true a b c d l 0 0 w h.1 hb (by have := h.2.2; omega)
end Go.Proofs.Yteccahggahpeeaa
