/- rows' generic functions and slices' at rows of a table (elements of two cells): for every list, in every world. -/
import Derived.Test.YteccahggahpeeaaMIds13
import Derived.Test.YteccahggahpeeaaWhole15
import Derived.Deep.RegionHeld3
import Derived.Lib.AppendZeros
namespace Go.Proofs.Yteccahggahpeeaa
open Go.RowKit

theorem infoRec : (Try.prog.info? 67).map (fun i => (i.zero, i.size, i.bytes)) = some (some (.agg #[.int .i64 0, .string ⟨#[]⟩]), 2, 24) := by kernel_rfl
theorem sl_rec : Try.prog.underlying 65 = some (.slice (Try.prog.elem 65)) := by kernel_rfl
theorem sz_rec (w : World) : (Go.sizeOf (Try.prog.elem 65)).run Try.prog w = .ok 2 w := by
  have h : Try.prog.elem 65 = 67 := by kernel_rfl
  rw [h]
  have hi := infoRec
  cases hq : Try.prog.info? 67 with
  | none => rw [hq] at hi; cases hi
  | some i =>
    rw [hq] at hi
    simp only [Option.map_some, Option.some.injEq, Prod.mk.injEq] at hi
    simp [Go.sizeOf, typeInfo, hq, hi.2.1]
theorem rowk_full {t : TypeId} {k : Nat} (ht : Try.prog.underlying t = some (.slice (Try.prog.elem t))) (hs : ∀ w, (Go.sizeOf (Try.prog.elem t)).run Try.prog w = .ok k w) (a : Option Addr) (n cap p : Nat) (hp : p ≤ n) (hn : n ≤ cap) (w : World) :
    (Instr.slice t (.slice a n cap) none (some (.int .i64 (p : Int))) (some (.int .i64 (p : Int)))).run Try.prog w = .ok (.slice a p p) w := by
  rw [run_slice_hm w t a n cap ht .i64 .i64 (p : Int) (p : Int) (by omega) (by omega) (by omega), hs]
  cases a <;> simp [Result.andThen, sliced, Addr.add]
theorem Elt.cells_take {α : Type} (E : Elt α) (l : List α) (p : Nat) : (E.cells l).take (p * E.k) = E.cells (l.take p) := by
  rcases Nat.le_total p l.length with h | h
  · conv => lhs; rw [← List.take_append_drop p l, E.cells_append]
    exact List.take_left' (by rw [E.cells_len, List.length_take, Nat.min_eq_left h])
  · rw [List.take_of_length_le h, List.take_of_length_le (by rw [E.cells_len]; exact Nat.mul_le_mul_right _ h)]
theorem Elt.cells_drop {α : Type} (E : Elt α) (l : List α) (p : Nat) : (E.cells l).drop (p * E.k) = E.cells (l.drop p) := by
  rcases Nat.le_total p l.length with h | h
  · conv => lhs; rw [← List.take_append_drop p l, E.cells_append]
    exact List.drop_left' (by rw [E.cells_len, List.length_take, Nat.min_eq_left h])
  · rw [List.drop_of_length_le h, List.drop_of_length_le (by rw [E.cells_len]; exact Nat.mul_le_mul_right _ h)]; rfl
theorem Els.take {α : Type} {E : Elt α} {A B : Nat} {w : World} {a : Option Addr} {l : List α} (h : Els E A B w a l) (p : Nat) : Els E A B w a (l.take p) := by
  unfold Els; rw [← E.cells_take]; exact Rw.take h _
/-- Onto a slice that is full: the row is a new one. -/
theorem step_append_fullk {α : Type} (E : Elt α) {ops : Array Oper} {o : Oper} {a : Act} {K : Act → World → Prop} {Q : Exit → Act → World → Prop} {V : World} {X : Prop} {t e : TypeId} {z : Value} {bytes : Nat}
    (ht : Try.prog.underlying t = some (.slice e)) (hinfo : (Try.prog.info? e).map (fun i => (i.zero, i.size, i.bytes)) = some (some z, E.k, bytes)) (hzc : z.cells.size = E.k) (hb : bytes ≤ 1000000) (hgd : o.guard = none) (s x : Operand)
    (ho : o.op = .call { callee := .builtin .append, args := #[s, x], argTypes := #[t, t] })
    (A B n : Nat) (ao : Option Addr) (l : List α) (hln : l.length = n) (hs : a.eval s = .slice ao n n) (hown : Els E A B V ao l) (hB : B ≤ V.heap.size) (p : α) {arr : Array Value} (harr : arr.toList = E.enc p)
    (g : Nat) (hx : a.eval x = .slice (some ⟨g, 0, none⟩) 1 1) (hg : g = V.heap.size) (hk : n ≤ 900000)
    (h : ∀ v' w', w'.ownsRow V.heap.size e E.k v' (n + 1) (E.cells (l ++ [p])) → Below V.heap.size V w' → K (a.put o.dst v') w') :
    if Region.wanted o (yielded ops a.tmps) = true then Oper.wp Try.prog o a (V.alloc (.cells arr e)) K Q else X := by
  have hw : Region.wanted o (yielded ops a.tmps) = true := by simp [Region.wanted, hgd]
  rw [if_pos hw]
  subst hg
  obtain ⟨i0, hi, hz0, hz1, hz2⟩ := info_parts hinfo
  have hb2 : (n + 1) * bytes ≤ 140737488355328 := Nat.le_trans (Nat.mul_le_mul (show n + 1 ≤ 1000000 by omega) hb) (by decide)
  have hbv : Below V.heap.size V (V.alloc (.cells arr e)) := (Below.refl _ V).alloc (Nat.le_refl _) _
  have fin : ∀ v' w', (Builtin.append_ #[t, t] o.type #[.slice ao n n, .slice (some ⟨V.heap.size, 0, none⟩) 1 1]).run Try.prog (V.alloc (.cells arr e)) = .ok v' w' → w'.ownsRow (V.alloc (.cells arr e)).heap.size e E.k v' (n + 1) (E.cells l ++ E.cells [p]) → (V.alloc (.cells arr e)).grownBy w' none → o.wp Try.prog a (V.alloc (.cells arr e)) K Q := by
    intro v' w' hr q1 q2
    unfold Oper.wp execOp
    simp only [ho, resolve, invoke, builtin, Sem.run_bind, Sem.run_pure, Result.andThen_ok, List.map_toArray, List.map_cons, List.map_nil, hs, hx, hr]
    rw [← E.cells_append] at q1
    exact h v' w' (ownk_base q1 (by simp)) (hbv.grown q2 (by simp) fun k hk => by cases hk)
  have hnew : ∀ j y, (E.cells [p])[j]? = some y → (V.alloc (.cells arr e)).cell? ((⟨V.heap.size, 0, none⟩ : Addr).add j) = some y := by
    intro j y hj
    rw [Addr.add_lit]
    refine lit_cell V _ _ j y ?_
    rw [E.cells_one, ← harr] at hj
    rw [← hj, Array.getElem?_toList]
  have hone : ∀ y ∈ E.cells [p], y.oneCell' = true := E.one_cell [p]
  have hlen : (E.cells [p]).length = 1 * E.k := E.cells_len [p]
  rcases Nat.eq_zero_or_pos n with h0 | h0
  · subst h0
    obtain rfl : l = [] := List.length_eq_zero_iff.1 hln
    cases ao with
    | none =>
      obtain ⟨v', w', hr, r1, r2, _⟩ := run_append_own (P := Try.prog) (V.alloc (.cells arr e)) (V.alloc (.cells arr e)).heap.size t o.type e i0 z E.k bytes ht hi hz0 hz1 hz2 hzc E.pos (.slice none 0 0) 0 [] (World.ownsRow_nil _ _ e E.k) ⟨V.heap.size, 0, none⟩ 1 1 (E.cells [p]) hlen hnew hone (by unfold maxLen; omega) hb2 (Nat.le_refl _)
      exact fin v' w' hr r1 r2
    | some b =>
      obtain ⟨v', w', hr, r1, r2⟩ := run_append_arg_grows (P := Try.prog) (V.alloc (.cells arr e)) t o.type e i0 z E.k bytes ht hi hz0 hz1 hz2 hzc E.pos b 0 0 [] (by simp) (fun j y hj => by cases hj) ⟨V.heap.size, 0, none⟩ 1 1 (E.cells [p]) hlen hnew (by omega) (by unfold maxLen; omega) hb2
      exact fin v' w' hr r1 r2
  · rcases Els.below hown ((hbv.mono hB)) with hh | ⟨b, off, rfl, _, _, hc⟩
    · have := E.cells_len l
      rw [hh, hln] at this
      have hp := Nat.mul_pos h0 E.pos
      simp at this
      omega
    · obtain ⟨v', w', hr, r1, r2⟩ := run_append_arg_grows (P := Try.prog) (V.alloc (.cells arr e)) t o.type e i0 z E.k bytes ht hi hz0 hz1 hz2 hzc E.pos ⟨b, off, none⟩ n n (E.cells l) (by rw [E.cells_len, hln]) (fun j y hj => by rw [Addr.add_lit]; exact hc j y hj) ⟨V.heap.size, 0, none⟩ 1 1 (E.cells [p]) hlen hnew (by omega) (by unfold maxLen; omega) hb2
      exact fin v' w' hr r1 r2
abbrev recVal (r : Rec15) : Value := .agg #[.int .i64 r.1, .string (tx r.2)]
set_option maxHeartbeats 2000000 in
theorem pupto_rec (ao : Option Addr) (cap p : Nat) (r : Rec15) (T : Tb15) (A B : Nat) (w : World) (hc : T.length ≤ cap) (hp : p ≤ T.length) (hn : T.length ≤ 100000) (hx : Els recE A B w ao T) (hB : B ≤ w.heap.size) :
    Calls Try.prog 96 #[.slice ao T.length cap, .int .i64 (p : Int), recVal r] w fun e w' => ∃ v, e = .returned v ∧ w'.ownsRow w.heap.size 67 2 v (p + 1) (recE.cells (T.take p ++ [r])) ∧ Below w.heap.size w w' := by
  have hs := fun W => rowk_full sl_rec sz_rec ao T.length cap p hp hc W
  have hb1 := (Below.refl w.heap.size w).alloc (Nat.le_refl _) (.cells #[.int .i64 r.1, .string (tx r.2)] 67)
  have hbd := hb1.drew
  have HX := Lib.hid ((hx.take p).below (hb1.mono hB))
  have HXD := Lib.hid ((hx.take p).below (hbd.mono hB))
  have HB := Lib.hid hb1
  have HBD := Lib.hid hbd
  have HBS := Lib.hid hB
  have HL : Hid ((T.take p).length = p) := Lib.hid (by rw [List.length_take]; omega)
  have HPL : Hid (p ≤ 900000) := Lib.hid (by omega)
  have c0 := lit_cell w #[.int .i64 r.1, .string (tx r.2)] 67 0 _ rfl
  have c1 := lit_cell w #[.int .i64 r.1, .string (tx r.2)] 67 1 _ rfl
  rw [Nat.zero_add] at c0 c1
  have m1 : ¬ (w.heap.size = (w.alloc (.cells #[.int .i64 r.1, .string (tx r.2)] 67)).heap.size) := by simp
  have m2 : ¬ ((w.alloc (.cells #[.int .i64 r.1, .string (tx r.2)] 67)).heap.size = w.heap.size) := by simp
  clear hx hB hc hp hn hb1 hbd
  go_enter Try.func96, Try.ntmps96
  go_upto_region 1 with fail
  have HC0 : Hid (∀ W, Below (w.alloc (.cells #[.int .i64 r.1, .string (tx r.2)] 67)).heap.size (w.alloc (.cells #[.int .i64 r.1, .string (tx r.2)] 67)) W → W.cell? ⟨w.heap.size, 0, none⟩ = some (.int .i64 r.1) ∧ W.cell? ⟨w.heap.size, 1, none⟩ = some (.string (tx r.2))) := Lib.hid fun W hW => ⟨(hW.cell (p := ⟨w.heap.size, 0, none⟩) (by simp)).trans c0, (hW.cell (p := ⟨w.heap.size, 1, none⟩) (by simp)).trans c1⟩
  have HSZ : Hid (w.heap.size ≤ (w.alloc (.cells #[.int .i64 r.1, .string (tx r.2)] 67)).heap.size) := Lib.hid (by simp)
  generalize w.alloc (.cells #[.int .i64 r.1, .string (tx r.2)] 67) = V at *
  obtain ⟨T1, hT1⟩ : ∃ T1, T.take p = T1 := ⟨_, rfl⟩
  rw [hT1] at HX HXD HL
  have HT1 := Lib.hid hT1
  clear hT1
  go_region_held3 (fun v => v.cell? ⟨w.heap.size, 0, none⟩ = some (.int .i64 r.1) ∧ v.cell? ⟨w.heap.size, 1, none⟩ = some (.string (tx r.2))) (first | assumption | go_keep) (first
    | (refine step_append_fullk (V := V.drew) recE Try.underlying65 infoRec rfl (by decide) rfl _ _ rfl A B p ao T1 HL.out rfl HXD.out (Nat.le_trans HBS.out HSZ.out) r rfl _ rfl rfl HPL.out ?_; intro v7 w7 ho7 hb7; have HO := Lib.hid ho7; have hb8 := (Below.refl V.heap.size V).drew.trans hb7; have HB7 := Lib.hid hb8; obtain ⟨u0, u1⟩ := HC0.out _ hb8; clear ho7 hb7 hb8)
    | fail)
  all_goals
    go_wp2
    go_ret
    exact ⟨v7, rfl, by rw [HT1.out]; exact ownk_base HO.out HSZ.out, HB.out.trans (HB7.out.mono HSZ.out)⟩
theorem phas_rec (ao : Option Addr) (n cap : Nat) (p : Int) (w : World) :
    Calls Try.prog 97 #[.slice ao n cap, .int .i64 p] w fun e w' => e = .returned (.bool (decide (0 ≤ p ∧ p < n))) ∧ w = w' := by
  by_cases h0 : 0 ≤ p
  · have d1 : decide (0 ≤ p) = true := decide_eq_true h0
    have HR : Hid (decide (0 ≤ p ∧ p < n) = decide (p < (n : Int))) := Lib.hid (by simp [h0])
    clear h0
    go_enter Try.func97, Try.ntmps97
    go_wp2
    go_ret
    exact ⟨by rw [HR.out]; rfl, rfl⟩
  · have d1 : decide (0 ≤ p) = false := decide_eq_false h0
    have HR : Hid (decide (0 ≤ p ∧ p < n) = false) := Lib.hid (by simp [h0])
    clear h0
    go_enter Try.func97, Try.ntmps97
    go_wp2
    go_ret
    exact ⟨by rw [HR.out]; rfl, rfl⟩
theorem below_rk {w V w' : World} {B k n : Nat} {e : TypeId} {v : Value} {xs : List Value} (hb : Below w.heap.size w V) (ho : V.ownsRow B e k v n xs) (hB : w.heap.size ≤ B) (hg : V.grownBy w' v.ownBlock) : Below w.heap.size w w' :=
  hb.grown hg hb.size fun k hk => Nat.le_trans hB (ho.lt k hk).1
/-- A row of rows: its block says so. -/
def Ty15 (a : Option Addr) (W : World) : Prop := ∀ b off, a = some ⟨b, off, none⟩ → ∃ arr fr, W.heap[b]? = some (.cells arr 67 fr)
theorem Ty15.step {a : Option Addr} {W V : World} (h : Ty15 a W) (hb : Below W.heap.size W V) : Ty15 a V := fun b off e => by
  obtain ⟨arr, fr, h1⟩ := h b off e
  exact ⟨arr, fr, old_obj hb h1⟩
theorem Ty15.set {a : Option Addr} {W : World} (h : Ty15 a W) (g k : Nat) (v : Value) : Ty15 a (W.setCell ⟨g, k, none⟩ v) := fun b off e => by
  obtain ⟨arr, fr, h1⟩ := h b off e
  by_cases q : b = g
  · subst q
    exact ⟨arr.setIfInBounds k v, fr, by simp [World.setCell, h1, Array.getElem?_modify]⟩
  · exact ⟨arr, fr, by rw [heap_set15 _ _ _ _ _ q]; exact h1⟩
theorem Ty15.ne {a : Option Addr} {W : World} (h : Ty15 a W) {b off g : Nat} {arr : Array Value} {t : TypeId} {fr : Nat × Nat} (ha : a = some ⟨b, off, none⟩) (hg : W.heap[g]? = some (.cells arr t fr)) (ht : t ≠ 67) : b ≠ g := fun e => by
  obtain ⟨arr2, fr2, h1⟩ := h b off ha
  subst e
  rw [hg] at h1
  injection h1 with h2
  injection h2 with _ h3 _
  exact ht h3
theorem Ty15.grown {a : Option Addr} {W V : World} {g : Nat} {arr : Array Value} {t : TypeId} {fr : Nat × Nat} (h : Ty15 a W) (hv : W.grownBy V (some g)) (hg : W.heap[g]? = some (.cells arr t fr)) (ht : t ≠ 67) : Ty15 a V := fun b off e => by
  have hne := h.ne e hg ht
  obtain ⟨arr2, fr2, h1⟩ := h b off e
  exact ⟨arr2, fr2, by rw [hv.block b (obj_lt h1) (fun q => by injection q with q; exact hne q)]; exact h1⟩
theorem ty_own {W : World} {B k n n' c : Nat} {a : Option Addr} {cs : List Value} (h : W.ownsRow B 67 k (.slice a n' c) n cs) : Ty15 a W := fun b off e => by
  rcases h.2 with ⟨h1, _⟩ | ⟨g, cap, cur, h1, _, h3, _⟩
  · injection h1 with q
    rw [e] at q; cases q
  · injection h1 with q
    rw [e] at q
    injection q with q
    injection q with q1
    subst q1
    exact ⟨cur, _, h3⟩
/-- What a call that makes a table tells: a list of just these rows, in newer blocks. -/
def TabOut (w : World) (e : Ending) (w' : World) (T : Tb15) : Prop :=
  ∃ a c, e = .returned (.tuple #[.slice a T.length c, .int .i64 0]) ∧ T.length ≤ c ∧ Els recE w.heap.size w'.heap.size w' a T ∧ Below w.heap.size w w' ∧ Ty15 a w'
theorem tab15_out {w w' : World} {v : Value} {n : Nat} {T : Tb15} (ho : w'.ownsRow w.heap.size 67 2 v n (recE.cells T)) (hn : T.length = n) (hb : Below w.heap.size w w') : ∃ a c, v = .slice a T.length c ∧ T.length ≤ c ∧ Els recE w.heap.size w'.heap.size w' a T ∧ Below w.heap.size w w' ∧ Ty15 a w' := by
  obtain ⟨a, c, rfl, h1, _, h2⟩ := rk_own ho
  exact ⟨a, c, by rw [hn], by omega, h2, hb, ty_own ho⟩
set_option maxRecDepth 100000 in
set_option maxHeartbeats 4000000 in
theorem pwith_rec (ao : Option Addr) (cap q : Nat) (r : Rec15) (T : Tb15) (A : Nat) (w : World) (hc : T.length ≤ cap) (hq : q ≤ T.length) (hn : T.length ≤ 100000) (hx : Els recE A w.heap.size w ao T) :
    Calls Try.prog 83 #[.slice ao T.length cap, .int .i64 (q : Int), recVal r] w fun e w' => TabOut w e w' (T.take q ++ [r] ++ T.drop q) := by
  have d1 : decide ((q : Int) < 0) = false := decide_eq_false (by omega)
  have d2 : decide ((T.length : Int) < (q : Int)) = false := decide_eq_false (by omega)
  have d2' : decide (T.length < q) = false := decide_eq_false (by omega)
  obtain ⟨a', hs, ha⟩ := rowk_from sl_rec sz_rec ao T.length cap q hq hc
  have HU : Hid (∀ W, Below w.heap.size w W → Calls Try.prog 96 #[.slice ao T.length cap, .int .i64 (q : Int), recVal r] W fun e w' => ∃ v, e = .returned v ∧ w'.ownsRow W.heap.size 67 2 v (q + 1) (recE.cells (T.take q ++ [r])) ∧ Below W.heap.size W w') := Lib.hid fun W hW => pupto_rec ao cap q r T A w.heap.size W hc hq hn (hx.below hW) hW.size
  have HD : Hid (∀ W, Below w.heap.size w W → Rw A w.heap.size W a' (recE.cells (T.drop q))) := Lib.hid fun W hW => by
    rw [← recE.cells_drop]; exact ha A w.heap.size W (recE.cells T) (recE.cells_len T) (hx.below hW)
  have HL : Hid ((recE.cells (T.drop q)).length = (T.length - q) * 2) := Lib.hid (by rw [recE.cells_len, List.length_drop]; rfl)
  have HO : Hid (∀ u ∈ recE.cells (T.drop q), u.oneCell' = true) := Lib.hid (recE.one_cell _)
  have HLEN : Hid (T.length ≤ 100000 ∧ (T.take q ++ [r] ++ T.drop q).length = q + 1 + (T.length - q)) := Lib.hid ⟨hn, by simp; omega⟩
  have hb1 := (Below.refl w.heap.size w).alloc (Nat.le_refl _) (.cells #[.int .i64 r.1, .string (tx r.2)] 67)
  have HB := Lib.hid hb1
  have HO1 := Lib.hid (heap_alloc_new w (.cells #[.int .i64 r.1, .string (tx r.2)] 67))
  clear hx ha hc hn hb1
  go_enter Try.func83, Try.ntmps83
  go_upto_region 3 with fail
  generalize w.alloc (.cells #[.int .i64 r.1, .string (tx r.2)] 67) = V at *
  have c0 := cell_of HO1.out (j := 0) rfl
  have c1 := cell_of HO1.out (j := 1) rfl
  have HBD := Lib.hid (HB.out.trans ((Below.refl V.heap.size V).drew.mono HB.out.size))
  go_region_held3 (fun v => v.cell? ⟨w.heap.size, 0, none⟩ = some (.int .i64 r.1) ∧ v.cell? ⟨w.heap.size, 1, none⟩ = some (.string (tx r.2))) (first | assumption | go_keep) (first
    | (go_at_call 96; refine (HU.out V.drew HBD.out).mono ?_; rintro e w2 ⟨v, rfl, ho, hb⟩; have hb2 := (Below.refl V.heap.size V).drew.trans hb; have HV := Lib.hid (And.intro ho hb2); have ho2 := old_obj hb2 HO1.out; have u0 := cell_of ho2 (j := 0) rfl; have u1 := cell_of ho2 (j := 1) rfl; clear ho hb ho2 hb2)
    | (refine step_append_rk rfl _ _ (by decide) Try.underlying65 infoRec rfl rfl V.heap.size (q + 1) v _ (recE.cells (T.drop q)) rfl HV.out.1 a' (T.length - q) (cap - q) A w.heap.size rfl HL.out (HD.out _ (HB.out.trans (HV.out.2.mono HB.out.size))) HO.out (by have := HLEN.out.1; omega) (by decide) HV.out.2.size ?_; intro v3 w3 ho3 hg3; have hb3 := below_rk HV.out.2 HV.out.1 (Nat.le_refl _) hg3; have HB3 := Lib.hid hb3; have HO3 := Lib.hid ho3; have ho4 := old_obj hb3 HO1.out; have v0 := cell_of ho4 (j := 0) rfl; have v1 := cell_of ho4 (j := 1) rfl; clear ho3 hg3 hb3 ho4))
  all_goals
    have hres := HO3.out
    rw [← recE.cells_append, ← HLEN.out.2] at hres
    obtain ⟨a3, c3, rfl, h1, h2, h3⟩ := tab15_out (ownk_base hres HB.out.size) rfl (HB.out.trans (HB3.out.mono HB.out.size))
    have HR := Lib.hid (And.intro h1 (And.intro h2 h3))
    clear hres h1 h2 h3
    go_wp2
    go_ret2
    exact ⟨a3, c3, rfl, HR.out.1, HR.out.2.1, HR.out.2.2⟩
set_option maxRecDepth 100000 in
set_option maxHeartbeats 4000000 in
theorem pset_rec (ao : Option Addr) (cap q : Nat) (r : Rec15) (T : Tb15) (A : Nat) (w : World) (hc : T.length ≤ cap) (hq : q < T.length) (hn : T.length ≤ 100000) (hx : Els recE A w.heap.size w ao T) :
    Calls Try.prog 84 #[.slice ao T.length cap, .int .i64 (q : Int), recVal r] w fun e w' => TabOut w e w' (T.take q ++ [r] ++ T.drop (q + 1)) := by
  have HH : Hid (∀ W, Calls Try.prog 97 #[.slice ao T.length cap, .int .i64 (q : Int)] W fun e w' => e = .returned (.bool true) ∧ W = w') := Lib.hid fun W => by
    have := phas_rec ao T.length cap q W
    rw [decide_eq_true (show (0 : Int) ≤ (q : Int) ∧ (q : Int) < (T.length : Int) from ⟨by omega, by omega⟩)] at this
    exact this
  obtain ⟨a', hs, ha⟩ := rowk_from sl_rec sz_rec ao T.length cap (q + 1) hq hc
  have i9 : IntKind.i64.wrap ((q : Int) + 1) = (q : Int) + 1 := IntWalk.i64_in _ (by omega)
  simp only [show ((q + 1 : Nat) : Int) = (q : Int) + 1 from rfl] at hs
  have HU : Hid (∀ W, Below w.heap.size w W → Calls Try.prog 96 #[.slice ao T.length cap, .int .i64 (q : Int), recVal r] W fun e w' => ∃ v, e = .returned v ∧ w'.ownsRow W.heap.size 67 2 v (q + 1) (recE.cells (T.take q ++ [r])) ∧ Below W.heap.size W w') := Lib.hid fun W hW => pupto_rec ao cap q r T A w.heap.size W hc (Nat.le_of_lt hq) hn (hx.below hW) hW.size
  have HD : Hid (∀ W, Below w.heap.size w W → Rw A w.heap.size W a' (recE.cells (T.drop (q + 1)))) := Lib.hid fun W hW => by
    rw [← recE.cells_drop]; exact ha A w.heap.size W (recE.cells T) (recE.cells_len T) (hx.below hW)
  have HL : Hid ((recE.cells (T.drop (q + 1))).length = (T.length - (q + 1)) * 2) := Lib.hid (by rw [recE.cells_len, List.length_drop]; rfl)
  have HO : Hid (∀ u ∈ recE.cells (T.drop (q + 1)), u.oneCell' = true) := Lib.hid (recE.one_cell _)
  have HLEN : Hid (T.length ≤ 100000 ∧ (T.take q ++ [r] ++ T.drop (q + 1)).length = q + 1 + (T.length - (q + 1))) := Lib.hid ⟨hn, by simp; omega⟩
  have HQL := Lib.hid hq
  have hb1 := (Below.refl w.heap.size w).alloc (Nat.le_refl _) (.cells #[.int .i64 r.1, .string (tx r.2)] 67)
  have HB := Lib.hid hb1
  have HO1 := Lib.hid (heap_alloc_new w (.cells #[.int .i64 r.1, .string (tx r.2)] 67))
  clear hx ha hc hn hb1 hq
  go_enter Try.func84, Try.ntmps84
  go_upto_region 3 with (go_at_call 97; refine (HH.out _).mono ?_; rintro e w1 ⟨rfl, rfl⟩)
  generalize w.alloc (.cells #[.int .i64 r.1, .string (tx r.2)] 67) = V at *
  have c0 := cell_of HO1.out (j := 0) rfl
  have c1 := cell_of HO1.out (j := 1) rfl
  have HBD := Lib.hid (HB.out.trans ((Below.refl V.heap.size V).drew.mono HB.out.size))
  go_region_held3 (fun v => v.cell? ⟨w.heap.size, 0, none⟩ = some (.int .i64 r.1) ∧ v.cell? ⟨w.heap.size, 1, none⟩ = some (.string (tx r.2))) (first | assumption | go_keep) (first
    | (go_at_call 96; refine (HU.out V.drew HBD.out).mono ?_; rintro e w2 ⟨v, rfl, ho, hb⟩; have hb2 := (Below.refl V.heap.size V).drew.trans hb; have HV := Lib.hid (And.intro ho hb2); have ho2 := old_obj hb2 HO1.out; have u0 := cell_of ho2 (j := 0) rfl; have u1 := cell_of ho2 (j := 1) rfl; clear ho hb ho2 hb2)
    | (refine step_append_rk rfl _ _ (by decide) Try.underlying65 infoRec rfl rfl V.heap.size (q + 1) v _ (recE.cells (T.drop (q + 1))) rfl HV.out.1 a' (T.length - (q + 1)) (cap - (q + 1)) A w.heap.size rfl HL.out (HD.out _ (HB.out.trans (HV.out.2.mono HB.out.size))) HO.out (by have := HLEN.out.1; have := HQL.out; omega) (by decide) HV.out.2.size ?_; intro v3 w3 ho3 hg3; have hb3 := below_rk HV.out.2 HV.out.1 (Nat.le_refl _) hg3; have HB3 := Lib.hid hb3; have HO3 := Lib.hid ho3; have ho4 := old_obj hb3 HO1.out; have v0 := cell_of ho4 (j := 0) rfl; have v1 := cell_of ho4 (j := 1) rfl; clear ho3 hg3 hb3 ho4))
  all_goals
    have hres := HO3.out
    rw [← recE.cells_append, ← HLEN.out.2] at hres
    obtain ⟨a3, c3, rfl, h1, h2, h3⟩ := tab15_out (ownk_base hres HB.out.size) rfl (HB.out.trans (HB3.out.mono HB.out.size))
    have HR := Lib.hid (And.intro h1 (And.intro h2 h3))
    clear hres h1 h2 h3
    go_wp2
    go_ret2
    exact ⟨a3, c3, rfl, HR.out.1, HR.out.2.1, HR.out.2.2⟩
theorem run_grow_rec (n : Nat) (h0 : 0 < n) (hn : n ≤ 200000) (ty : TypeId) (w : World) : ∃ (c : Nat) (V : World), (Builtin.append_ #[65, 3] ty #[.slice none 0 0, .int .i64 n]).run Try.prog w = .ok (.slice (some ⟨w.heap.size, 0, none⟩) n c) V ∧ n ≤ c ∧
    V.ownsRow w.heap.size 67 2 (.slice (some ⟨w.heap.size, 0, none⟩) 0 c) 0 [] ∧ Below w.heap.size w V := by
  obtain ⟨i0, hi, hz0, hz1, hz2⟩ := info_parts infoRec
  have hb : n * i0.bytes ≤ 281474976710656 := by rw [hz2]; omega
  have hr := Lib.run_append_nil_zeros (P := Try.prog) w 65 3 ty 67 i0 _ .i64 .i64 Try.underlying65 Try.underlying3 hi hz0 n h0 (by omega) (by omega) hb
  have hge := grownCap_ge w n 0 67
  have hcm : grownCap w n 0 67 ≤ maxLen := grownCap_le_maxLen w n 0 _ (by unfold maxLen; omega)
  refine ⟨_, _, hr, hge, ⟨by simp, .inr ⟨w.heap.size, _, _, rfl, Nat.le_refl _, heap_alloc_new w.drew _, Nat.zero_le _, hcm, ?_, by simp⟩⟩, (Below.refl _ w).drew.alloc (by simp) _⟩
  simp only [Array.size_append, size_zeroCells]
  show n * 2 + (grownCap w n 0 67 - n) * 2 = grownCap w n 0 67 * 2
  omega
set_option maxHeartbeats 1000000 in
theorem pgrow_rec (n : Nat) (hn : n ≤ 200000) (w : World) :
    Calls Try.prog 102 #[.slice none 0 0, .int .i64 n] w fun e w' => ∃ v, e = .returned v ∧ w'.ownsRow w.heap.size 67 2 v 0 [] ∧ Below w.heap.size w w' := by
  have d0 : decide ((n : Int) < 0) = false := decide_eq_false (by omega)
  have i1 : IntKind.i64.wrap (n : Int) = (n : Int) := IntWalk.i64_in _ (by omega)
  rcases Nat.eq_zero_or_pos n with h0 | h0
  · subst h0
    go_enter Try.func102, Try.ntmps102
    go_wp2
    go_ret
    exact ⟨.slice none 0 0, rfl, World.ownsRow_nil _ _ _ _, Below.refl _ _⟩
  · have d1 : decide ((0 : Int) < (n : Int)) = true := decide_eq_true (by omega)
    have d1' : decide (0 < n) = true := decide_eq_true h0
    obtain ⟨c, V, hr, hc, ho, hb⟩ := run_grow_rec n h0 hn 65 w
    have hs0 : ∀ W, (Instr.slice 65 (.slice none 0 0) none (some (.int .i64 0)) none).run Try.prog W = .ok (.slice none 0 0) W := fun W => rowk_to sl_rec sz_rec none 0 0 0 (Nat.le_refl _) (Nat.le_refl _) W
    have hs1 : ∀ W, (Instr.slice 65 (.slice (some ⟨w.heap.size, 0, none⟩) n c) none (some (.int .i64 0)) none).run Try.prog W = .ok (.slice (some ⟨w.heap.size, 0, none⟩) 0 c) W := fun W => rowk_to sl_rec sz_rec _ n c 0 (Nat.zero_le _) hc W
    have HR := Lib.hid hr
    have HO := Lib.hid (And.intro ho hb)
    clear hr ho hb
    go_enter Try.func102, Try.ntmps102
    go_wp2_with (at_builtin; refine Lib.wpList_append_run w rfl _ _ 65 3 rfl _ _ rfl rfl _ _ HR.out ?_)
    go_ret
    exact ⟨_, rfl, HO.out.1, HO.out.2⟩
set_option maxHeartbeats 4000000 in
theorem pconcat_rec (b n1 n2 c1 c2 : Nat) (a1 a2 : Option Addr) (cs1 cs2 : List Value) (A B : Nat) (w : World) (h0 : w.cell? ⟨b, 0, none⟩ = some (.slice a1 n1 c1)) (h1 : w.cell? ⟨b, 1, none⟩ = some (.slice a2 n2 c2)) (hl1 : cs1.length = n1 * 2) (hl2 : cs2.length = n2 * 2)
    (hn : n1 + n2 ≤ 100000) (hx1 : Rw A B w a1 cs1) (hx2 : Rw A B w a2 cs2) (hB : B ≤ w.heap.size) (ho1 : ∀ u ∈ cs1, u.oneCell' = true) (ho2 : ∀ u ∈ cs2, u.oneCell' = true) :
    Calls Try.prog 98 #[.slice (some ⟨b, 0, none⟩) 2 2] w fun e w' => ∃ v, e = .returned v ∧ w'.ownsRow w.heap.size 67 2 v (n1 + n2) (cs1 ++ cs2) ∧ Below w.heap.size w w' := by
  have hb := World.block_lt_of_cell? w _ h0
  have HC : Hid (∀ V, Below w.heap.size w V → V.cell? ⟨b, 0, none⟩ = some (.slice a1 n1 c1) ∧ V.cell? ⟨b, 1, none⟩ = some (.slice a2 n2 c2)) := Lib.hid fun V hV => ⟨(hV.cell (p := ⟨b, 0, none⟩) hb).trans h0, (hV.cell (p := ⟨b, 1, none⟩) hb).trans h1⟩
  have HX : Hid (∀ V, Below w.heap.size w V → Rw A B V a1 cs1 ∧ Rw A B V a2 cs2) := Lib.hid fun V hV => ⟨hx1.below (hV.mono hB), hx2.below (hV.mono hB)⟩
  have HG : Hid (∀ W, Calls Try.prog 102 #[.slice none 0 0, .int .i64 ((n1 : Int) + (n2 : Int))] W fun e w' => ∃ v, e = .returned v ∧ w'.ownsRow W.heap.size 67 2 v 0 [] ∧ Below W.heap.size W w') := Lib.hid fun W => by
    have := pgrow_rec (n1 + n2) (by omega) W
    rw [Int.natCast_add] at this
    exact this
  have HO1 := Lib.hid ho1
  have HO2 := Lib.hid ho2
  have HL := Lib.hid (And.intro hl1 hl2)
  have i1 : IntKind.i64.wrap (n1 : Int) = (n1 : Int) := IntWalk.i64_in _ (by omega)
  have i2 : IntKind.i64.wrap ((n1 : Int) + (n2 : Int)) = (n1 : Int) + (n2 : Int) := IntWalk.i64_in _ (by omega)
  have d1 : decide ((n1 : Int) < 0) = false := decide_eq_false (by omega)
  have d2 : decide ((n1 : Int) + (n2 : Int) < 0) = false := decide_eq_false (by omega)
  clear hx1 hx2 hB ho1 ho2 hl1 hl2
  go_enter Try.func98, Try.ntmps98
  go_wp2
  go_loop [3, 11] (fun s3 s11 => (s11 = .int .i64 0 ∧ s3 = .int .i64 0) ∨ (s11 = .int .i64 1 ∧ s3 = .int .i64 (n1 : Int)) ∨ (s11 = .int .i64 2 ∧ s3 = .int .i64 ((n1 : Int) + (n2 : Int)))) (fun _ i => 2 - (intOf i).toNat)
  case atStart => exact Or.inl ⟨rfl, rfl⟩
  case round =>
    rcases hrel with ⟨rfl, rfl⟩ | ⟨rfl, rfl⟩ | ⟨rfl, rfl⟩
    · go_wp2
      go_round
      case rel => exact Or.inr (Or.inl ⟨rfl, rfl⟩)
      case measure => simp [intOf]
    · go_wp2
      go_round
      case rel => exact Or.inr (Or.inr ⟨rfl, rfl⟩)
      case measure => simp [intOf]
    · go_wp2_with (go_at_call 102; refine (HG.out _).mono ?_; rintro e w2 ⟨v0, rfl, ho, hb2⟩)
      have HV0 : Hid (w2.ownsRow w.heap.size 67 2 v0 0 [] ∧ Below w.heap.size w w2) := Lib.hid ⟨ho, hb2⟩
      clear ho hb2
      go_loopw [6, 27] (fun s6 s27 wr => (s27 = .int .i64 0 ∧ Hid (wr.ownsRow w.heap.size 67 2 s6 0 [] ∧ Below w.heap.size w wr)) ∨ (s27 = .int .i64 1 ∧ Hid (wr.ownsRow w.heap.size 67 2 s6 n1 cs1 ∧ Below w.heap.size w wr)) ∨ (s27 = .int .i64 2 ∧ Hid (wr.ownsRow w.heap.size 67 2 s6 (n1 + n2) (cs1 ++ cs2) ∧ Below w.heap.size w wr))) (fun _ i _ => 2 - (intOf i).toNat)
      case atStart => exact Or.inl ⟨rfl, HV0⟩
      case round =>
        rcases hrel with ⟨rfl, hr⟩ | ⟨rfl, hr⟩ | ⟨rfl, hr⟩
        · obtain ⟨q0, q1⟩ := HC.out wr hr.out.2
          have hrw := HX.out wr hr.out.2
          have HRW := Lib.hid hrw.1
          clear hrw
          go_wp2_with (at_builtin; refine append_rk rfl _ _ (by decide) Try.underlying65 infoRec rfl rfl w.heap.size 0 _ [] cs1 rfl hr.out.1 a1 n1 c1 A B rfl HL.out.1 HRW.out HO1.out (by omega) (by decide) hr.out.2.size ?_)
          intro v3 w3 ho3 hg3
          have HN : Hid (w3.ownsRow w.heap.size 67 2 v3 n1 cs1 ∧ Below w.heap.size w w3) := Lib.hid ⟨ho3, below_rk hr.out.2 hr.out.1 (Nat.le_refl _) hg3⟩
          clear ho3 hg3 q0 q1
          go_wp2
          go_roundw
          case rel => exact Or.inr (Or.inl ⟨rfl, HN⟩)
          case measure => simp [intOf]
        · obtain ⟨q0, q1⟩ := HC.out wr hr.out.2
          have hrw := HX.out wr hr.out.2
          have HRW := Lib.hid hrw.2
          clear hrw
          go_wp2_with (at_builtin; refine append_rk rfl _ _ (by decide) Try.underlying65 infoRec rfl rfl w.heap.size n1 _ cs1 cs2 rfl hr.out.1 a2 n2 c2 A B rfl HL.out.2 HRW.out HO2.out (by omega) (by decide) hr.out.2.size ?_)
          intro v3 w3 ho3 hg3
          have HN : Hid (w3.ownsRow w.heap.size 67 2 v3 (n1 + n2) (cs1 ++ cs2) ∧ Below w.heap.size w w3) := Lib.hid ⟨ho3, below_rk hr.out.2 hr.out.1 (Nat.le_refl _) hg3⟩
          clear ho3 hg3 q0 q1
          go_wp2
          go_roundw
          case rel => exact Or.inr (Or.inr ⟨rfl, HN⟩)
          case measure => simp [intOf]
        · go_wp2
          go_ret
          exact ⟨_, rfl, hr.out.1, hr.out.2⟩
set_option maxRecDepth 100000 in
set_option maxHeartbeats 4000000 in
theorem pless_rec (ao : Option Addr) (cap q : Nat) (T : Tb15) (A : Nat) (w : World) (hc : T.length ≤ cap) (hq : q < T.length) (hn : T.length ≤ 100000) (hx : Els recE A w.heap.size w ao T) :
    Calls Try.prog 85 #[.slice ao T.length cap, .int .i64 (q : Int)] w fun e w' => TabOut w e w' (T.take q ++ T.drop (q + 1)) := by
  have HH : Hid (∀ W, Calls Try.prog 97 #[.slice ao T.length cap, .int .i64 (q : Int)] W fun e w' => e = .returned (.bool true) ∧ W = w') := Lib.hid fun W => by
    have := phas_rec ao T.length cap q W
    rw [decide_eq_true (show (0 : Int) ≤ (q : Int) ∧ (q : Int) < (T.length : Int) from ⟨by omega, by omega⟩)] at this
    exact this
  obtain ⟨a', hs, ha⟩ := rowk_from sl_rec sz_rec ao T.length cap (q + 1) hq hc
  have hs1 := fun W => rowk_to sl_rec sz_rec ao T.length cap q (by omega) hc W
  have i9 : IntKind.i64.wrap ((q : Int) + 1) = (q : Int) + 1 := IntWalk.i64_in _ (by omega)
  simp only [show ((q + 1 : Nat) : Int) = (q : Int) + 1 from rfl] at hs
  have HU : Hid (Calls Try.prog 98 #[.slice (some ⟨w.heap.size, 0, none⟩) 2 2] (w.alloc (.cells #[.slice ao q cap, .slice a' (T.length - (q + 1)) (cap - (q + 1))] 65)).drew fun e w' => ∃ a c, e = .returned (.slice a (T.take q ++ T.drop (q + 1)).length c) ∧ (T.take q ++ T.drop (q + 1)).length ≤ c ∧ Els recE w.heap.size w'.heap.size w' a (T.take q ++ T.drop (q + 1)) ∧ Below w.heap.size w w' ∧ Ty15 a w') := Lib.hid (by
    have hb2 := ((Below.refl w.heap.size w).alloc (Nat.le_refl _) (.cells #[.slice ao q cap, .slice a' (T.length - (q + 1)) (cap - (q + 1))] 65)).drew
    have hob : (w.alloc (.cells #[.slice ao q cap, .slice a' (T.length - (q + 1)) (cap - (q + 1))] 65)).drew.heap[w.heap.size]? = some (.cells #[.slice ao q cap, .slice a' (T.length - (q + 1)) (cap - (q + 1))] 65 (0, 0)) := heap_alloc_new w _
    refine (pconcat_rec w.heap.size q (T.length - (q + 1)) cap (cap - (q + 1)) ao a' (recE.cells (T.take q)) (recE.cells (T.drop (q + 1))) A w.heap.size (w.alloc (.cells #[.slice ao q cap, .slice a' (T.length - (q + 1)) (cap - (q + 1))] 65)).drew (cell_of hob rfl) (cell_of hob rfl) (by rw [recE.cells_len, List.length_take, Nat.min_eq_left (Nat.le_of_lt hq)]; rfl) (by rw [recE.cells_len, List.length_drop]; rfl) (by omega) ((hx.below hb2).take q) ?_ hb2.size (recE.one_cell _) (recE.one_cell _)).mono ?_
    · rw [← recE.cells_drop]; exact ha A w.heap.size _ (recE.cells T) (recE.cells_len T) (hx.below hb2)
    · rintro e w' ⟨v, rfl, ho, hb⟩
      rw [← recE.cells_append] at ho
      obtain ⟨a3, c3, rfl, h1, h2, h3⟩ := tab15_out (ownk_base ho hb2.size) (by simp; omega) (hb2.trans (hb.mono hb2.size))
      exact ⟨a3, c3, rfl, h1, h2, h3⟩)
  clear hq hx hc ha hn
  generalize T.take q ++ T.drop (q + 1) = U at HU ⊢
  go_enter Try.func85, Try.ntmps85
  go_upto_region 3 with (go_at_call 97; refine (HH.out _).mono ?_; rintro e w1 ⟨rfl, rfl⟩)
  go_region_held3 (fun _ => True) (trivial) (first
    | (go_at_call 98; refine HU.out.mono ?_; rintro e w2 ⟨a3, c3, rfl, h1, h2, h3⟩; have HR := Lib.hid (And.intro h1 (And.intro h2 h3)); clear h1 h2 h3)
    | fail)
  all_goals (
    go_wp2
    go_ret2
    exact ⟨a3, c3, rfl, HR.out.1, HR.out.2.1, HR.out.2.2⟩)
end Go.Proofs.Yteccahggahpeeaa
