/- A region that draws its order, holds a load, and at its end stores where it loaded ('x.f = append(x.f, g())'): the load is taken first; what it reads is to be kept by each operation that does not wait for it. -/
import Derived.Test.YtocengdojdeiiaaProg
import Derived.Deep.RegionHeld3
namespace Go.Proofs.Ytocengdojdeiiaa
open Go

section
variable {P : Program} {ops : Array Oper} {Q : Exit → Act → World → Prop} {md : Region.Mode} {S : World → Prop} {E : List Nat}

/-- S holds as long as none of E has come up. -/
def KeptS (E : List Nat) (S : World → Prop) (listed : Array Bool) (w : World) : Prop := (∀ e ∈ E, listed.getD e true = false) → S w
def wpAnyK (P : Program) (md : Region.Mode) (ops : Array Oper) (Q : Exit → Act → World → Prop) (E : List Nat) (S : World → Prop) : Nat → Array Bool → Act → World → Prop
  | 0, listed, a, w => Region.ready md ops listed = [] ∧ Q .normal a w
  | fuel + 1, listed, a, w =>
    (Region.ready md ops listed = [] → Q .normal a w) ∧
    ∀ i ∈ Region.ready md ops listed, wpOp P ops Q i (fun a' w' => KeptS E S (listed.setIfInBounds i true) w' ∧ wpAnyK P md ops Q E S fuel (listed.setIfInBounds i true) a' w') a w
theorem wpAny_of_K : ∀ (fuel : Nat) (listed : Array Bool) (a : Act) (w : World), wpAnyK P md ops Q E S fuel listed a w → wpAny P md ops Q fuel listed a w
  | 0, _, _, _, h => h
  | fuel + 1, _, _, _, h => ⟨h.1, fun i hi => wpOp_mono (fun a' w' h' => wpAny_of_K fuel _ a' w' h'.2) (h.2 i hi)⟩
/-- Each of E waits for operation i, or for another one of E. -/
def Waits (md : Region.Mode) (ops : Array Oper) (E : List Nat) (i : Nat) : Prop := ∀ e ∈ E, ∃ oe, ops[e]? = some oe ∧ ∃ ed ∈ oe.after, Region.binds md ed = true ∧ (ed.on = i ∨ ed.on ∈ E)
theorem wpAnyK_first {D : List Nat} {i : Nat} {oi : Oper} {v : Value} (hi : ops[i]? = some oi) (hsel : ∀ (j : Nat) (o : Oper) cs b, ops[j]? = some o → o.op ≠ .select cs b)
    (hQ : ∀ c a w, Q (.panic c) (a.put oi.dst v) w → Q (.panic c) a w) (hED : ∀ e ∈ E, e ∈ D) (hiE : i ∉ D) (hE : Waits md ops D i) (hin : ∀ e ∈ D, e < ops.size) :
    ∀ (fuel : Nat) (listed : Array Bool) (a : Act) (w : World), listed.size = ops.size → (∀ e ∈ D, listed.getD e true = false) →
      (∀ j oj, ops[j]? = some oj → j ≠ i → listed.getD j true = false → (∀ e ∈ oj.after, Region.binds md e = true → e.on ≠ i) → oi.apart ops oj = true) →
      i ∈ Region.ready md ops listed → YieldsIf P ops S oi v a → S w →
      wpAnyK P md ops Q E S fuel (listed.setIfInBounds i true) (a.put oi.dst v) w → wpAnyK P md ops Q E S (fuel + 1) listed a w := by
  intro fuel
  induction fuel with
  | zero =>
    intro listed a w _ hun _ hr hy hS H
    refine ⟨fun h => (by rw [h] at hr; cases hr), fun j hj => ?_⟩
    by_cases hji : j = i
    · subst hji; exact hy.wpOp hi hS ⟨fun _ => hS, H⟩
    · have := ready_mono hj hji
      rw [H.1] at this
      cases this
  | succ fuel ih =>
    intro listed a w hsz hun hfree hr hy hS H
    refine ⟨fun h => (by rw [h] at hr; cases hr), fun j hj => ?_⟩
    by_cases hji : j = i
    · subst hji; exact hy.wpOp hi hS ⟨fun _ => hS, H⟩
    · have h1 := H.2 j (ready_mono hj hji)
      obtain ⟨hjun, oj, hoj, hall⟩ := mem_ready.1 hj
      have hiun := (mem_ready.1 hr).1
      have hlist : ∀ k, k < ops.size → listed.getD k true = false → listed.getD k false = false := fun k hk h => by
        have hk' : k < listed.size := by omega
        simp [hk'] at h ⊢; exact h
      have hil : i < ops.size := (Array.getElem?_eq_some_iff.1 hi).1
      have hnot : ∀ e ∈ oj.after, Region.binds md e = true → e.on ≠ i := fun e he hb heq => by
        have h2 := hall e he hb
        rw [heq, hlist i hil hiun] at h2
        cases h2
      have hjE : j ∉ D := fun hjE => by
        obtain ⟨oe, hoe, ed, hed, hb, ho⟩ := hE j hjE
        have : oe = oj := Option.some.inj (hoe.symm.trans hoj)
        subst this
        rcases ho with ho | ho
        · exact hnot ed hed hb ho
        · have h2 := hall ed hed hb
          rw [hlist ed.on (hin _ ho) (hun _ ho)] at h2
          cases h2
      have h2 := wpOp_putIf hoj (hfree j oj hoj hji hjun hnot) (fun cs b => hsel i oi cs b hi) (fun cs b => hsel j oj cs b hoj) hQ hy h1
      have hfree' : ∀ k ok, ops[k]? = some ok → k ≠ i → (listed.setIfInBounds j true).getD k true = false →
          (∀ e ∈ ok.after, Region.binds md e = true → e.on ≠ i) → oi.apart ops ok = true := fun k ok hk hki hun' hno => by
        refine hfree k ok hk hki ?_ hno
        by_cases hjk : j = k
        · subst hjk; exact hjun
        · rw [getD_set_ne true hjk] at hun'; exact hun'
      have hunj : ∀ e ∈ D, (listed.setIfInBounds j true).getD e true = false := fun e he => by
        rw [getD_set_ne true (fun (h : j = e) => hjE (by rw [h]; exact he))]; exact hun e he
      have hunij : ∀ e ∈ D, ((listed.setIfInBounds i true).setIfInBounds j true).getD e true = false := fun e he => by
        rw [getD_set_ne true (fun (h : j = e) => hjE (by rw [h]; exact he)), getD_set_ne true (fun (h : i = e) => hiE (by rw [h]; exact he))]; exact hun e he
      refine wpOp_mono (fun a' w' h3 => ?_) h2
      have hS' : S w' := h3.2.1 (fun e he => hunij e (hED e he))
      refine ⟨fun _ => hS', ih (listed.setIfInBounds j true) a' w' (by simpa using hsz) hunj hfree' (ready_mono hr (Ne.symm hji)) h3.1 hS' ?_⟩
      rw [Array.setIfInBounds_comm _ _ hji]
      exact h3.2.2
def waitsB (md : Region.Mode) (ops : Array Oper) (E : List Nat) (i : Nat) : Bool :=
  E.all fun e => match ops[e]? with
    | some oe => oe.after.any fun ed => Region.binds md ed && (ed.on == i || E.contains ed.on)
    | none => false
theorem waits_of {md : Region.Mode} {i : Nat} (h : waitsB md ops E i = true) : Waits md ops E i ∧ ∀ e ∈ E, e < ops.size := by
  refine ⟨fun e he => ?_, fun e he => ?_⟩
  all_goals
    have h1 := List.all_eq_true.1 h e he
    split at h1
    · rename_i oe hoe
      first
      | exact (Array.getElem?_eq_some_iff.1 hoe).1
      | (obtain ⟨ed, hed, h2⟩ := Array.any_eq_true'.1 h1
         simp only [Bool.and_eq_true, Bool.or_eq_true, beq_iff_eq, List.contains_iff_mem] at h2
         exact ⟨oe, hoe, ed, hed, h2.1, h2.2⟩)
    · cases h1
/-- Operation i, by its slot, taken first. -/
theorem wpAnyK_take (D : List Nat) {i : Nat} {oi : Oper} (d : Tmp) {v : Value} {fuel : Nat} {listed : Array Bool} {a : Act} {w : World} (hi : ops[i]? = some oi) (hd : oi.dst = some d)
    (hs : Region.noSelect ops = true) (hf : Region.free md ops listed i = true) (hr : (Region.ready md ops listed).contains i = true) (hwt : waitsB md ops D i = true)
    (hst : (D.all fun e => !(listed.getD e true)) = true) (hiE : D.contains i = false) (hED : (E.all fun e => D.contains e) = true) (hsz : (listed.size == ops.size) = true)
    (hQ : ∀ c a w, Q (.panic c) (a.put (some d) v) w → Q (.panic c) a w) (hw : Region.wanted oi (yielded ops a.tmps) = true) (hy : ∀ w, S w → (execOp a.eval oi).run P w = .ok (.value v) w) (hS : S w)
    (h : wpAnyK P md ops Q E S fuel (listed.setIfInBounds i true) (a.put (some d) v) w) : wpAnyK P md ops Q E S (fuel + 1) listed a w := by
  have hE := waits_of hwt
  refine wpAnyK_first hi (Region.noSelect_spec hs) (by rw [hd]; exact hQ) (fun e he => by simpa using List.all_eq_true.1 hED e he) (by simpa using hiE) hE.1 hE.2 fuel listed a w (by simpa using hsz) (fun e he => ?_) (Region.free_spec hi hf) (by simpa using hr) (Or.inl ⟨hw, hy⟩) hS (by rw [hd]; exact h)
  have := List.all_eq_true.1 hst e he
  simpa using this
/-- An operation that yields in whatever world, taken first. -/
theorem wpAnyK_free' {i : Nat} {oi : Oper} {v : Value} (hi : ops[i]? = some oi) (hsel : ∀ (j : Nat) (o : Oper) cs b, ops[j]? = some o → o.op ≠ .select cs b)
    (hQ : ∀ c a w, Q (.panic c) (a.put oi.dst v) w → Q (.panic c) a w) (hiE : i ∉ E) :
    ∀ (fuel : Nat) (listed : Array Bool) (a : Act) (w : World),
      (∀ j oj, ops[j]? = some oj → j ≠ i → listed.getD j true = false → (∀ e ∈ oj.after, Region.binds md e = true → e.on ≠ i) → oi.apart ops oj = true) →
      i ∈ Region.ready md ops listed → YieldsIf P ops (fun _ => True) oi v a → KeptS E S listed w →
      wpAnyK P md ops Q E S fuel (listed.setIfInBounds i true) (a.put oi.dst v) w → wpAnyK P md ops Q E S (fuel + 1) listed a w := by
  intro fuel
  induction fuel with
  | zero =>
    intro listed a w _ hr hy hS H
    refine ⟨fun h => (by rw [h] at hr; cases hr), fun j hj => ?_⟩
    by_cases hji : j = i
    · subst hji
      exact hy.wpOp hi trivial ⟨fun h => hS (fun e he => by have := h e he; rw [getD_set_ne true (fun (h : j = e) => hiE (by rw [h]; exact he))] at this; exact this), H⟩
    · have := ready_mono hj hji
      rw [H.1] at this
      cases this
  | succ fuel ih =>
    intro listed a w hfree hr hy hS H
    refine ⟨fun h => (by rw [h] at hr; cases hr), fun j hj => ?_⟩
    by_cases hji : j = i
    · subst hji
      exact hy.wpOp hi trivial ⟨fun h => hS (fun e he => by have := h e he; rw [getD_set_ne true (fun (h : j = e) => hiE (by rw [h]; exact he))] at this; exact this), H⟩
    · have h1 := H.2 j (ready_mono hj hji)
      obtain ⟨hjun, oj, hoj, hall⟩ := mem_ready.1 hj
      have hnot : ∀ e ∈ oj.after, Region.binds md e = true → e.on ≠ i := fun e he hb heq => by
        have h1 := hall e he hb
        have h0 := (mem_ready.1 hr).1
        rw [heq] at h1
        rcases Nat.lt_or_ge i listed.size with h' | h'
        · simp [h'] at h0 h1; rw [h0] at h1; cases h1
        · simp [Array.getElem?_eq_none h'] at h1
      have h2 := wpOp_putIf hoj (hfree j oj hoj hji hjun hnot) (fun cs b => hsel i oi cs b hi) (fun cs b => hsel j oj cs b hoj) hQ hy h1
      have hfree' : ∀ k ok, ops[k]? = some ok → k ≠ i → (listed.setIfInBounds j true).getD k true = false →
          (∀ e ∈ ok.after, Region.binds md e = true → e.on ≠ i) → oi.apart ops ok = true := fun k ok hk hki hun hno => by
        refine hfree k ok hk hki ?_ hno
        by_cases hjk : j = k
        · subst hjk; exact hjun
        · rw [getD_set_ne true hjk] at hun; exact hun
      refine wpOp_mono (fun a' w' h3 => ?_) h2
      have hK : KeptS E S (listed.setIfInBounds j true) w' := fun h => h3.2.1 (fun e he => by
        rw [Array.setIfInBounds_comm _ _ (Ne.symm hji), getD_set_ne true (fun (h : i = e) => hiE (by rw [h]; exact he))]; exact h e he)
      refine ⟨hK, ih (listed.setIfInBounds j true) a' w' hfree' (ready_mono hr (Ne.symm hji)) h3.1 hK ?_⟩
      rw [Array.setIfInBounds_comm _ _ hji]
      exact h3.2.2
theorem wpAnyK_free {i : Nat} {oi : Oper} (d : Tmp) {v : Value} {fuel : Nat} {listed : Array Bool} {a : Act} {w : World} (hi : ops[i]? = some oi) (hd : oi.dst = some d)
    (hs : Region.noSelect ops = true) (hf : Region.free md ops listed i = true) (hr : (Region.ready md ops listed).contains i = true) (hiE : E.contains i = false)
    (hQ : ∀ c a w, Q (.panic c) (a.put (some d) v) w → Q (.panic c) a w) (hw : Region.wanted oi (yielded ops a.tmps) = true) (hy : ∀ w, (execOp a.eval oi).run P w = .ok (.value v) w) (hS : KeptS E S listed w)
    (h : wpAnyK P md ops Q E S fuel (listed.setIfInBounds i true) (a.put (some d) v) w) : wpAnyK P md ops Q E S (fuel + 1) listed a w :=
  wpAnyK_free' hi (Region.noSelect_spec hs) (by rw [hd]; exact hQ) (by simpa using hiE) fuel listed a w (Region.free_spec hi hf) (by simpa using hr) (Or.inl ⟨hw, fun w _ => hy w⟩) hS (by rw [hd]; exact h)
theorem wpAnyK_done {listed : Array Bool} {a : Act} {w : World} (hr : Region.ready md ops listed = []) (h : Q .normal a w) : ∀ fuel, wpAnyK P md ops Q E S fuel listed a w
  | 0 => ⟨hr, h⟩
  | _ + 1 => ⟨fun _ => h, by rw [hr]; simp⟩
/-- The one operation that may come up. -/
theorem wpAnyK_step {i : Nat} {o : Oper} {fuel : Nat} {listed : Array Bool} {a : Act} {w : World} (hr : Region.ready md ops listed = [i]) (ho : ops[i]? = some o)
    (h : ∀ K' : Act → World → Prop, Shut (∀ a w, KeptS E S (listed.setIfInBounds i true) w → wpAnyK P md ops Q E S fuel (listed.setIfInBounds i true) a w → K' a w) → if Region.wanted o (yielded ops a.tmps) = true then Oper.wp P o a w K' Q else K' (a.put o.dst undef) w) :
    wpAnyK P md ops Q E S (fuel + 1) listed a w :=
  ⟨fun h0 => (by rw [hr] at h0; cases h0), fun j hj => by
    rw [hr] at hj
    obtain rfl : j = i := by simpa using hj
    exact wpOp_step ho (fun K' hK => h K' (fun a w h1 h2 => hK a w ⟨h1, h2⟩))⟩
/-- The beginning: from the world behind the draw. -/
theorem wp_region_late {id : Nat} {a : Act} {w : World} (hm : P.follows .mixedOrders = true)
    (h : wpAnyK P .any ops Q E S ops.size (Array.replicate ops.size false) a w.drew) : (Code.region id ops true).wp P Q a w :=
  wp_region_any hm (wpAny_of_K _ _ _ _ h)
theorem kept_none {listed : Array Bool} {w : World} (e : Nat) (he : E.contains e = true) (h : listed.getD e true = true) : KeptS E S listed w := fun hh => by
  have := hh e (by simpa using he)
  rw [h] at this; cases this
end
end Go.Proofs.Ytocengdojdeiiaa
