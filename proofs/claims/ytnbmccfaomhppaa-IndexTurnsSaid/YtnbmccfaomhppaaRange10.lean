/- A range over an iterator that keeps a variable of its own in a block of cells of a type that the caller's own word does not speak of. -/
import Derived.Test.YtnbmccfaomhppaaProg
import Derived.RangeFuncNested
import Derived.RangeFuncBound
import Derived.RangeFuncCalls
import Derived.RangeFuncLeaves
import Derived.Below
namespace Go.Proofs.Ytnbmccfaomhppaa
open Go Go.RowKit

/-- It lasts while blocks are laid, and while one from B on turns that is no cells, or is cells of type T. -/
def Lasts {β : Type} (T : TypeId) (B : Nat) (J : β → World → Prop) : Prop :=
  ∀ s W W' row, J s W → W.grownBy W' row → (∀ r, row = some r → B ≤ r ∧ ∃ o : Obj, W.heap[r]? = some o ∧ (o.isCells = false ∨ ∃ cs fr, o = .cells cs T fr)) → J s W'
theorem Lasts.turned {β : Type} {T : TypeId} {B : Nat} {J : β → World → Prop} (h : Lasts T B J) {s : β} {W : World} {l : Nat} {o : Obj} (o' : Obj) (hs : J s W) (hB : B ≤ l) (hl : W.heap[l]? = some o) (ho : o.isCells = false) : J s (W.putObj l o') :=
  h s W _ (some l) hs (grownBy_putObj' W l o') (fun r e => by cases e; exact ⟨hB, o, hl, Or.inl ho⟩)
theorem Lasts.laid {β : Type} {T : TypeId} {B : Nat} {J : β → World → Prop} (h : Lasts T B J) {s : β} {W : World} (o : Obj) (hs : J s W) : J s (W.alloc o) :=
  h s W _ none hs (World.grownBy_alloc W o none) (fun r e => by cases e)
theorem Lasts.later {β : Type} {T : TypeId} {B : Nat} {J : β → World → Prop} (h : Lasts T B J) {s : β} {W W' : World} (hs : J s W) (hb : Below W.heap.size W W') : J s W' :=
  h s W W' none hs ⟨hb.os, hb.tape, hb.output, hb.size, fun k hk _ => hb.block k hk⟩ (fun r e => by cases e)
theorem Lasts.mono {β : Type} {T : TypeId} {B B' : Nat} {J : β → World → Prop} (h : Lasts T B J) (hB : B ≤ B') : Lasts T B' J :=
  fun s W W' row hs hg hr => h s W W' row hs hg (fun r e => ⟨Nat.le_trans hB (hr r e).1, (hr r e).2⟩)
/-- What an iterator pays that keeps a variable of type T of its own: whatever lasts, and a round carries on, holds behind it. -/
def SeqVar {α : Type} (T : TypeId) (F : Fence) (n : Nat) (P : Program) (g : Nat) (lb : Array Value) (encs : α → Array Value) (Kp : World → World → Prop) (S Sp : List α → Prop) (N : Nat) (w : World) : Prop :=
  ∀ (l : Nat) (J Jx : List α → World → Prop) (W : World), Below w.heap.size w W → Lasts T W.heap.size J → Lasts T W.heap.size Jx →
    (∀ pre x W1, J pre W1 → pre.length < N → YieldAt F (n - 1) P l (encs x) W1 fun e W' => (e = .returned (.bool true) ∧ J (pre ++ [x]) W' ∧ Kp W1 W') ∨ (e = .returned (.bool false) ∧ Jx (pre ++ [x]) W')) →
    J [] W → CallsIn F n P g (#[.func (.yield l) #[] #[]] ++ lb) W fun e W' => (∃ v, e = .returned v) ∧ ((∃ xs, S xs ∧ J xs W') ∨ (∃ pre, Sp pre ∧ Jx pre W'))
variable {F : Fence} {n : Nat} {P : Program}
theorem range_var {α : Type} {T : TypeId} {g : Operand} {ps : Array Tmp} {assign body : Code} {Q : Exit → Act → World → Prop} {a : Act} {w : World}
    (hro : F.round = none) (h1 : 1 ≤ n) {gf : Nat} {lb : Array Value} (hg : a.eval g = .func (.func gf) #[] lb) (hFg : F.fn gf) (eg : ∀ args w, (callFunc gf args).run P w = .ok (.enter gf args) w)
    {encs : α → Array Value} {Kp : World → World → Prop} {S Sp : List α → Prop} {N : Nat} {w0 : World} (hseq : SeqVar T F (n - 1) P gf lb encs Kp S Sp N w0)
    (hKt : ∀ {A B C : World}, Kp A B → Kp B C → Kp A C) (hKb : ∀ (W : World) (l : Nat) (o o' : Obj), w.heap.size ≤ l → W.heap[l]? = some o → o.isCells = false → Kp W (W.putObj l o')) (hb0 : Below w0.heap.size w0 w) (hps : ∀ x, (encs x).size = ps.size)
    (I : List α → World → Prop) (Ix : Code → List α → World → Prop) (hI : Lasts T w.heap.size I) (hIx : ∀ c, Lasts T w.heap.size (Ix c)) (h0 : I [] w) (Ax : α → Act → World → Prop)
    (hAx : ∀ x a' (W : World) (l : Nat) (o o' : Obj), w.heap.size ≤ l → W.heap[l]? = some o → o.isCells = false → Ax x a' W → Ax x a' (W.putObj l o'))
    (hassign : ∀ (l : Nat) (pre : List α) (x : α) (W : World) (K : Act → World → Prop), I pre W → (∀ a' W', KeepsFrom w.heap.size W W' → Kp W W' → I pre W' → Ax x a' W' → K a' W') →
      assign.wpIn (F.inRound l) (n - 1 - 1) P (Exit.then K (fun _ _ _ => False)) { tmps := (ps.zip (encs x)).foldl (fun t (p, v) => t.setIfInBounds p v) a.tmps, defers := [] } W)
    (hbody : ∀ (l : Nat) (pre : List α) (x : α) (a' : Act) (W : World), I pre W → Ax x a' W → pre.length < N → body.wpIn (F.inRound l) (n - 1 - 1) P (ownPostG w.heap.size Kp I Ix (pre ++ [x]) W) a' W)
    (hdone : ∀ (D : Nat) (xs : List α) (W : World), w.heap.size ≤ D → S xs → I xs W → W.heap[D]? = some (.deferred (some [])) → Q .normal { a with defers := { target := .collected D, args := #[] } :: a.defers } W)
    (hstop : ∀ (D : Nat) (c : Code) (pre : List α) (W : World), w.heap.size ≤ D → Sp pre → Ix c pre W → W.heap[D]? = some (.deferred (some [])) → c.wpIn F n P Q { a with defers := { target := .collected D, args := #[] } :: a.defers } W) :
    (Code.rangeFunc g ps assign body).wpIn F n P Q a w := by
  refine wpIn_rangeFunc fun fn hfn => ?_
  rw [hro]
  obtain ⟨R, hR⟩ : ∃ R : LoopState → Option Code → Loop, R = fun st pe => { state := st, pending := pe, fn, tmps := a.tmps, params := ps, assign, body, defers := w.heap.size } := ⟨_, rfl⟩
  obtain ⟨V, hV⟩ : ∃ V, (w.alloc (.deferred (some []))).alloc (.loop (R .ready none)) = V := ⟨_, rfl⟩
  have hVs : V.heap.size = w.heap.size + 2 := by rw [← hV]; simp
  have vl : V.heap[w.heap.size + 1]? = some (.loop (R .ready none)) := by
    have h := World.alloc_heap_new (w.alloc (.deferred (some []))) (.loop (R .ready none))
    rw [World.size_alloc, hV] at h
    exact h
  have vd : V.heap[w.heap.size]? = some (.deferred (some [])) := by rw [← hV]; exact (Below.heap_alloc _ _ _ (by simp)).trans (World.alloc_heap_new w _)
  have vI : I [] V := by rw [← hV]; exact hI.laid _ (hI.laid _ h0)
  have vb : Below w0.heap.size w0 V := by rw [← hV]; exact hb0.trans ((((Below.refl _ w).alloc (Nat.le_refl _) _).alloc (by simp) _).mono hb0.size)
  -- a block of the book-keeping lies as it lay while what lies from V on turns
  have stay : ∀ {A B : World} {row : Option Nat} {k : Nat} {o : Obj}, k < V.heap.size → A.heap[k]? = some o → A.grownBy B row → (∀ r, row = some r → V.heap.size ≤ r) → B.heap[k]? = some o := fun hk h hg hr => by
    rw [hg.block _ (Array.getElem?_eq_some_iff.1 h).1 (fun e => by have := hr _ e.symm; omega)]
    exact h
  refine ⟨w.heap.size + 1, [{ target := .collected w.heap.size, args := #[] }], V, { target := .fn (.func gf) lb, args := #[.func (.yield (w.heap.size + 1)) #[] #[]] }, V, gf,
    #[.func (.yield (w.heap.size + 1)) #[] #[]] ++ lb, V, ?_, ?_, ?_, ?_, fun _ => h1, ?_⟩
  · rw [← hV, hR]; exact run_enterLoop_outer _ _ _ _ _
  · simp only [resolve, hg]
    simp [go_sem]
  · intro f' hf'; simp [Target.leads] at hf'; subst hf'; exact hFg
  · simp [invoke, go_sem, eg]
  · refine (hseq (w.heap.size + 1)
      (fun pre W => I pre W ∧ W.heap[w.heap.size + 1]? = some (.loop (R .ready none)) ∧ W.heap[w.heap.size]? = some (.deferred (some [])))
      (fun pre W => ∃ c, Ix c pre W ∧ W.heap[w.heap.size + 1]? = some (.loop (R .done (some c))) ∧ W.heap[w.heap.size]? = some (.deferred (some [])))
      V vb ?_ ?_ ?_ ⟨vI, vl, vd⟩).mono ?_
    · intro s A B row hs hg' hr
      have hr2 : ∀ r, row = some r → V.heap.size ≤ r := fun r e => (hr r e).1
      exact ⟨hI.mono (by omega) s A B row hs.1 hg' hr, stay (by omega) hs.2.1 hg' hr2, stay (by omega) hs.2.2 hg' hr2⟩
    · intro s A B row hs hg' hr
      have hr2 : ∀ r, row = some r → V.heap.size ≤ r := fun r e => (hr r e).1
      obtain ⟨c, hc, hl, hd⟩ := hs
      exact ⟨c, (hIx c).mono (by omega) s A B row hc hg' hr, stay (by omega) hl hg' hr2, stay (by omega) hd hg' hr2⟩
    · -- a round
      rintro pre x A ⟨ai, al, ad⟩ hlen
      have hy := run_yield (P := P) (args := encs x) al (by rw [hR]; exact hps x)
      rw [hR] at hy
      refine ⟨fn, _, assign, body, hy, roundIn_of_wpIn hfn (hassign _ pre x A _ ai ?_)⟩
      clear hy
      intro a' B kf kp bi bx
      have bl := kf.same _ _ (by omega) al rfl
      have bd := kf.same _ _ (Nat.le_refl _) ad rfl
      have blt : w.heap.size + 1 < B.heap.size := (Array.getElem?_eq_some_iff.1 bl).1
      refine ⟨_, run_beginRound bl (by rw [hR]), ?_⟩
      obtain ⟨C, hC⟩ : ∃ C, B.putObj (w.heap.size + 1) (.loop { R .ready none with state := .busy }) = C := ⟨_, rfl⟩
      have cl : C.heap[w.heap.size + 1]? = some (.loop { R .ready none with state := .busy }) := by rw [← hC]; exact World.putObj_heap_same blt
      have cd : C.heap[w.heap.size]? = some (.deferred (some [])) := by rw [← hC]; exact (World.putObj_heap_other (by omega)).trans bd
      have ck : Kp B C := by rw [← hC]; exact hKb _ _ _ _ (by omega) bl rfl
      have ci : I pre C := by rw [← hC]; exact hI.turned _ bi (by omega) bl rfl
      have cx : Ax x a' C := by rw [← hC]; exact hAx x a' _ _ _ _ (by omega) bl rfl bx
      rw [hC]
      refine wpIn_mono (hbody _ pre x a' C ci cx hlen) ?_
      have fin : ∀ (j : Option Code) (D : World), KeepsFrom w.heap.size C D → ∃ E, (Instr.endRound (w.heap.size + 1) j).run P D = .ok (.bool j.isNone) E ∧ E = D.putObj (w.heap.size + 1) (.loop (R (if j.isNone then .ready else .done) j)) ∧
          D.heap[w.heap.size + 1]? = some (.loop { R .ready none with state := .busy }) ∧ E.heap[w.heap.size + 1]? = some (.loop (R (if j.isNone then .ready else .done) j)) ∧ E.heap[w.heap.size]? = some (.deferred (some [])) := fun j D hk => by
        have dl := hk.same _ _ (by omega) cl rfl
        have dd := hk.same _ _ (Nat.le_refl _) cd rfl
        have h := run_endRound (P := P) j dl
        refine ⟨_, ?_, rfl, dl, World.putObj_heap_same (Array.getElem?_eq_some_iff.1 dl).1, (World.putObj_heap_other (by omega)).trans dd⟩
        rw [hR] at h ⊢
        exact h
      rintro e a3 D hp
      cases e with
      | normal =>
        obtain ⟨k3, p3, i3⟩ := hp
        obtain ⟨E, hr, hE, dl, el, ed⟩ := fin none D k3
        refine ⟨_, _, hr, .inl ⟨rfl, ⟨?_, el, ed⟩, ?_⟩⟩
        · rw [hE]; exact hI.turned _ i3 (by omega) dl rfl
        · rw [hE]; exact hKt kp (hKt (hKt ck p3) (hKb _ _ _ _ (by omega) dl rfl))
      | ret =>
        obtain ⟨k3, i3⟩ := hp
        obtain ⟨E, hr, hE, dl, el, ed⟩ := fin (some .ret) D k3
        exact ⟨_, _, hr, .inr ⟨rfl, .ret, by rw [hE]; exact (hIx _).turned _ i3 (by omega) dl rfl, el, ed⟩⟩
      | exit id =>
        obtain ⟨k3, i3⟩ := hp
        obtain ⟨E, hr, hE, dl, el, ed⟩ := fin (some (.exit id)) D k3
        exact ⟨_, _, hr, .inr ⟨rfl, .exit id, by rw [hE]; exact (hIx _).turned _ i3 (by omega) dl rfl, el, ed⟩⟩
      | goto t =>
        obtain ⟨k3, i3⟩ := hp
        obtain ⟨E, hr, hE, dl, el, ed⟩ := fin (some (.goto t)) D k3
        exact ⟨_, _, hr, .inr ⟨rfl, .goto t, by rw [hE]; exact (hIx _).turned _ i3 (by omega) dl rfl, el, ed⟩⟩
      | panic ch => exact hp.elim
      | outgrown => exact hp.elim
    · rintro e B ⟨⟨v, rfl⟩, (⟨xs, hS, bi, bl, bd⟩ | ⟨pre, hSp, c, bi, bl, bd⟩)⟩
      · refine ⟨none, _, by have h := run_endLoop (P := P) bl (by rw [hR]; simp); rw [hR] at h; exact h, hdone _ xs _ (Nat.le_refl _) hS (hI.turned _ bi (by omega) bl rfl) ((World.putObj_heap_other (by omega)).trans bd)⟩
      · refine ⟨some c, _, by have h := run_endLoop (P := P) bl (by rw [hR]; simp); rw [hR] at h; exact h, hstop _ c pre _ (Nat.le_refl _) hSp ((hIx c).turned _ bi (by omega) bl rfl) ((World.putObj_heap_other (by omega)).trans bd)⟩
end Go.Proofs.Ytnbmccfaomhppaa
