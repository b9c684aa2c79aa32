/- The document's Apply of a batch, for every store and batch and in every world. -/
import Derived.Test.YteccahggahpeeaaDocD15
import Derived.Test.YteccahggahpeeaaMDocA15
import Derived.RegionTactic
import Derived.BigRegion
namespace Go.Proofs.Yteccahggahpeeaa
open Go.RowKit

/-- Elements that lie in a block of a kind. -/
def ElsO {α : Type} (E : Elt α) (P : Nat → Prop) (B : Nat) (w : World) (a : Option Addr) (l : List α) : Prop :=
  E.cells l = [] ∨ ∃ b off, a = some ⟨b, off, none⟩ ∧ P b ∧ b < B ∧ ∀ j u, (E.cells l)[j]? = some u → w.cell? ⟨b, off + j, none⟩ = some u
theorem ElsO.els {α : Type} {E : Elt α} {P : Nat → Prop} {B : Nat} {w : World} {a : Option Addr} {l : List α} (h : ElsO E P B w a l) : Els E 0 B w a l := by
  rcases h with h | ⟨b, off, ha, _, hB, hc⟩
  · exact Or.inl h
  · exact Or.inr ⟨b, off, ha, Nat.zero_le _, hB, hc⟩
theorem Els.o {α : Type} {E : Elt α} {P : Nat → Prop} {A B : Nat} {w : World} {a : Option Addr} {l : List α} (h : Els E A B w a l) (hp : ∀ b, A ≤ b → b < B → P b) : ElsO E P B w a l := by
  rcases h with h | ⟨b, off, ha, hA, hB, hc⟩
  · exact Or.inl h
  · exact Or.inr ⟨b, off, ha, hp b hA hB, hB, hc⟩
theorem ElsO.step {α : Type} {E : Elt α} {P : Nat → Prop} {w w' : World} {a : Option Addr} {l : List α} (h : ElsO E P w.heap.size w a l) (hb : Below w.heap.size w w') : ElsO E P w'.heap.size w' a l := by
  rcases h with h | ⟨b, off, ha, hA, hB, hc⟩
  · exact Or.inl h
  · exact Or.inr ⟨b, off, ha, hA, Nat.lt_of_lt_of_le hB hb.size, fun j u hj => (hb.cell (p := ⟨b, off + j, none⟩) hB).trans (hc j u hj)⟩
theorem ElsO.set {α : Type} {E : Elt α} {P : Nat → Prop} {w : World} {a : Option Addr} {l : List α} (h : ElsO E P w.heap.size w a l) {p : Addr} (hp : ¬ P p.block) (v : Value) : ElsO E P (w.setCell p v).heap.size (w.setCell p v) a l := by
  rcases h with h | ⟨b, off, ha, hA, hB, hc⟩
  · exact Or.inl h
  · refine Or.inr ⟨b, off, ha, hA, by rw [World.size_setCell]; exact hB, fun j u hj => ?_⟩
    rw [World.cell?_setCell_other w p ⟨b, off + j, none⟩ v (fun e => by subst e; exact hp hA)]
    exact hc j u hj
def apE (n : Nat) (cs : List Cl15) (l : List Op15) : Int := if fineC n cs then appEC n cs l else 40
def apN (n : Nat) (cs : List Cl15) (l : List Op15) : Nat := if fineC n cs then appNC n cs l else 0
def apV (n : Nat) (cs : List Cl15) (l : List Op15) : List Cl15 := if apE n cs l = 0 then appVC cs l else []
def apT (n : Nat) (cs : List Cl15) (l : List Op15) : Nat := if apE n cs l = 0 then n else 0
theorem appEC_cons (n : Nat) (cs : List Cl15) (o : Op15) (l : List Op15) : appEC n cs (o :: l) = if wrongC n cs o ≠ 0 then wrongC n cs o else appEC n (doesC o false cs) l := rfl
theorem appNC_cons (n : Nat) (cs : List Cl15) (o : Op15) (l : List Op15) : appNC n cs (o :: l) = if wrongC n cs o ≠ 0 then 0 else appNC n (doesC o false cs) l + 1 := rfl
theorem drop_op (l : List Op15) (k : Nat) (h : k < l.length) : l.drop k = opAt l k :: l.drop (k + 1) := by
  have h2 := opAt_get h
  rw [List.getElem?_eq_getElem h] at h2
  rw [List.drop_eq_getElem_cons h, Option.some.inj h2]
/-- A batch under way: what is still to be told. -/
structure Going (n : Nat) (cs0 : List Cl15) (l : List Op15) (i : Nat) (cs : List Cl15) : Prop where
  err : appEC n cs0 l = appEC n cs (l.drop i)
  num : appNC n cs0 l = i + appNC n cs (l.drop i)
  val : appVC cs0 l = appVC cs (l.drop i)
  len : cs.length ≤ cs0.length + i
theorem Going.start (n : Nat) (cs : List Cl15) (l : List Op15) : Going n cs l 0 cs := ⟨rfl, by simp, rfl, by omega⟩
theorem Going.next {n : Nat} {cs0 cs : List Cl15} {l : List Op15} {i : Nat} (h : Going n cs0 l i cs) (hi : i < l.length) (hw : wrongC n cs (opAt l i) = 0) : Going n cs0 l (i + 1) (doesC (opAt l i) false cs) := by
  have h1 := h.err
  have h2 := h.num
  have h3 := h.val
  rw [drop_op l i hi] at h1 h2 h3
  rw [appEC_cons, if_neg (by simpa using hw)] at h1
  rw [appNC_cons, if_neg (by simpa using hw)] at h2
  have := len_doesC (opAt l i) cs false
  simp at this
  exact ⟨h1, by rw [h2]; omega, h3, by have := h.len; omega⟩
theorem Going.stop {n : Nat} {cs0 cs : List Cl15} {l : List Op15} {i : Nat} (h : Going n cs0 l i cs) (hi : i < l.length) (hw : wrongC n cs (opAt l i) ≠ 0) : appEC n cs0 l = wrongC n cs (opAt l i) ∧ appNC n cs0 l = i := by
  have h1 := h.err
  have h2 := h.num
  rw [drop_op l i hi] at h1 h2
  rw [appEC_cons, if_pos hw] at h1
  rw [appNC_cons, if_pos hw] at h2
  exact ⟨h1, by omega⟩
theorem Going.done {n : Nat} {cs0 cs : List Cl15} {l : List Op15} (h : Going n cs0 l l.length cs) : appEC n cs0 l = 0 ∧ appNC n cs0 l = l.length ∧ appVC cs0 l = cs := by
  have h1 := h.err
  have h2 := h.num
  have h3 := h.val
  rw [List.drop_length] at h1 h2 h3
  exact ⟨h1, by rw [h2]; rfl, h3⟩
/-- The store's box, and the place of what is told. -/
structure Ap15 (w : World) (n : Nat) (a : Option Addr) (c : Nat) (cs : List Cl15) (W : World) : Prop where
  old : Below w.heap.size w W
  sto : W.heap[w.heap.size]? = some (.cells #[.int .i64 n, .slice a cs.length c] 32 (0, 0))
  res : W.heap[w.heap.size + 1]? = some (.cells #[.int .i64 0, .slice none 0 0] 32 (0, 0))
  els : ElsO clE (fun b => b ≠ w.heap.size ∧ b ≠ w.heap.size + 1) W.heap.size W a cs
  cap : cs.length ≤ c
theorem Ap15.step {w : World} {n : Nat} {a : Option Addr} {c : Nat} {cs : List Cl15} {W V : World} (h : Ap15 w n a c cs W) (hb : Below W.heap.size W V) : Ap15 w n a c cs V :=
  ⟨h.old.trans (hb.mono h.old.size), old_obj hb h.sto, old_obj hb h.res, h.els.step hb, h.cap⟩
theorem Ap15.start {w : World} {n : Nat} {a : Option Addr} {c : Nat} {cs : List Cl15} (h : Els clE 0 w.heap.size w a cs) (hc : cs.length ≤ c) : Ap15 w n a c cs ((w.alloc (.cells #[.int .i64 n, .slice a cs.length c] 32)).alloc (.cells #[.int .i64 0, .slice none 0 0] 32)) := by
  have hb : Below w.heap.size w ((w.alloc (.cells #[.int .i64 n, .slice a cs.length c] 32)).alloc (.cells #[.int .i64 0, .slice none 0 0] 32)) := ((Below.refl _ w).alloc (Nat.le_refl _) _).alloc (by simp) _
  exact ⟨hb, heap_alloc2_old w _ _, heap_alloc2_new w _ _, (h.o (fun b _ hb => by omega)).step hb, hc⟩
theorem Ap15.facts {w : World} {n : Nat} {a : Option Addr} {c : Nat} {cs : List Cl15} {W : World} (h : Ap15 w n a c cs W) : W.cell? ⟨w.heap.size, 0, none⟩ = some (.int .i64 n) ∧ W.cell? ⟨w.heap.size, 1, none⟩ = some (.slice a cs.length c) ∧ W.frozen? ⟨w.heap.size, 0, none⟩ = false ∧ W.frozen? ⟨w.heap.size, 1, none⟩ = false :=
  ⟨cell_of h.sto rfl, cell_of h.sto rfl, frozen_of_row _ _ 0 _ _ h.sto, frozen_of_row _ _ 1 _ _ h.sto⟩
theorem Ap15.facts2 {w : World} {n : Nat} {a : Option Addr} {c : Nat} {cs : List Cl15} {W : World} (h : Ap15 w n a c cs W) : W.cell? ⟨w.heap.size + 1, 0, none⟩ = some (.int .i64 0) ∧ W.cell? ⟨w.heap.size + 1, 1, none⟩ = some (.slice none 0 0) ∧ W.frozen? ⟨w.heap.size + 1, 0, none⟩ = false ∧ W.frozen? ⟨w.heap.size + 1, 1, none⟩ = false :=
  ⟨cell_of h.res rfl, cell_of h.res rfl, frozen_of_row _ _ 0 _ _ h.res, frozen_of_row _ _ 1 _ _ h.res⟩
theorem Ap15.put {w : World} {n : Nat} {a : Option Addr} {c : Nat} {cs : List Cl15} {V : World} (h : Ap15 w n a c cs V) {a' : Option Addr} {c' : Nat} {cs' : List Cl15} {A : Nat} (he : Els clE A V.heap.size V a' cs') (hA : w.heap.size + 2 ≤ A) (hc : cs'.length ≤ c') : Ap15 w n a' c' cs' ((V.setCell ⟨w.heap.size, 0, none⟩ (.int .i64 n)).setCell ⟨w.heap.size, 1, none⟩ (.slice a' cs'.length c')) := by
  refine ⟨two_below14 h.old (Nat.le_refl _) _ _, two_stored14 h.sto _ _, ?_, ((he.o (fun b hb _ => by omega)).set (by simp) _).set (by simp) _, hc⟩
  rw [heap_set15 _ _ _ _ _ (by omega), heap_set15 _ _ _ _ _ (by omega)]
  exact h.res
theorem st_load {w : World} {g : Nat} {x y : Value} {fr : Nat × Nat} (h : w.heap[g]? = some (.cells #[x, y] 32 fr)) : (loadVar 32 ⟨g, 0, none⟩).run Try.prog w = .ok (.agg #[x, y]) w :=
  run_loadVar_row (P := Try.prog) w g 32 32 #[x, y] fr _ h Try.underlying32 rfl (by kernel_rfl)
theorem results_row_two15 {fn : Func} {p u v : Tmp} {T : TypeId} (h : fn.results = #[.cell p T, .tmp u, .tmp v]) (tmps : Array Value) (w : World) (g : Nat) (x : Value)
    (hp : tmps.getD p undef = .pointer (some ⟨g, 0, none⟩)) (hl : (loadVar T ⟨g, 0, none⟩).run Try.prog w = .ok x w) :
    (results fn tmps).run Try.prog w = .ok (.tuple #[x, tmps.getD u undef, tmps.getD v undef]) w := by
  have hp' : tmps[p]?.getD undef = .pointer (some ⟨g, 0, none⟩) := by simpa using hp
  simp only [results, h]
  simp [Result.andThen, hp', asAddr, hl]
def ApOut (w : World) (e : Ending) (w' : World) (n : Nat) (cs : List Cl15) (N : Nat) (E : Int) : Prop :=
  ∃ a' c', e = .returned (.tuple #[docVal n a' c' cs, .int .i64 N, .int .i64 E]) ∧ cs.length ≤ c' ∧ Els clE 0 w'.heap.size w' a' cs ∧ Below w.heap.size w w'
theorem Ap15.nothing {w : World} {n : Nat} {a : Option Addr} {c : Nat} {cs : List Cl15} {W : World} (h : Ap15 w n a c cs W) (N : Nat) (E : Int) : ApOut w (.returned (.tuple #[.agg #[.int .i64 0, .slice none 0 0], .int .i64 N, .int .i64 E])) ((W.setCell ⟨w.heap.size + 1, 0, none⟩ (.int .i64 0)).setCell ⟨w.heap.size + 1, 1, none⟩ (.slice none 0 0)) 0 [] N E :=
  ⟨none, 0, rfl, Nat.le_refl _, Or.inl rfl, two_below14 h.old (by omega) _ _⟩
theorem Ap15.whole {w : World} {n : Nat} {a : Option Addr} {c : Nat} {cs : List Cl15} {W : World} (h : Ap15 w n a c cs W) (N : Nat) (E : Int) : ApOut w (.returned (.tuple #[docVal n a c cs, .int .i64 N, .int .i64 E])) ((W.setCell ⟨w.heap.size + 1, 0, none⟩ (.int .i64 n)).setCell ⟨w.heap.size + 1, 1, none⟩ (.slice a cs.length c)) n cs N E :=
  ⟨a, c, rfl, h.cap, ((h.els.set (by simp) _).set (by simp) _).els, two_below14 h.old (by omega) _ _⟩
set_option maxRecDepth 100000 in
set_option maxHeartbeats 8000000 in
theorem rapply15_any (n : Nat) (a : Option Addr) (c : Nat) (cs : List Cl15) (la : Option Addr) (lc : Nat) (l : List Op15) (w : World) (h : Els clE 0 w.heap.size w a cs) (hc : cs.length ≤ c) (hl : Els opE 0 w.heap.size w la l) (hcn : n ≤ 100000) (hn : cs.length ≤ 50000) (hll : l.length ≤ 1000) :
    Calls Try.prog 13 #[docVal n a c cs, .slice la l.length lc] w fun e w' => ApOut w e w' (apT n cs l) (apV n cs l) (apN n cs l) (apE n cs l) := by
  have hs0 := Ap15.start (n := n) h hc
  have hck := rcheck15_any n a c cs _ hs0.els.els hcn (by omega)
  have HS := Lib.hid hs0
  have HL := Lib.hid hl
  obtain ⟨c0, c1, _, _⟩ := hs0.facts
  clear h hs0 hl hc
  by_cases hf : ¬ fineC n cs
  · have hq : checkC n cs = 40 := check_bad hf
    have hE : apE n cs l = 40 := by unfold apE; rw [if_neg hf]
    have hN : apN n cs l = 0 := by unfold apN; rw [if_neg hf]
    have hV : apV n cs l = [] := by unfold apV; rw [hE, if_neg (by decide)]
    have hT : apT n cs l = 0 := by unfold apT; rw [hE, if_neg (by decide)]
    rw [hq] at hck
    rw [hE, hN, hV, hT]
    clear hf hq hE hN hV hT
    go_enter Try.func13, Try.ntmps13
    go_wp2_with (go_at_call 20; refine hck.mono ?_; rintro e w2 ⟨rfl, hb⟩; have S2 := Lib.hid (HS.out.step hb); obtain ⟨d0, d1, g0, g1⟩ := S2.out.facts2; clear hb)
    refine bodyPost_ret (results_row_two15 rfl _ _ (w.heap.size + 1) _ rfl (st_load (two_stored14 S2.out.res _ _))) rfl ?_
    exact S2.out.nothing 0 40
  have hf := Decidable.not_not.1 hf
  have hq : checkC n cs = 0 := by unfold checkC; rw [if_pos hf]
  rw [hq] at hck
  have HFE : Hid (apE n cs l = appEC n cs l ∧ apN n cs l = appNC n cs l) := Lib.hid ⟨by unfold apE; rw [if_pos hf], by unfold apN; rw [if_pos hf]⟩
  have HG0 := Lib.hid (Going.start n cs l)
  clear hf hq
  go_enter Try.func13, Try.ntmps13
  go_upto_region 4 with (go_at_call 20; refine hck.mono ?_; rintro e w2 ⟨rfl, hb⟩; have S2 := Lib.hid (HS.out.step hb); clear hb hck)
  clear c0 c1
  go_loopw [7] (fun s7 wr => ∃ (i : Nat) (a' : Option Addr) (c' : Nat) (cs' : List Cl15), s7 = .int .i64 i ∧ i ≤ l.length ∧ Hid (Ap15 w n a' c' cs' wr) ∧ Hid (Going n cs l i cs')) (fun i _ => l.length + 1 - (intOf i).toNat)
  case atStart => exact ⟨0, a, c, cs, rfl, by omega, S2, HG0⟩
  case round =>
    clear S2 HG0
    obtain ⟨i, a', c', cs', rfl, hi, HA, HG⟩ := hrel
    by_cases hlt : i < l.length
    · have i1 : (i : Int) < (l.length : Int) := by omega
      have i3 : (0 : Int) ≤ (i : Int) := by omega
      obtain ⟨b, off, eb, hbb, o0, o1, o2, o3⟩ := ops_at HL.out hlt
      have HOP : Hid (∀ W, Below w.heap.size w W → W.cell? ⟨b, off + i * 4, none⟩ = some (.int .i64 (opAt l i).t) ∧ W.cell? ⟨b, off + i * 4 + 1, none⟩ = some (.int .i64 (opAt l i).k) ∧ W.cell? ⟨b, off + i * 4 + 2, none⟩ = some (.int .i64 (opAt l i).id) ∧ W.cell? ⟨b, off + i * 4 + 3, none⟩ = some (.string (tx (opAt l i).x))) := Lib.hid fun W hW => ⟨(hW.cell (p := ⟨b, off + i * 4, none⟩) hbb).trans o0, (hW.cell (p := ⟨b, off + i * 4 + 1, none⟩) hbb).trans o1, (hW.cell (p := ⟨b, off + i * 4 + 2, none⟩) hbb).trans o2, (hW.cell (p := ⟨b, off + i * 4 + 3, none⟩) hbb).trans o3⟩
      have hlen := HG.out.len
      have HWR : Hid (∀ W, Ap15 w n a' c' cs' W → Calls Try.prog 31 #[docVal n a' c' cs', opVal (opAt l i)] W fun e w' => e = .returned (.int .i64 (wrongC n cs' (opAt l i))) ∧ Below W.heap.size W w') := Lib.hid fun W hW => rwrong15_any n a' c' cs' (opAt l i) W hW.els.els (by omega)
      have HDO : Hid (∀ W, Ap15 w n a' c' cs' W → Calls Try.prog 32 #[docVal n a' c' cs', opVal (opAt l i)] W fun e w' => ∃ a2 c2, e = .returned (docVal n a2 c2 (doesC (opAt l i) false cs')) ∧ (doesC (opAt l i) false cs').length ≤ c2 ∧ Els clE W.heap.size w'.heap.size w' a2 (doesC (opAt l i) false cs') ∧ Below W.heap.size W w') := Lib.hid fun W hW => rdoes15_any n a' c' cs' (opAt l i) W hW.els.els (by omega)
      have HNX : Hid (wrongC n cs' (opAt l i) = 0 → Going n cs l (i + 1) (doesC (opAt l i) false cs')) := Lib.hid fun h => HG.out.next hlt h
      have HSP : Hid (wrongC n cs' (opAt l i) ≠ 0 → apE n cs l = wrongC n cs' (opAt l i) ∧ apN n cs l = i) := Lib.hid fun h => by
        obtain ⟨q1, q2⟩ := HG.out.stop hlt h
        rw [HFE.out.1, HFE.out.2]; exact ⟨q1, q2⟩
      subst eb
      clear o0 o1 o2 o3 hbb hlen HG
      generalize opAt l i = o at *
      obtain ⟨E, hE⟩ : ∃ E, wrongC n cs' o = E := ⟨_, rfl⟩
      obtain ⟨ds, hds⟩ : ∃ ds, doesC o false cs' = ds := ⟨_, rfl⟩
      rw [hE] at HWR HNX HSP
      rw [hds] at HDO HNX
      clear hE hds
      go_upto_region 6 with fail
      go_cut [8] (fun s8 wx => ∃ V : World, wx = V ∧ s8 = .int .i64 E ∧ Hid (Ap15 w n a' c' cs' V))
      case first =>
        have AD := Lib.hid (HA.out.step (Below.refl _ wr).drew)
        obtain ⟨p0, p1, _, _⟩ := HA.out.facts
        obtain ⟨o0, o1, o2, o3⟩ := HOP.out wr HA.out.old
        obtain ⟨p0', p1', _, _⟩ := AD.out.facts
        obtain ⟨o0', o1', o2', o3'⟩ := HOP.out _ AD.out.old
        have hw := HWR.out _ AD.out
        go_region_held3 (fun v => v.cell? ⟨w.heap.size, 0, none⟩ = some (.int .i64 n) ∧ v.cell? ⟨w.heap.size, 1, none⟩ = some (.slice a' cs'.length c') ∧ v.cell? ⟨b, off + i * 4, none⟩ = some (.int .i64 o.t) ∧ v.cell? ⟨b, off + i * 4 + 1, none⟩ = some (.int .i64 o.k) ∧ v.cell? ⟨b, off + i * 4 + 2, none⟩ = some (.int .i64 o.id) ∧ v.cell? ⟨b, off + i * 4 + 3, none⟩ = some (.string (tx o.x))) (first | assumption | go_keep)
          (first
            | (go_at_call 31; refine hw.mono ?_; rintro e w3 ⟨rfl, hb⟩; have A3 := Lib.hid (AD.out.step hb); obtain ⟨r0, r1, _, _⟩ := A3.out.facts; obtain ⟨s0, s1, s2, s3⟩ := HOP.out _ A3.out.old; have hS3 := And.intro r0 (And.intro r1 (And.intro s0 (And.intro s1 (And.intro s2 s3)))); clear hb)
            | fail)
        all_goals (
          go_wp2_with fail
          go_meet
          exact ⟨_, rfl, rfl, A3⟩)
      case rest =>
        obtain ⟨V, hV, rfl, A3⟩ := hcut
        rw [hV]
        clear hV HA
        by_cases hE : ¬ E = 0
        · have d1 : (E != 0) = true := by rw [bne_iff_ne]; exact hE
          have HR := Lib.hid (HSP.out hE)
          have HR2 : Hid (apV n cs l = [] ∧ apT n cs l = 0) := Lib.hid ⟨by unfold apV; rw [HR.out.1, if_neg hE], by unfold apT; rw [HR.out.1, if_neg hE]⟩
          obtain ⟨d0, d1', g0, g1⟩ := A3.out.facts2
          clear hE
          go_wp2
          refine bodyPost_ret (results_row_two15 rfl _ _ (w.heap.size + 1) _ rfl (st_load (two_stored14 A3.out.res _ _))) rfl ?_
          rw [HR.out.1, HR.out.2, HR2.out.1, HR2.out.2]
          exact A3.out.nothing i E
        · have hE := Decidable.not_not.1 hE
          have d1 : (E != 0) = false := by rw [hE]; rfl
          have HN := Lib.hid (HNX.out hE)
          clear hE
          have AD := Lib.hid (A3.out.step (Below.refl _ V).drew)
          obtain ⟨p0, p1, p2, p3⟩ := A3.out.facts
          obtain ⟨o0, o1, o2, o3⟩ := HOP.out V A3.out.old
          have hd := HDO.out _ AD.out
          go_upto_region 9 with fail
          go_region_with ((go_at_call 32; refine hd.mono ?_; rintro e v1 ⟨a2, c2, rfl, hc2, he2, hb⟩; have A4 := Lib.hid (AD.out.step hb); have HE4 := Lib.hid (And.intro hc2 he2); obtain ⟨t0, t1, f0, f1⟩ := A4.out.facts; clear hc2 he2 hb))
          all_goals
            have HF := Lib.hid (A4.out.put HE4.out.2 (obj_lt AD.out.res) HE4.out.1)
            clear t0 t1 f0 f1 A4 HE4 p0 p1 p2 p3 o0 o1 o2 o3
            go_wp2
            go_roundw
            case rel => exact ⟨i + 1, a2, c2, ds, by first | rfl | go_num, by omega, HF, HN⟩
            case measure => first | (simp [intOf]; omega) | simp [intOf]
    · obtain rfl : i = l.length := by omega
      obtain ⟨z1, z2, z3⟩ := HG.out.done
      have HR : Hid (apE n cs l = 0 ∧ apN n cs l = l.length ∧ apV n cs l = cs' ∧ apT n cs l = n) := Lib.hid (by
        have e1 : apE n cs l = 0 := by rw [HFE.out.1]; exact z1
        exact ⟨e1, by rw [HFE.out.2]; exact z2, by unfold apV; rw [if_pos e1]; exact z3, by unfold apT; rw [if_pos e1]⟩)
      obtain ⟨p0, p1, _, _⟩ := HA.out.facts
      obtain ⟨d0, d1, g0, g1⟩ := HA.out.facts2
      clear z1 z2 z3
      go_wp2
      refine bodyPost_ret (results_row_two15 rfl _ _ (w.heap.size + 1) _ rfl (st_load (two_stored14 HA.out.res _ _))) rfl ?_
      rw [HR.out.1, HR.out.2.1, HR.out.2.2.1, HR.out.2.2.2]
      exact HA.out.whole l.length 0
end Go.Proofs.Yteccahggahpeeaa
