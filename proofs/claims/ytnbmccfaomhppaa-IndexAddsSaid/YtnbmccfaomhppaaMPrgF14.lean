/- The program's Drop, for every index and in every world. -/
import Derived.Test.YtnbmccfaomhppaaPrgC14
import Derived.Test.YtnbmccfaomhppaaPrgE14
import Derived.Test.YtnbmccfaomhppaaWant14
namespace Go.Proofs.Ytnbmccfaomhppaa
open Go.RowKit

/-- Under way: the index in its box, and the place of what is told. -/
structure Ad14 (w : World) (ka : Option Addr) (kc : Nat) (ia : Option Addr) (ic : Nat) (K : List (List UInt8)) (I : List (List Int)) (W : World) : Prop where
  old : Below w.heap.size w W
  ix : IxV W ka kc ia ic K I
  src : W.heap[w.heap.size]? = some (.cells #[.slice ka K.length kc, .slice ia I.length ic] 25 (0, 0))
  res : W.heap[w.heap.size + 1]? = some (.cells #[.slice none 0 0, .slice none 0 0] 25 (0, 0))
theorem Ad14.step {w : World} {ka : Option Addr} {kc : Nat} {ia : Option Addr} {ic : Nat} {K : List (List UInt8)} {I : List (List Int)} {W V : World} (h : Ad14 w ka kc ia ic K I W) (hb : Below W.heap.size W V) : Ad14 w ka kc ia ic K I V :=
  ⟨h.old.trans (hb.mono h.old.size), h.ix.step hb, old_obj hb h.src, old_obj hb h.res⟩
theorem Ad14.start {w : World} {ka : Option Addr} {kc : Nat} {ia : Option Addr} {ic : Nat} {K : List (List UInt8)} {I : List (List Int)} (h : IxV w ka kc ia ic K I) : Ad14 w ka kc ia ic K I ((w.alloc (.cells #[.slice ka K.length kc, .slice ia I.length ic] 25)).alloc (.cells #[.slice none 0 0, .slice none 0 0] 25)) := by
  have hb : Below w.heap.size w ((w.alloc (.cells #[.slice ka K.length kc, .slice ia I.length ic] 25)).alloc (.cells #[.slice none 0 0, .slice none 0 0] 25)) := ((Below.refl _ w).alloc (Nat.le_refl _) _).alloc (by simp) _
  exact ⟨hb, h.step hb, heap_alloc2_old w _ _, heap_alloc2_new w _ _⟩
theorem Ad14.facts {w : World} {ka : Option Addr} {kc : Nat} {ia : Option Addr} {ic : Nat} {K : List (List UInt8)} {I : List (List Int)} {W : World} (h : Ad14 w ka kc ia ic K I W) :
    W.cell? ⟨w.heap.size, 0, none⟩ = some (.slice ka K.length kc) ∧ W.cell? ⟨w.heap.size, 1, none⟩ = some (.slice ia I.length ic) := ⟨cell_of h.src rfl, cell_of h.src rfl⟩
theorem Ad14.facts2 {w : World} {ka : Option Addr} {kc : Nat} {ia : Option Addr} {ic : Nat} {K : List (List UInt8)} {I : List (List Int)} {W : World} (h : Ad14 w ka kc ia ic K I W) :
    W.cell? ⟨w.heap.size + 1, 0, none⟩ = some (.slice none 0 0) ∧ W.cell? ⟨w.heap.size + 1, 1, none⟩ = some (.slice none 0 0) ∧ W.frozen? ⟨w.heap.size + 1, 0, none⟩ = false ∧ W.frozen? ⟨w.heap.size + 1, 1, none⟩ = false :=
  ⟨cell_of h.res rfl, cell_of h.res rfl, frozen_of_row _ _ 0 _ _ h.res, frozen_of_row _ _ 1 _ _ h.res⟩
theorem ix_load {w : World} {g : Nat} {x y : Value} {fr : Nat × Nat} (h : w.heap[g]? = some (.cells #[x, y] 25 fr)) : (loadVar 25 ⟨g, 0, none⟩).run Try.prog w = .ok (.agg #[x, y]) w :=
  run_loadVar_row (P := Try.prog) w g 25 25 #[x, y] fr _ h Try.underlying25 rfl (by kernel_rfl)
/-- What is told together with an error. -/
theorem Ad14.wrong {w : World} {ka : Option Addr} {kc : Nat} {ia : Option Addr} {ic : Nat} {K : List (List UInt8)} {I : List (List Int)} {W : World} (h : Ad14 w ka kc ia ic K I W) {E : Int} (hE : E ≠ 0) (l : List Pr) :
    IxOut w (.returned (.tuple #[.agg #[.slice none 0 0, .slice none 0 0], .int .i64 E])) ((W.setCell ⟨w.heap.size + 1, 0, none⟩ (.slice none 0 0)).setCell ⟨w.heap.size + 1, 1, none⟩ (.slice none 0 0)) E l :=
  ⟨none, 0, none, 0, [], [], rfl, ⟨Or.inl rfl, Or.inl rfl, Nat.le_refl _, Nat.le_refl _⟩, Or.inl rfl, ⟨by simp, by simp, by simp [sumK]⟩, fun e => absurd e hE, fun _ => rfl, two_below14 h.old (by omega) _ _⟩
theorem Ix2.set {g A : Nat} {w : World} {ka : Option Addr} {kc : Nat} {ia : Option Addr} {ic : Nat} {K : List (List UInt8)} {I : List (List Int)} {cs : List Value} (h : Ix2 g A w ka kc ia ic K I cs) (hA : g + 2 ≤ A) (o : Nat) (u : Value) : Ix2 g A (w.setCell ⟨g + 1, o, none⟩ u) ka kc ia ic K I cs :=
  ⟨h.keys.set14 (by simp; omega) u, h.row.set14 (by simp; omega) u, h.ls.set (p := ⟨g + 1, o, none⟩) (by unfold Off; simp) u, h.kcap, h.icap⟩
/-- What is told of an index that was put. -/
theorem Ad14.right {w : World} {ka : Option Addr} {kc : Nat} {ia : Option Addr} {ic : Nat} {K : List (List UInt8)} {I : List (List Int)} {W V : World} (h : Ad14 w ka kc ia ic K I W) {ka' : Option Addr} {kc' : Nat} {ia' : Option Addr} {ic' : Nat} {K' : List (List UInt8)} {I' : List (List Int)} {cs' : List Value} (h2 : Ix2 w.heap.size W.heap.size V ka' kc' ia' ic' K' I' cs') (hb : Below W.heap.size W V) {l : List Pr} (hp : pairsO K' I' = true ∧ pairsV K' I' = l ∧ Small14 K' I') :
    IxOut w (.returned (.tuple #[ixVal ka' kc' ia' ic' K' I', .int .i64 0])) ((V.setCell ⟨w.heap.size + 1, 0, none⟩ (.slice ka' K'.length kc')).setCell ⟨w.heap.size + 1, 1, none⟩ (.slice ia' I'.length ic')) 0 l := by
  have hsz : w.heap.size + 2 ≤ W.heap.size := obj_lt h.res
  obtain ⟨q1, q2⟩ := ((h2.set hsz 0 (.slice ka' K'.length kc')).set hsz 1 (.slice ia' I'.length ic')).ixv
  exact ⟨ka', kc', ia', ic', K', I', rfl, q1, q2.wide (by omega) (Nat.le_refl _), hp.2.2, fun _ => ⟨hp.1, hp.2.1⟩, fun e => absurd rfl e, two_below14 (h.old.trans (hb.mono h.old.size)) (by omega) _ _⟩
theorem rw_intsO {P : Nat → Prop} {A B : Nat} {w : World} {a : Option Addr} {l : List Int} (h : Rw A B w a (intCells l)) (hP : ∀ b, A ≤ b → P b) : IntsO P B w a l := by
  rcases h with h | ⟨b, off, ha, hA, hB, hc⟩
  · left
    have := congrArg List.length h
    rw [intCells_len] at this
    exact List.length_eq_zero_iff.1 this
  · exact Or.inr ⟨b, off, ha, hP b hA, hB, fun j hj => hc j _ (intCells_at l j hj)⟩
theorem intCells_less (l : List Int) (p : Nat) : less13 (intCells l) p = intCells (less13 l p) := by
  unfold less13 intCells
  rw [List.map_append, List.map_take, List.map_drop]
/-- A number that stands under a text is dropped. -/
theorem drop_put {K : List (List UInt8)} {I : List (List Int)} {s : List UInt8} {n : Int} {K' : List (List UInt8)} {I' : List (List Int)} (hf : fineK K I) (hs : sumK I ≤ 2000) {p : Nat} (hp : p < (ofP (pairsK K I) s).length) (hn : numAt (ofP (pairsK K I) s) p = n) (h : PutTo K I s (less13 (ofP (pairsK K I) s) p) K' I') :
    pairsO K' I' = true ∧ pairsV K' I' = dropP (pairsK K I) (s, n) ∧ Small14 K' I' := by
  have hr := rises_of hf s
  obtain ⟨h1, h2, h3, h4, h5⟩ := h.pairs (P := dropP (pairsK K I) (s, n)) (srt_dropP (fine_ix hf).srt) (fun t m => by
    rw [mem_dropP, mem_less hr hp, hn, mem_ofP]
    constructor
    · rintro ⟨q1, q2⟩
      by_cases e : t = s
      · exact Or.inl ⟨e, by rw [← e]; exact q1, fun e2 => q2 (by rw [e, e2])⟩
      · exact Or.inr ⟨q1, e⟩
    · rintro (⟨e, q1, q2⟩ | ⟨q1, e⟩)
      · exact ⟨by rw [e]; exact q1, fun e2 => by injection e2 with _ e3; exact q2 e3⟩
      · exact ⟨q1, fun e2 => by injection e2 with e3 _; exact e e3⟩) (by
    have := drop_len (pairsK K I) (s, n)
    rw [len_pairsK hf.2.1] at this
    omega)
  exact ⟨h1, h2, h3, h4, h5⟩
theorem of_bound {K : List (List UInt8)} {I : List (List Int)} (hf : fineK K I) (hs : sumK I ≤ 2000) (s : List UInt8) : (ofP (pairsK K I) s).length ≤ 2000 := by
  have := of_len (pairsK K I) s
  rw [len_pairsK hf.2.1] at this
  omega
theorem ok_split (K : List (List UInt8)) (I : List (List Int)) : (pairsO K I = true ∧ fineK K I ∧ sumK I ≤ 2000 ∧ pairsV K I = pairsK K I) ∨ pairsO K I = false := by
  cases h : pairsO K I with
  | false => exact Or.inr rfl
  | true =>
    have hf : fineK K I ∧ sumK I ≤ 2000 := of_decide_eq_true h
    exact Or.inl ⟨rfl, hf.1, hf.2, (pairs_fine hf.1).1⟩
set_option maxRecDepth 100000 in
set_option maxHeartbeats 4000000 in
theorem pdrop14_any (ka : Option Addr) (kc : Nat) (ia : Option Addr) (ic : Nat) (K : List (List UInt8)) (I : List (List Int)) (s : List UInt8) (n : Int) (w : World) (hx : IxV w ka kc ia ic K I) (hs : Small14 K I) :
    Calls Try.prog 19 #[ixVal ka kc ia ic K I, .string (tx s), .int .i64 n] w fun e w' => IxOut w e w' (okE (pairsO K I) (dropE (pairsV K I) (s, n))) (dropP (pairsV K I) (s, n)) := by
  have A0 := Ad14.start hx
  have hck := pcheck14_any ka kc ia ic K I _ A0.ix hs
  have HA := Lib.hid A0
  obtain ⟨c0, c1⟩ := A0.facts
  have HS := Lib.hid hs
  clear hx hs A0
  rcases ok_split K I with ⟨hok, hf, h2, hpv⟩ | hok
  · rw [hok] at hck ⊢
    rw [hpv]
    have HF := Lib.hid (And.intro hf (And.intro h2 (And.intro hok hpv)))
    have HOF : Hid (∀ W, Ad14 w ka kc ia ic K I W → Calls Try.prog 11 #[ixVal ka kc ia ic K I, .string (tx s)] W fun e w' => ∃ a c, e = .returned (.slice a (ofP (pairsK K I) s).length c) ∧ (ofP (pairsK K I) s).length ≤ c ∧ Rw W.heap.size w'.heap.size w' a (intCells (ofP (pairsK K I) s)) ∧ Below W.heap.size W w') := Lib.hid fun W hW => by
      have := pof14_any ka kc ia ic K I s W hW.ix HS.out
      rw [HF.out.2.2.1, HF.out.2.2.2] at this
      exact this
    have hL := of_bound hf h2 s
    rcases find_rises (rises_of hf s) n with ⟨m1, m2, m3, m4⟩ | ⟨m1, m2, m3⟩
    · have hE := (dropV_in (mem_ofP.1 m1)).2
      have HC : Hid (checkOf s = 0) := Lib.hid (by
        obtain ⟨k, a1, _, a3, _⟩ := mem_pairsK.1 (mem_ofP.1 m1)
        rw [← a3]
        exact row_checks hf.1 a1)
      have HP := Lib.hid (And.intro m3 m4)
      have HR := Lib.hid (rises_of hf s)
      rw [hE]
      unfold okE at hck ⊢
      simp only [if_true] at hck ⊢
      clear hok hf h2 hpv hE m1 m3 m4
      obtain ⟨p, hp⟩ : ∃ p, findN (ofP (pairsK K I) s) n = p := ⟨_, rfl⟩
      rw [hp] at HP
      have HFN := Lib.hid (And.intro hp m2)
      clear hp m2
      have hless : less13 (intCells (ofP (pairsK K I) s)) p = intCells (less13 (ofP (pairsK K I) s) p) := intCells_less _ _
      have HLS := Lib.hid hless
      obtain ⟨D, hD⟩ : ∃ D, dropP (pairsK K I) (s, n) = D := ⟨_, rfl⟩
      have HDP : Hid (∀ K' I', PutTo K I s (less13 (ofP (pairsK K I) s) p) K' I' → pairsO K' I' = true ∧ pairsV K' I' = D ∧ Small14 K' I') := Lib.hid fun K' I' h => by
        rw [← hD]
        exact drop_put HF.out.1 HF.out.2.1 HP.out.1 HP.out.2 h
      have HRL : Hid (Rises (less13 (ofP (pairsK K I) s) p)) := Lib.hid (rises_less HR.out HP.out.1)
      have hll : Hid ((less13 (ofP (pairsK K I) s) p).length ≤ 600000) := Lib.hid (by rw [less_len (ofP (pairsK K I) s) p HP.out.1]; omega)
      rw [hD]
      clear hD hless
      generalize ofP (pairsK K I) s = L at *
      go_enter Try.func19, Try.ntmps19
      go_upto_region 5 with (first
        | (go_at_call 10; refine hck.mono ?_; rintro e w2 ⟨rfl, hb⟩; have A2 := Lib.hid (HA.out.step hb); obtain ⟨d0, d1⟩ := A2.out.facts; clear hb)
        | (go_at_call 11; refine (HOF.out _ A2.out).mono ?_; rintro e w3 ⟨oa, oc, rfl, hoc, ho, hb⟩; have A3 := Lib.hid (A2.out.step hb); have HO := Lib.hid (And.intro hoc (ho.wide (A' := w.heap.size + 2) (by have := obj_lt A2.out.res; omega) (Nat.le_refl _))); clear hoc ho hb))
      clear hck c0 c1 d0 d1
      have hfd := pfind_any oa oc L n w3.heap.size w3 (rw_intsO (P := fun _ => True) HO.out.2 (fun _ _ => trivial)).ints (by omega)
      rw [HFN.out.1, HFN.out.2] at hfd
      go_upto_region 8 with (go_at_call 29; refine hfd.mono ?_; rintro e w4 ⟨rfl, q, rfl⟩)
      have A4 := Lib.hid (A3.out.step (drawn_below (Below.refl _ _) q))
      have HO4 := Lib.hid (Rw.step HO.out.2 (drawn_below (Below.refl _ w3) q))
      obtain ⟨W4, hW4⟩ : ∃ W4, w3.drewN q = W4 := ⟨_, rfl⟩
      rw [hW4] at A4 HO4 ⊢
      clear hW4 hfd A3
      have hcl : (intCells L).length = L.length := intCells_len L
      have hlo := less_ok (l := intCells L) (p := p) (by rw [hcl]; exact HP.out.1)
      have hwt := pless_in oa L.length oc (p : Int) (intCells L) (w.heap.size + 2) W4 hcl HO.out.1 (by omega) HO4.out (intCells_one L)
      rw [hcl] at hlo
      rw [hlo.1, hlo.2, HLS.out] at hwt
      unfold GivesC at hwt
      rw [intCells_len] at hwt
      clear hcl hlo
      obtain ⟨M, hM⟩ : ∃ M, less13 L p = M := ⟨_, rfl⟩
      rw [hM] at hwt HDP HRL hll
      clear hM HLS
      go_upto_region 9 with (go_at_call 32; refine hwt.mono ?_; rintro e w5 ⟨wa, wc, rfl, hwc, hw, hb⟩; have A5 := Lib.hid (A4.out.step hb); have HW5 := Lib.hid (And.intro hwc (rw_intsO (P := Off w.heap.size) hw (fun b hb => by have := obj_lt A4.out.res; unfold Off; omega))); obtain ⟨d0, d1⟩ := A5.out.facts; clear hwc hw hb)
      clear hwt A4 HO4 HO
      have hput := pput14_any ka kc ia ic K I s wa wc M w5 A5.out.ix HS.out HF.out.1 w.heap.size (obj_lt A5.out.res) HW5.out.2 HW5.out.1 hll.out HC.out HRL.out
      go_wp2_with (go_at_call 31; refine hput.mono ?_; rintro e w6 ⟨k6, kc6, i6, ic6, K6, I6, cs6, rfl, hix, hpt, hb⟩; have H6 := Lib.hid (And.intro hix (And.intro hpt hb)); have A6 := Lib.hid (A5.out.step hb); obtain ⟨e0, e1, g0, g1⟩ := A6.out.facts2; clear hix hpt hb)
      refine bodyPost_ret (results_row_slot rfl _ _ (w.heap.size + 1) _ rfl (ix_load (two_stored14 A6.out.res _ _))) rfl ?_
      exact A5.out.right H6.out.1 H6.out.2.2 (HDP.out _ _ H6.out.2.1)
    · have hE := (dropV_out (p := (s, n)) (l := pairsK K I) (fun q => m1 (mem_ofP.2 q))).2
      rw [hE]
      unfold okE at hck ⊢
      simp only [if_true] at hck ⊢
      clear hok hf h2 hpv hE m1
      obtain ⟨p, hp⟩ : ∃ p, findN (ofP (pairsK K I) s) n = p := ⟨_, rfl⟩
      have HFN := Lib.hid (And.intro hp m2)
      clear hp m2 m3
      generalize dropP (pairsK K I) (s, n) = D at *
      generalize ofP (pairsK K I) s = L at *
      go_enter Try.func19, Try.ntmps19
      go_upto_region 5 with (first
        | (go_at_call 10; refine hck.mono ?_; rintro e w2 ⟨rfl, hb⟩; have A2 := Lib.hid (HA.out.step hb); obtain ⟨d0, d1⟩ := A2.out.facts; clear hb)
        | (go_at_call 11; refine (HOF.out _ A2.out).mono ?_; rintro e w3 ⟨oa, oc, rfl, hoc, ho, hb⟩; have A3 := Lib.hid (A2.out.step hb); have HO := Lib.hid (And.intro hoc ho); clear hoc ho hb))
      clear hck c0 c1 d0 d1
      have hfd := pfind_any oa oc L n w3.heap.size w3 (rw_intsO (P := fun _ => True) HO.out.2 (fun _ _ => trivial)).ints (by omega)
      rw [HFN.out.1, HFN.out.2] at hfd
      go_upto_region 7 with (go_at_call 29; refine hfd.mono ?_; rintro e w4 ⟨rfl, q, rfl⟩)
      have A4 := Lib.hid (A3.out.step (drawn_below (Below.refl _ _) q))
      obtain ⟨W4, hW4⟩ : ∃ W4, w3.drewN q = W4 := ⟨_, rfl⟩
      rw [hW4] at A4 ⊢
      clear hW4 hfd A3 HO
      obtain ⟨e0, e1, g0, g1⟩ := A4.out.facts2
      go_wp2
      refine bodyPost_ret (results_row_slot rfl _ _ (w.heap.size + 1) _ rfl (ix_load (two_stored14 A4.out.res _ _))) rfl ?_
      exact A4.out.wrong (by decide) D
  · rw [hok] at hck ⊢
    unfold okE at hck ⊢
    simp only [Bool.false_eq_true, if_false] at hck ⊢
    clear hok
    generalize dropP (pairsV K I) (s, n) = D at *
    go_enter Try.func19, Try.ntmps19
    go_wp2_with (go_at_call 10; refine hck.mono ?_; rintro e w2 ⟨rfl, hb⟩; have A2 := Lib.hid (HA.out.step hb); obtain ⟨e0, e1, g0, g1⟩ := A2.out.facts2; clear hb)
    refine bodyPost_ret (results_row_slot rfl _ _ (w.heap.size + 1) _ rfl (ix_load (two_stored14 A2.out.res _ _))) rfl ?_
    exact A2.out.wrong (by decide) D
end Go.Proofs.Ytnbmccfaomhppaa
namespace Go.Proofs.Ytnbmccfaomhppaa
open Go.RowKit

theorem intCells_with (l : List Int) (p : Nat) (n : Int) : with13 (intCells l) p (.int .i64 n) = intCells (with13 l p n) := by
  unfold with13 intCells
  rw [List.map_append, List.map_cons, List.map_take, List.map_drop]
/-- Under way: what is added so far, and the numbers of the text. -/
structure Under14 (s : List UInt8) (P : List Pr) (ns : List Int) (k : Nat) (m : List Pr) (L : List Int) (c : Nat) : Prop where
  add : Adding s P ns k m
  srt : Srt m
  nums : L = ofP m s
  rises : Rises L
  cnt : c = m.length
  most : c ≤ 2000
theorem Under14.start {s : List UInt8} {K : List (List UInt8)} {I : List (List Int)} {ns : List Int} (hf : fineK K I) (h2 : sumK I ≤ 2000) : Under14 s (pairsK K I) ns 0 (pairsK K I) (ofP (pairsK K I) s) (pairsK K I).length :=
  ⟨⟨rfl, rfl, rfl⟩, (fine_ix hf).srt, rfl, rises_of hf s, rfl, by rw [len_pairsK hf.2.1]; exact h2⟩
theorem Under14.more {s : List UInt8} {P m : List Pr} {ns L : List Int} {k c : Nat} (h : Under14 s P ns k m L c) (hk : k < ns.length) (h1 : 1 ≤ numAt ns k ∧ numAt ns k ≤ 999999) (hn : numAt ns k ∉ L) (hc : c ≠ 2000) :
    Under14 s P ns (k + 1) (insP m (s, numAt ns k)) (with13 L (lowTo L (numAt ns k) L.length) (numAt ns k)) (c + 1) := by
  obtain ⟨a1, a2, rfl, a4, rfl, a6⟩ := h
  have hnm : (s, numAt ns k) ∉ m := fun q => hn (mem_ofP.2 q)
  obtain ⟨b1, b2, b3⟩ := of_ins a2 a4 h1 hnm
  refine ⟨a1.next hk (addE_iff.2 ⟨h1, hnm, by omega⟩), b3, b1.symm, by rw [← b1]; exact b2, by rw [len_insP], by omega⟩
theorem Under14.stop {s : List UInt8} {P m : List Pr} {ns L : List Int} {k c : Nat} (h : Under14 s P ns k m L c) (hk : k < ns.length) {E : Int} (he : (if numAt ns k < 1 ∨ 999999 < numAt ns k then (31 : Int) else if numAt ns k ∈ L then 32 else if 2000 ≤ c then 37 else 0) = E) (hE : E ≠ 0) : addsE s P ns = E := by
  refine h.add.stop hk ?_ hE
  rw [← he]
  unfold addE
  rw [h.cnt, h.nums]
  simp only [mem_ofP]
/-- What was added is put. -/
theorem Under14.done {s : List UInt8} {K : List (List UInt8)} {I : List (List Int)} {ns L : List Int} {m : List Pr} {c : Nat} (h : Under14 s (pairsK K I) ns ns.length m L c) {K' : List (List UInt8)} {I' : List (List Int)} (hp : PutTo K I s L K' I') :
    pairsO K' I' = true ∧ pairsV K' I' = addsL s (pairsK K I) ns ∧ Small14 K' I' := by
  obtain ⟨d1, d2⟩ := h.add.done
  obtain ⟨h1, h2, h3, h4, h5⟩ := hp.pairs (P := m) h.srt (fun t n => by
    rw [h.nums, mem_ofP, ← d2, mem_addsL, mem_addsL]
    constructor
    · rintro (q | q)
      · by_cases e : t = s
        · subst e; exact Or.inl ⟨rfl, Or.inl q⟩
        · exact Or.inr ⟨q, e⟩
      · exact Or.inl ⟨q.1, Or.inr ⟨rfl, q.2⟩⟩
    · rintro (⟨rfl, q | q⟩ | q)
      · exact Or.inl q
      · exact Or.inr q
      · exact Or.inl q.1) (by have := h.cnt; have := h.most; omega)
  exact ⟨h1, by rw [h2, d2], h3, h4, h5⟩
set_option maxRecDepth 100000 in
set_option maxHeartbeats 8000000 in
theorem padd14_any (ka : Option Addr) (kc : Nat) (ia : Option Addr) (ic : Nat) (K : List (List UInt8)) (I : List (List Int)) (s : List UInt8) (b : Option Addr) (bc : Nat) (ns : List Int) (w : World) (hx : IxV w ka kc ia ic K I) (hs : Small14 K I) (hi : Ints w.heap.size w b ns) (hns : ns.length ≤ 1000) :
    Calls Try.prog 18 #[ixVal ka kc ia ic K I, .string (tx s), .slice b ns.length bc] w fun e w' => IxOut w e w' (okE (pairsO K I) (addsX s (pairsV K I) ns)) (addsL s (pairsV K I) ns) := by
  have A0 := Ad14.start hx
  have hck := pcheck14_any ka kc ia ic K I _ A0.ix hs
  have HA := Lib.hid A0
  obtain ⟨c0, c1⟩ := A0.facts
  have HS := Lib.hid hs
  have HI := Lib.hid hi
  clear hx hs A0 hi
  rcases ok_split K I with ⟨hok, hf, h2, hpv⟩ | hok
  · rw [hok] at hck ⊢
    rw [hpv]
    have HF := Lib.hid (And.intro hf (And.intro h2 (And.intro hok hpv)))
    have hsc := fun W => check_any (tx s) W
    rw [show (tx s).data.toList = s from tx_list s] at hsc
    have HSC := Lib.hid hsc
    have hpl : (pairsK K I).length ≤ 2000 := by rw [len_pairsK hf.2.1]; exact h2
    have H0 := Lib.hid (Under14.start (s := s) (ns := ns) hf h2)
    clear hok hf h2 hpv hsc
    unfold okE at hck ⊢
    simp only [if_true] at hck ⊢
    by_cases hc : ¬ checkOf s = 0
    · have h9 : checkOf s = 9 := by rcases check_two s with q | q; exact absurd q hc; exact q
      have hE : addsX s (pairsK K I) ns = 9 := by unfold addsX; rw [if_pos hc]
      rw [h9] at HSC
      rw [hE]
      clear hc h9 hE H0
      generalize addsL s (pairsK K I) ns = D at *
      go_enter Try.func18, Try.ntmps18
      go_wp2_with (first
        | (go_at_call 10; refine hck.mono ?_; rintro e w2 ⟨rfl, hb⟩; have A2 := Lib.hid (HA.out.step hb); clear hb)
        | (go_at_call 28; refine (HSC.out _).mono ?_; rintro e w3 ⟨rfl, hb⟩; have A3 := Lib.hid (A2.out.step hb); obtain ⟨e0, e1, g0, g1⟩ := A3.out.facts2; clear hb))
      refine bodyPost_ret (results_row_slot rfl _ _ (w.heap.size + 1) _ rfl (ix_load (two_stored14 A3.out.res _ _))) rfl ?_
      exact A3.out.wrong (by decide) D
    have hc := Decidable.not_not.1 hc
    rw [hc] at HSC
    rw [addsX_on hc]
    have HC := Lib.hid hc
    have HOF : Hid (∀ W, Ad14 w ka kc ia ic K I W → Calls Try.prog 11 #[ixVal ka kc ia ic K I, .string (tx s)] W fun e w' => ∃ a c, e = .returned (.slice a (ofP (pairsK K I) s).length c) ∧ (ofP (pairsK K I) s).length ≤ c ∧ Rw W.heap.size w'.heap.size w' a (intCells (ofP (pairsK K I) s)) ∧ Below W.heap.size W w') := Lib.hid fun W hW => by
      have := pof14_any ka kc ia ic K I s W hW.ix HS.out
      rw [HF.out.2.2.1, HF.out.2.2.2] at this
      exact this
    have HCT : Hid (∀ W, Ad14 w ka kc ia ic K I W → Calls Try.prog 13 #[ixVal ka kc ia ic K I] W fun e w' => e = .returned (.int .i64 (pairsK K I).length) ∧ Below W.heap.size W w') := Lib.hid fun W hW => by
      have := pcount14_any ka kc ia ic K I W hW.ix HS.out
      rw [HF.out.2.2.1, HF.out.2.2.2] at this
      exact this
    have HDN : Hid (∀ (m : List Pr) (L : List Int) (c : Nat), Under14 s (pairsK K I) ns ns.length m L c → ∀ K' I', PutTo K I s L K' I' → pairsO K' I' = true ∧ pairsV K' I' = addsL s (pairsK K I) ns ∧ Small14 K' I') := Lib.hid fun m L c h K' I' hp => h.done hp
    have HZ : Hid (∀ (m : List Pr) (L : List Int) (c : Nat), Under14 s (pairsK K I) ns ns.length m L c → addsE s (pairsK K I) ns = 0) := Lib.hid fun m L c h => h.add.done.1
    obtain ⟨D, hD⟩ : ∃ D, addsL s (pairsK K I) ns = D := ⟨_, rfl⟩
    obtain ⟨E, hE⟩ : ∃ E, addsE s (pairsK K I) ns = E := ⟨_, rfl⟩
    have HE : Hid (∀ (m : List Pr) (L : List Int) (c k : Nat) (E' : Int), Under14 s (pairsK K I) ns k m L c → k < ns.length → (if numAt ns k < 1 ∨ 999999 < numAt ns k then (31 : Int) else if numAt ns k ∈ L then 32 else if 2000 ≤ c then 37 else 0) = E' → E' ≠ 0 → E = E') := Lib.hid fun m L c k E' h hk he hE' => by rw [← hE]; exact h.stop hk he hE'
    rw [hD] at HDN ⊢
    rw [hE] at HZ ⊢
    clear hD hE hc
    obtain ⟨L0, hL0⟩ : ∃ L0, ofP (pairsK K I) s = L0 := ⟨_, rfl⟩
    rw [hL0] at HOF H0
    clear hL0
    obtain ⟨P, hP⟩ : ∃ P, pairsK K I = P := ⟨_, rfl⟩
    rw [hP] at hpl H0 HCT HDN HZ HE
    obtain ⟨C0, hC0⟩ : ∃ C0, P.length = C0 := ⟨_, rfl⟩
    rw [hC0] at H0 HCT
    clear hP hC0 hpl
    go_enter Try.func18, Try.ntmps18
    go_upto_region 7 with (first
      | (go_at_call 10; refine hck.mono ?_; rintro e w2 ⟨rfl, hb⟩; have A2 := Lib.hid (HA.out.step hb); clear hb)
      | (go_at_call 28; refine (HSC.out _).mono ?_; rintro e w3 ⟨rfl, hb⟩; have A3 := Lib.hid (A2.out.step hb); obtain ⟨d0, d1⟩ := A3.out.facts; clear hb))
    clear hck c0 c1 HA A2
    go_cut [10, 11] (fun s10 s11 wx => ∃ (oa : Option Addr) (oc : Nat), s10 = .slice oa L0.length oc ∧ s11 = .int .i64 C0 ∧ Hid (Ad14 w ka kc ia ic K I wx) ∧ Hid (L0.length ≤ oc ∧ Rw (w.heap.size + 2) wx.heap.size wx oa (intCells L0)))
    case first =>
      have AD := Lib.hid (A3.out.step (Below.refl _ w3).drew)
      go_region_held3 (fun v => v.cell? ⟨w.heap.size, 0, none⟩ = some (.slice ka K.length kc) ∧ v.cell? ⟨w.heap.size, 1, none⟩ = some (.slice ia I.length ic)) (first | assumption | go_keep)
        (first
          | (go_at_call 11; refine (HOF.out _ AD.out).mono ?_; rintro e w4 ⟨oa, oc, rfl, hoc, ho, hb⟩; have A4 := Lib.hid (AD.out.step hb); have HO := Lib.hid (And.intro hoc (ho.wide (A' := w.heap.size + 2) (by have := obj_lt AD.out.res; omega) (Nat.le_refl _))); obtain ⟨h0, h1⟩ := A4.out.facts; have hS3 := And.intro h0 h1; clear hoc ho hb)
          | (go_at_call 13; refine (HCT.out _ A4.out).mono ?_; rintro e w5 ⟨rfl, hb⟩; have A5 := Lib.hid (A4.out.step hb); have HO5 := Lib.hid (And.intro HO.out.1 (Rw.step HO.out.2 hb)); obtain ⟨i0, i1⟩ := A5.out.facts; have hS4 := And.intro i0 i1; clear hb))
      all_goals (
        go_wp2_with fail
        go_meet
        exact ⟨oa, oc, rfl, rfl, A5, HO5⟩)
    case rest =>
      obtain ⟨oa, oc, rfl, rfl, A5, HO5⟩ := hcut
      clear A3 d0 d1 HOF HCT
      go_upto_region 9 with fail
      go_loopw [10, 11, 35] (fun s10 s11 s35 wr => ∃ (k : Nat) (m : List Pr) (L : List Int) (c : Nat) (oa : Option Addr) (oc : Nat), s10 = .slice oa L.length oc ∧ s11 = .int .i64 c ∧ s35 = .int .i64 k ∧ k ≤ ns.length ∧ Hid (Under14 s P ns k m L c) ∧ Hid (Ad14 w ka kc ia ic K I wr) ∧ Hid (L.length ≤ oc ∧ L.length ≤ 2000 ∧ Rw (w.heap.size + 2) wr.heap.size wr oa (intCells L))) (fun _ _ i _ => ns.length + 1 - (intOf i).toNat)
      case atStart =>
        refine ⟨0, P, L0, C0, oa, oc, rfl, rfl, rfl, by omega, H0, A5, Lib.hid ⟨HO5.out.1, ?_, HO5.out.2⟩⟩
        have h := H0.out
        rw [h.nums]
        have := of_len P s
        have := h.cnt
        have := h.most
        omega
      case round =>
        clear A5 HO5 H0
        obtain ⟨k, m, L, c, oa, oc, rfl, rfl, rfl, hk, HU, HAr, HO⟩ := hrel
        by_cases hlt : k < ns.length
        · have i1 : (k : Int) < (ns.length : Int) := by omega
          have i3 : (0 : Int) ≤ (k : Int) := by omega
          obtain ⟨nb, noff, en, hnb, hcn⟩ : ∃ nb noff, b = some ⟨nb, noff, none⟩ ∧ nb < w.heap.size ∧ w.cell? ⟨nb, noff + k, none⟩ = some (.int .i64 (numAt ns k)) := by
            rcases HI.out with h | ⟨nb, noff, e, h1, h2⟩
            · exfalso; rw [h] at hlt; simp at hlt
            · exact ⟨nb, noff, e, h1, h2 k hlt⟩
          have cN := (HAr.out.old.cell (p := ⟨nb, noff + k, none⟩) hnb).trans hcn
          have hEk := HE.out m L c k
          have hMk := fun h1 h2 h3 => HU.out.more hlt h1 h2 h3
          have hfr := find_rises HU.out.rises (numAt ns k)
          have hfd := pfind_any oa oc L (numAt ns k) wr.heap.size wr (rw_intsO (P := fun _ => True) HO.out.2.2 (fun _ _ => trivial)).ints (by have := HO.out.2.1; omega)
          have hc2 := HU.out.most
          subst en
          obtain ⟨n, hn⟩ : ∃ n, numAt ns k = n := ⟨_, rfl⟩
          rw [hn] at cN hEk hMk hfr hfd
          have HEK := Lib.hid hEk
          have HMK := Lib.hid hMk
          have HFR := Lib.hid hfr
          obtain ⟨p, hp⟩ : ∃ p, findN L n = p := ⟨_, rfl⟩
          obtain ⟨bb, hbb⟩ : ∃ bb, findB13 L n = bb := ⟨_, rfl⟩
          rw [hp, hbb] at HFR hfd
          have HLB : Hid (L.length ≤ 2000) := Lib.hid HO.out.2.1
          clear hcn hnb hEk hMk hfr hn hp hbb
          go_upto_region 12 with (go_at_call 29; refine hfd.mono ?_; rintro e w4 ⟨rfl, q, rfl⟩)
          have A4 := Lib.hid (HAr.out.step (drawn_below (Below.refl _ _) q))
          have HO4 := Lib.hid (And.intro HO.out.1 (Rw.step HO.out.2.2 (drawn_below (Below.refl _ wr) q)))
          obtain ⟨W4, hW4⟩ : ∃ W4, wr.drewN q = W4 := ⟨_, rfl⟩
          rw [hW4] at A4 HO4 ⊢
          clear hW4 hfd HAr HO cN
          obtain ⟨e0, e1, g0, g1⟩ := A4.out.facts2
          by_cases q1 : n < 1
          · have d1 : decide (n < 1) = true := decide_eq_true q1
            have HR : Hid (E = 31) := Lib.hid (HEK.out 31 HU.out hlt (by rw [if_pos (Or.inl q1)]) (by decide))
            clear q1
            go_wp2
            refine bodyPost_ret (results_row_slot rfl _ _ (w.heap.size + 1) _ rfl (ix_load (two_stored14 A4.out.res _ _))) rfl ?_
            rw [HR.out]
            exact A4.out.wrong (by decide) D
          have d1 : decide (n < 1) = false := decide_eq_false q1
          by_cases q2 : 999999 < n
          · have d2 : decide (999999 < n) = true := decide_eq_true q2
            have HR : Hid (E = 31) := Lib.hid (HEK.out 31 HU.out hlt (by rw [if_pos (Or.inr q2)]) (by decide))
            clear q1 q2
            go_wp2
            refine bodyPost_ret (results_row_slot rfl _ _ (w.heap.size + 1) _ rfl (ix_load (two_stored14 A4.out.res _ _))) rfl ?_
            rw [HR.out]
            exact A4.out.wrong (by decide) D
          have d2 : decide (999999 < n) = false := decide_eq_false q2
          have q12 : ¬ (n < 1 ∨ 999999 < n) := by omega
          rcases HFR.out with ⟨m1, rfl, _, _⟩ | ⟨m1, rfl, hpl⟩
          · have HR : Hid (E = 32) := Lib.hid (HEK.out 32 HU.out hlt (by rw [if_neg q12, if_pos m1]) (by decide))
            clear q1 q2 q12 m1
            go_wp2
            refine bodyPost_ret (results_row_slot rfl _ _ (w.heap.size + 1) _ rfl (ix_load (two_stored14 A4.out.res _ _))) rfl ?_
            rw [HR.out]
            exact A4.out.wrong (by decide) D
          by_cases q3 : c = 2000
          · have d3 : ((c : Int) == 2000) = true := by rw [q3]; rfl
            have HR : Hid (E = 37) := Lib.hid (HEK.out 37 HU.out hlt (by rw [if_neg q12, if_neg m1, if_pos (by omega)]) (by decide))
            clear q1 q2 q12 m1 q3 hpl
            go_wp2
            refine bodyPost_ret (results_row_slot rfl _ _ (w.heap.size + 1) _ rfl (ix_load (two_stored14 A4.out.res _ _))) rfl ?_
            rw [HR.out]
            exact A4.out.wrong (by decide) D
          have d3 : ((c : Int) == 2000) = false := by rw [beq_eq_false_iff_ne]; omega
          have hU2 := HMK.out (by omega) m1 q3
          have hplo : p ≤ L.length := by rw [hpl]; exact (low_spec L n L.length).1
          rw [← hpl] at hU2
          have hU := Lib.hid hU2
          have hcl : (intCells L).length = L.length := intCells_len L
          have hwo := with_ok (l := intCells L) (p := p) (by rw [hcl]; exact hplo) (.int .i64 n)
          have hwt := pwith_in oa L.length oc (p : Int) n (intCells L) (w.heap.size + 2) W4 hcl HO4.out.1 (by have := HLB.out; omega) HO4.out.2 (intCells_one L)
          rw [hcl] at hwo
          rw [hwo.1, hwo.2, intCells_with] at hwt
          unfold GivesC at hwt
          rw [intCells_len] at hwt
          have HLW : Hid ((with13 L p n).length ≤ 2000) := Lib.hid (by
            rw [hU2.nums]
            have := of_len (insP m (s, n)) s
            have := hU2.cnt
            have := hU2.most
            omega)
          clear q1 q2 q12 m1 q3 hpl hplo hcl hwo HFR HEK HMK hU2 HU
          obtain ⟨M, hM⟩ : ∃ M, with13 L p n = M := ⟨_, rfl⟩
          rw [hM] at hwt hU HLW
          clear hM
          go_wp2_with (go_at_call 30; refine hwt.mono ?_; rintro e w5 ⟨wa, wc, rfl, hwc, hw, hb⟩; have A5 := Lib.hid (A4.out.step hb); have HW5 := Lib.hid (And.intro hwc (And.intro HLW.out (hw.wide (A' := w.heap.size + 2) (by have := obj_lt A4.out.res; omega) (Nat.le_refl _)))); clear hwc hw hb)
          go_roundw
          case rel => exact ⟨k + 1, _, M, c + 1, wa, wc, rfl, by first | rfl | go_num, by first | rfl | go_num, by omega, hU, A5, HW5⟩
          case measure => first | (simp [intOf]; omega) | simp [intOf]
        · obtain rfl : k = ns.length := by omega
          have HR : Hid (E = 0) := Lib.hid (HZ.out m L c HU.out)
          have hfacts := HAr.out.facts
          obtain ⟨d0, d1⟩ := hfacts
          have hput := pput14_any ka kc ia ic K I s oa oc L wr HAr.out.ix HS.out HF.out.1 w.heap.size (obj_lt HAr.out.res) (rw_intsO (P := Off w.heap.size) HO.out.2.2 (fun b hb => by unfold Off; omega)) HO.out.1 (by have := HO.out.2.1; omega) HC.out HU.out.rises
          go_wp2_with (go_at_call 31; refine hput.mono ?_; rintro e w6 ⟨k6, kc6, i6, ic6, K6, I6, cs6, rfl, hix, hpt, hb⟩; have H6 := Lib.hid (And.intro hix (And.intro hpt hb)); have A6 := Lib.hid (HAr.out.step hb); obtain ⟨e0, e1, g0, g1⟩ := A6.out.facts2; clear hix hpt hb)
          refine bodyPost_ret (results_row_slot rfl _ _ (w.heap.size + 1) _ rfl (ix_load (two_stored14 A6.out.res _ _))) rfl ?_
          rw [HR.out]
          exact HAr.out.right H6.out.1 H6.out.2.2 (HDN.out m L c HU.out _ _ H6.out.2.1)
  · rw [hok] at hck ⊢
    unfold okE at hck ⊢
    simp only [Bool.false_eq_true, if_false] at hck ⊢
    clear hok
    generalize addsL s (pairsV K I) ns = D at *
    go_enter Try.func18, Try.ntmps18
    go_wp2_with (go_at_call 10; refine hck.mono ?_; rintro e w2 ⟨rfl, hb⟩; have A2 := Lib.hid (HA.out.step hb); obtain ⟨e0, e1, g0, g1⟩ := A2.out.facts2; clear hb)
    refine bodyPost_ret (results_row_slot rfl _ _ (w.heap.size + 1) _ rfl (ix_load (two_stored14 A2.out.res _ _))) rfl ?_
    exact A2.out.wrong (by decide) D
end Go.Proofs.Ytnbmccfaomhppaa
